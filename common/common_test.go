package common_test

import (
	"cmp"
	"math"
	"slices"
	"testing"

	"brambleweir/api"
	"brambleweir/common"
	"brambleweir/plain"
	"brambleweir/tree"
)

// edges returns the edges between the given pairs of vertices.
func edges(ends ...int) []api.Line {
	lines := []api.Line{}
	for i := 0; i+1 < len(ends); i += 2 {
		lines = append(lines, api.Line{A: ends[i], B: ends[i+1]})
	}
	return lines
}

// path returns the edges between the vertices that follow each other.
func path(vertices ...int) []api.Line {
	lines := []api.Line{}
	for i := 1; i < len(vertices); i++ {
		lines = append(lines, api.Line{A: vertices[i-1], B: vertices[i]})
	}
	return lines
}

// ring returns the edges of the cycle of the vertices.
func ring(vertices ...int) []api.Line {
	return append(path(vertices...), api.Line{A: vertices[len(vertices)-1], B: vertices[0]})
}

// star returns the edges between a vertex and each of the others.
func star(center int, others ...int) []api.Line {
	lines := []api.Line{}
	for _, v := range others {
		lines = append(lines, api.Line{A: center, B: v})
	}
	return lines
}

// joined returns all the edges of the lists.
func joined(lists ...[]api.Line) []api.Line {
	return slices.Concat(lists...)
}

// everyPair returns the edges of the complete graph.
func everyPair(n int) []api.Line {
	lines := []api.Line{}
	for a := range n {
		for b := a + 1; b < n; b++ {
			lines = append(lines, api.Line{A: a, B: b})
		}
	}
	return lines
}

// turned returns the edges in the opposite order, with their ends swapped.
func turned(lines []api.Line) []api.Line {
	out := []api.Line{}
	for _, line := range slices.Backward(lines) {
		out = append(out, api.Line{A: line.B, B: line.A})
	}
	return out
}

// mixer returns a function of which each call gives the next number below its
// argument of a fixed sequence without visible order.
func mixer() func(below int) int {
	state := uint64(88172645463325252)
	return func(below int) int {
		state ^= state << 13
		state ^= state >> 7
		state ^= state << 17
		return int(state>>11) % below
	}
}

// renumbered returns the edges in no order, in both directions, and with the vertices
// 0 to n-1 exchanged.
func renumbered(below func(int) int, n int, lines []api.Line) []api.Line {
	numbers := []int{}
	for v := range n {
		numbers = slices.Insert(numbers, below(v+1), v)
	}
	out := []api.Line{}
	for _, line := range lines {
		line = api.Line{A: numbers[line.A], B: numbers[line.B]}
		if below(2) == 0 {
			line.A, line.B = line.B, line.A
		}
		out = slices.Insert(out, below(len(out)+1), line)
	}
	return out
}

// growing calls a function with every tree of n vertices in which each vertex but 0 is
// joined with one smaller vertex. Each tree is isomorphic to one of them.
func growing(n int, call func(lines []api.Line)) {
	var grow func(lines []api.Line)
	grow = func(lines []api.Line) {
		v := len(lines) + 1
		if v == n {
			call(slices.Clone(lines))
			return
		}
		for w := range v {
			grow(append(lines, api.Line{A: w, B: v}))
		}
	}
	grow(nil)
}

// everyTree calls a function with the sorted edges of every tree on n vertices.
func everyTree(n int, call func(lines []api.Line)) {
	all := everyPair(n)
	var grow func(lines []api.Line, from int)
	grow = func(lines []api.Line, from int) {
		if len(lines) == n-1 {
			if tree.Check(n, lines) == nil {
				call(slices.Clone(lines))
			}
			return
		}
		for i := from; i < len(all); i++ {
			grow(append(lines, all[i]), i+1)
		}
	}
	grow(nil, 0)
}

// distancesOf is the definition of the distances in a tree: each vertex in turn may be
// passed on the way.
func distancesOf(n int, lines []api.Line) [][]int {
	far := make([][]int, n)
	for v := range far {
		far[v] = slices.Repeat([]int{n}, n)
		far[v][v] = 0
	}
	for _, line := range lines {
		far[line.A][line.B], far[line.B][line.A] = 1, 1
	}
	for by := range n {
		for a := range n {
			for b := range n {
				far[a][b] = min(far[a][b], far[a][by]+far[by][b])
			}
		}
	}
	return far
}

// wayOf is the definition of Way: the vertices that are no detour, from a on.
func wayOf(far [][]int, a, b int) []int {
	way := []int{}
	for v := range far {
		if far[a][v]+far[v][b] == far[a][b] {
			way = append(way, v)
		}
	}
	slices.SortFunc(way, func(v, w int) int { return cmp.Compare(far[a][v], far[a][w]) })
	return way
}

// upsOf is the definition of Ups: the second vertex on the path to the root.
func upsOf(far [][]int, root int) []int {
	ups := []int{}
	for v := range far {
		way := append(wayOf(far, v, root), -1)
		ups = append(ups, way[1])
	}
	return ups
}

// commonOf is the definition of Of.
func commonOf(far [][]int, root, a, b int) int {
	found := root
	for _, v := range wayOf(far, a, root) {
		if slices.Contains(wayOf(far, b, root), v) && far[root][v] > far[root][found] {
			found = v
		}
	}
	return found
}

// expectUps compares Ups with the parents, or with an error and none.
func expectUps(t *testing.T, n int, lines []api.Line, root int, want []int, wantErr api.Errno) {
	t.Helper()
	got, err := common.Ups(n, lines, root)
	if plain.Told(err) != wantErr || !slices.Equal(got, want) {
		t.Errorf("Ups(%d, %v, %d) = %v, %v, want %v, %v", n, lines, root, got, err, want, wantErr)
	}
}

// expectOf compares Of with a vertex, or with an error and 0.
func expectOf(t *testing.T, n int, lines []api.Line, root, a, b int, want int, wantErr api.Errno) {
	t.Helper()
	got, err := common.Of(n, lines, root, a, b)
	if plain.Told(err) != wantErr || got != want {
		t.Errorf("Of(%d, %v, %d, %d, %d) = %d, %v, want %d, %v",
			n, lines, root, a, b, got, err, want, wantErr)
	}
}

// expectWay compares Way with a path, or with an error and none.
func expectWay(t *testing.T, n int, lines []api.Line, a, b int, want []int, wantErr api.Errno) {
	t.Helper()
	got, err := common.Way(n, lines, a, b)
	if plain.Told(err) != wantErr || !slices.Equal(got, want) {
		t.Errorf("Way(%d, %v, %d, %d) = %v, %v, want %v, %v", n, lines, a, b, got, err, want, wantErr)
	}
}

// expectErrors compares the errors of all functions for a graph that has one itself.
func expectErrors(t *testing.T, n int, lines []api.Line, want api.Errno) {
	t.Helper()
	expectUps(t, n, lines, 0, nil, want)
	expectOf(t, n, lines, 0, 0, 0, 0, want)
	expectWay(t, n, lines, 0, 0, nil, want)
	// Numbers that are no vertices are found later.
	for _, v := range []int{-1, n, math.MinInt, math.MaxInt} {
		expectUps(t, n, lines, v, nil, want)
		expectOf(t, n, lines, v, 0, 0, 0, want)
		expectOf(t, n, lines, 0, v, 0, 0, want)
		expectOf(t, n, lines, 0, 0, v, 0, want)
		expectOf(t, n, lines, v, v, v, 0, want)
		expectWay(t, n, lines, v, 0, nil, want)
		expectWay(t, n, lines, 0, v, nil, want)
		expectWay(t, n, lines, v, v, nil, want)
	}
}

// fork is a tree of three branches of different lengths: 3-0-5, 3-6 and 3-1-7-2, and 4
// beside 2 at 7.
func fork() []api.Line {
	return joined(path(3, 0, 5), path(3, 6), path(3, 1, 7, 2), path(7, 4))
}

// TestUps covers R21.1.
func TestUps(t *testing.T) {
	for _, c := range []struct {
		n     int
		lines []api.Line
		root  int
		want  []int
	}{
		// The example of the document, and the other roots.
		{3, path(0, 1, 2), 1, []int{1, -1, 1}},
		{3, path(0, 1, 2), 0, []int{-1, 0, 1}},
		{3, path(0, 1, 2), 2, []int{1, 2, -1}},
		{1, nil, 0, []int{-1}},
		{1, edges(), 0, []int{-1}},
		{2, edges(0, 1), 0, []int{-1, 0}},
		{2, edges(0, 1), 1, []int{1, -1}},
		{4, star(2, 0, 1, 3), 2, []int{2, 2, -1, 2}},
		{4, star(2, 0, 1, 3), 0, []int{-1, 2, 0, 2}},
		{4, star(2, 0, 1, 3), 3, []int{2, 2, 3, -1}},
		{5, path(4, 2, 0, 3, 1), 4, []int{2, 3, 4, 0, -1}},
		{5, path(4, 2, 0, 3, 1), 1, []int{3, -1, 0, 1, 2}},
		{8, fork(), 3, []int{3, 3, 7, -1, 7, 0, 3, 1}},
		{8, fork(), 0, []int{-1, 3, 7, 0, 7, 0, 3, 1}},
		{8, fork(), 7, []int{3, 7, 7, 1, 7, 0, 3, -1}},
		{8, fork(), 4, []int{3, 7, 7, 1, -1, 0, 3, 4}},
		{8, path(0, 1, 2, 3, 4, 5, 6, 7), 0, []int{-1, 0, 1, 2, 3, 4, 5, 6}},
		{8, path(0, 1, 2, 3, 4, 5, 6, 7), 7, []int{1, 2, 3, 4, 5, 6, 7, -1}},
		{8, star(7, 0, 1, 2, 3, 4, 5, 6), 7, []int{7, 7, 7, 7, 7, 7, 7, -1}},
	} {
		expectUps(t, c.n, c.lines, c.root, c.want, api.OK)
		expectUps(t, c.n, turned(c.lines), c.root, c.want, api.OK)
	}
}

// TestOf covers R21.2; a and b may be the same, one above the other, and the root.
func TestOf(t *testing.T) {
	for _, c := range []struct {
		n          int
		lines      []api.Line
		root, a, b int
		want       int
	}{
		{1, nil, 0, 0, 0, 0},
		{2, edges(0, 1), 0, 1, 1, 1},
		{2, edges(0, 1), 0, 0, 1, 0},
		{2, edges(0, 1), 1, 0, 1, 1},
		{2, edges(0, 1), 1, 0, 0, 0},
		{3, path(0, 1, 2), 0, 1, 2, 1},
		{3, path(0, 1, 2), 1, 0, 2, 1},
		{3, path(0, 1, 2), 2, 0, 1, 1},
		{3, path(0, 1, 2), 0, 0, 2, 0},
		{4, star(2, 0, 1, 3), 0, 1, 3, 2},
		{4, star(2, 0, 1, 3), 1, 1, 3, 1},
		{8, fork(), 3, 2, 4, 7},
		{8, fork(), 3, 4, 1, 1},
		{8, fork(), 3, 5, 0, 0},
		{8, fork(), 3, 5, 6, 3},
		{8, fork(), 3, 4, 5, 3},
		{8, fork(), 3, 4, 4, 4},
		{8, fork(), 3, 3, 3, 3},
		// The result depends on the root.
		{8, fork(), 2, 5, 6, 3},
		{8, fork(), 2, 4, 5, 7},
		{8, fork(), 2, 4, 1, 7},
		{8, fork(), 5, 2, 4, 7},
		{8, fork(), 5, 6, 4, 3},
		{8, fork(), 5, 0, 6, 0},
		{8, fork(), 0, 5, 6, 0},
		{8, path(0, 1, 2, 3, 4, 5, 6, 7), 3, 0, 2, 2},
		{8, path(0, 1, 2, 3, 4, 5, 6, 7), 3, 0, 7, 3},
		{8, path(0, 1, 2, 3, 4, 5, 6, 7), 3, 7, 5, 5},
		{8, path(0, 1, 2, 3, 4, 5, 6, 7), 0, 7, 6, 6},
	} {
		for _, lines := range [][]api.Line{c.lines, turned(c.lines)} {
			expectOf(t, c.n, lines, c.root, c.a, c.b, c.want, api.OK)
			expectOf(t, c.n, lines, c.root, c.b, c.a, c.want, api.OK)
		}
	}
}

// TestWay covers R21.3; the path from b to a is the same one in the other direction.
func TestWay(t *testing.T) {
	for _, c := range []struct {
		n     int
		lines []api.Line
		want  []int
	}{
		// The example of the document.
		{3, path(0, 1, 2), []int{0, 1, 2}},
		{3, path(0, 1, 2), []int{0, 1}},
		{3, path(0, 1, 2), []int{1}},
		{1, nil, []int{0}},
		{2, edges(0, 1), []int{1, 0}},
		{2, edges(0, 1), []int{1}},
		{4, star(2, 0, 1, 3), []int{3, 2, 0}},
		{8, fork(), []int{5, 0, 3, 6}},
		{8, fork(), []int{5, 0, 3, 1, 7, 4}},
		{8, fork(), []int{2, 7, 4}},
		{8, fork(), []int{1, 3}},
		{8, fork(), []int{6}},
		{8, path(0, 1, 2, 3, 4, 5, 6, 7), []int{0, 1, 2, 3, 4, 5, 6, 7}},
		{8, path(3, 5, 0, 7, 2, 6, 4, 1), []int{3, 5, 0, 7, 2, 6, 4, 1}},
		{8, path(3, 5, 0, 7, 2, 6, 4, 1), []int{5, 0, 7, 2, 6}},
	} {
		a, b := c.want[0], c.want[len(c.want)-1]
		back := slices.Clone(c.want)
		slices.Reverse(back)
		for _, lines := range [][]api.Line{c.lines, turned(c.lines)} {
			expectWay(t, c.n, lines, a, b, c.want, api.OK)
			expectWay(t, c.n, lines, b, a, back, api.OK)
		}
	}
}

// expectDefinitions compares all results for a tree with their definitions.
func expectDefinitions(t *testing.T, n int, lines []api.Line) {
	t.Helper()
	far := distancesOf(n, lines)
	for root := range n {
		expectUps(t, n, lines, root, upsOf(far, root), api.OK)
		for a := range n {
			expectWay(t, n, lines, a, root, wayOf(far, a, root), api.OK)
			for b := range n {
				expectOf(t, n, lines, root, a, b, commonOf(far, root, a, b), api.OK)
			}
		}
	}
}

// TestEveryTree covers R21.1 to R21.3 with their definitions, for every tree of at
// most 5 vertices.
func TestEveryTree(t *testing.T) {
	counts := map[int]int{1: 1, 2: 1, 3: 3, 4: 16, 5: 125}
	for n, want := range counts {
		count := 0
		everyTree(n, func(lines []api.Line) {
			count++
			expectDefinitions(t, n, lines)
			expectDefinitions(t, n, turned(lines))
		})
		if count != want {
			t.Errorf("%d trees on %d vertices, want %d", count, n, want)
		}
	}
}

// TestLargeTrees covers R21.1 to R21.3 with their definitions, for trees of more
// vertices, which are numbered in no order.
func TestLargeTrees(t *testing.T) {
	below := mixer()
	atRoot, atEnd, between := 0, 0, 0
	for n := 6; n <= api.MaxPts; n++ {
		growing(n, func(lines []api.Line) {
			lines = renumbered(below, n, lines)
			far := distancesOf(n, lines)
			root, a, b := below(n), below(n), below(n)
			want := commonOf(far, root, a, b)
			expectUps(t, n, lines, root, upsOf(far, root), api.OK)
			expectWay(t, n, lines, a, b, wayOf(far, a, b), api.OK)
			expectOf(t, n, lines, root, a, b, want, api.OK)
			switch want {
			case root:
				atRoot++
			case a, b:
				atEnd++
			default:
				between++
			}
		})
	}
	if min(atRoot, atEnd, between) < 500 {
		t.Errorf("the common ancestor is %d times the root, %d times a or b, %d times another vertex: "+
			"too few of a kind", atRoot, atEnd, between)
	}
}

// TestTreeErrors covers the errors of tree.Check in R21.1 to R21.3, and their order;
// they come before those of the root and of a and b.
func TestTreeErrors(t *testing.T) {
	for _, c := range []struct {
		n     int
		lines []api.Line
		want  api.Errno
	}{
		{0, nil, api.ErrRange},
		{-1, nil, api.ErrRange},
		{9, nil, api.ErrRange},
		{9, path(0, 1, 2, 3, 4, 5, 6, 7, 8), api.ErrRange},
		{1<<32 + 1, nil, api.ErrRange},
		{1<<32 + 3, path(0, 1, 2), api.ErrRange},
		{math.MinInt, nil, api.ErrRange},
		{math.MaxInt, nil, api.ErrRange},
		{0, slices.Repeat(edges(0, 1), 25), api.ErrRange},
		{9, edges(1, 1), api.ErrRange},
		{1, slices.Repeat(edges(0, 0), 25), api.ErrFull},
		{2, slices.Repeat(edges(0, 1), 25), api.ErrFull},
		{3, slices.Repeat(edges(0, 3), 25), api.ErrFull},
		{8, everyPair(8), api.ErrFull},
		{1, edges(0, 0), api.ErrShape},
		{1, edges(0, 1), api.ErrRange},
		{2, edges(0, 2), api.ErrRange},
		{2, edges(0, -1), api.ErrRange},
		{2, edges(1, 1), api.ErrShape},
		{2, edges(2, 2), api.ErrRange},
		{3, edges(0, 1, 1, math.MaxInt), api.ErrRange},
		{3, edges(math.MinInt, 1, 1, 2), api.ErrRange},
		{3, edges(1, 1, 0, 3), api.ErrShape},
		{3, edges(0, 3, 1, 1), api.ErrRange},
		{3, joined(path(0, 1, 2), edges(2, 2)), api.ErrShape},
		{3, joined(ring(0, 1, 2), edges(0, 3)), api.ErrRange},
		// There are too few edges.
		{2, nil, api.ErrState},
		{3, edges(0, 1), api.ErrState},
		{8, path(0, 1, 2, 3, 4, 5, 6), api.ErrState},
		// There are too many edges.
		{2, edges(0, 1, 1, 0), api.ErrState},
		{2, slices.Repeat(edges(0, 1), 24), api.ErrState},
		{3, ring(0, 1, 2), api.ErrState},
		{3, joined(path(0, 1, 2), edges(0, 1)), api.ErrState},
		{8, everyPair(8)[:24], api.ErrState},
		// Not all vertices are connected.
		{3, edges(0, 1, 0, 1), api.ErrState},
		{4, ring(0, 1, 2), api.ErrState},
		{4, ring(1, 2, 3), api.ErrState},
		{8, ring(0, 1, 2, 3, 4, 5, 6), api.ErrState},
	} {
		if err := tree.Check(c.n, c.lines); plain.Told(err) != c.want {
			t.Errorf("tree.Check(%d, %v) = %v, want %v", c.n, c.lines, err, c.want)
		}
		expectErrors(t, c.n, c.lines, c.want)
	}
}

// TestVertexErrors covers the ErrRange of R21.1 to R21.3 for the root and for a and b
// that are not vertices.
func TestVertexErrors(t *testing.T) {
	vertices := []int{0, 1, 2, 3, 4, 5, 6, 7}
	for n := 1; n <= api.MaxPts; n++ {
		lines := path(vertices[:n]...)
		for _, v := range []int{-1, n, n + 1, 8, math.MinInt, math.MaxInt, -1 << 32, 1 << 32} {
			for _, w := range []int{0, n - 1, v} {
				expectUps(t, n, lines, v, nil, api.ErrRange)
				expectOf(t, n, lines, v, w, w, 0, api.ErrRange)
				expectOf(t, n, lines, w, v, w, 0, api.ErrRange)
				expectOf(t, n, lines, w, w, v, 0, api.ErrRange)
				expectOf(t, n, lines, n-1, v, w, 0, api.ErrRange)
				expectOf(t, n, lines, n-1, w, v, 0, api.ErrRange)
				expectWay(t, n, lines, v, w, nil, api.ErrRange)
				expectWay(t, n, lines, w, v, nil, api.ErrRange)
			}
		}
	}
}

// fill overwrites a slice and its spare capacity.
func fill(list []int) {
	list = list[:cap(list)]
	for i := range list {
		list[i] = 99
	}
}

// TestNoAliasing covers Z2: the edges and the memory behind them stay as they are,
// with an error too, and a later result does not depend on what became of an earlier
// one.
func TestNoAliasing(t *testing.T) {
	for _, lines := range [][]api.Line{
		path(3, 1, 0, 2), star(2, 3, 1, 0), joined(path(3, 2), edges(0, 1, 2, 0)),
		{}, ring(3, 2, 1), ring(3, 2, 1, 0), everyPair(4), slices.Repeat(edges(3, 2), 24),
		edges(1, 0, 1, 1, 3, 2), edges(1, 0, 0, 4, 3, 2), slices.Repeat(edges(2, 1), 25),
	} {
		memory := joined(lines, edges(7, 7, 7, 7, 7, 7, 7, 7))
		argument := memory[:len(lines)]
		kept := slices.Clone(memory)
		wantErr := plain.Told(tree.Check(4, argument))
		ups, _ := common.Ups(4, argument, 3)
		wantUps := slices.Clone(ups)
		fill(ups)
		way, _ := common.Way(4, argument, 1, 2)
		wantWay := slices.Clone(way)
		fill(way)
		ancestor, _ := common.Of(4, argument, 3, 1, 2)
		if !slices.Equal(memory, kept) {
			t.Errorf("a call with %v changes its argument", lines)
		}
		expectUps(t, 4, argument, 3, wantUps, wantErr)
		expectWay(t, 4, argument, 1, 2, wantWay, wantErr)
		expectOf(t, 4, argument, 3, 1, 2, ancestor, wantErr)
	}
}
