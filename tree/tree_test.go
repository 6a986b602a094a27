package tree_test

import (
	"math"
	"slices"
	"strings"
	"testing"

	"brambleweir/api"
	"brambleweir/graph"
	"brambleweir/plain"
	"brambleweir/tree"
)

// edges returns the edges between the given pairs of vertices.
func edges(ends ...int) []api.Line {
	lines := []api.Line{}
	for i := 0; i+1 < len(ends); i += 2 {
		lines = append(lines, api.Line{A: ends[i], B: ends[i+1]})
	}
	return lines
}

// path returns the edges between the vertices that follow each other.
func path(vertices ...int) []api.Line {
	lines := []api.Line{}
	for i := 1; i < len(vertices); i++ {
		lines = append(lines, api.Line{A: vertices[i-1], B: vertices[i]})
	}
	return lines
}

// ring returns the edges of the cycle of the vertices.
func ring(vertices ...int) []api.Line {
	return append(path(vertices...), api.Line{A: vertices[len(vertices)-1], B: vertices[0]})
}

// star returns the edges between a vertex and each of the others.
func star(center int, others ...int) []api.Line {
	lines := []api.Line{}
	for _, v := range others {
		lines = append(lines, api.Line{A: center, B: v})
	}
	return lines
}

// joined returns all the edges of the lists.
func joined(lists ...[]api.Line) []api.Line {
	return slices.Concat(lists...)
}

// everyPair returns the edges of the complete graph.
func everyPair(n int) []api.Line {
	lines := []api.Line{}
	for a := range n {
		for b := a + 1; b < n; b++ {
			lines = append(lines, api.Line{A: a, B: b})
		}
	}
	return lines
}

// turned returns the edges in the opposite order, with their ends swapped.
func turned(lines []api.Line) []api.Line {
	out := []api.Line{}
	for _, line := range slices.Backward(lines) {
		out = append(out, api.Line{A: line.B, B: line.A})
	}
	return out
}

// mixer returns a function of which each call gives the next number below its
// argument of a fixed sequence without visible order.
func mixer() func(below int) int {
	state := uint64(88172645463325252)
	return func(below int) int {
		state ^= state << 13
		state ^= state >> 7
		state ^= state << 17
		return int(state>>11) % below
	}
}

// renumbered returns the edges in no order, in both directions, and with the vertices
// 0 to n-1 exchanged.
func renumbered(below func(int) int, n int, lines []api.Line) []api.Line {
	numbers := []int{}
	for v := range n {
		numbers = slices.Insert(numbers, below(v+1), v)
	}
	out := []api.Line{}
	for _, line := range lines {
		line = api.Line{A: numbers[line.A], B: numbers[line.B]}
		if below(2) == 0 {
			line.A, line.B = line.B, line.A
		}
		out = slices.Insert(out, below(len(out)+1), line)
	}
	return out
}

// growing calls a function with every tree of n vertices in which each vertex but 0 is
// joined with one smaller vertex. Each tree is isomorphic to one of them.
func growing(n int, call func(lines []api.Line)) {
	var grow func(lines []api.Line)
	grow = func(lines []api.Line) {
		v := len(lines) + 1
		if v == n {
			call(slices.Clone(lines))
			return
		}
		for w := range v {
			grow(append(lines, api.Line{A: w, B: v}))
		}
	}
	grow(nil)
}

// smallGraphs calls a function with every graph of at most 5 vertices, and with its
// edges in the other direction and order, and doubled.
func smallGraphs(call func(n int, lines []api.Line)) {
	for n := 1; n <= 5; n++ {
		all := everyPair(n)
		for mask := range 1 << len(all) {
			lines := []api.Line{}
			for i, line := range all {
				if mask>>i&1 == 1 {
					lines = append(lines, line)
				}
			}
			call(n, lines)
			call(n, turned(lines))
			call(n, append(turned(lines), lines...))
		}
	}
}

// nearTrees calls a function with renumbered trees of all sizes, and with each of them
// after an edge was added, removed, or put in the place of another one; the new edge
// may be parallel to one of the tree.
func nearTrees(call func(n int, lines []api.Line)) {
	below := mixer()
	for n := 2; n <= api.MaxPts; n++ {
		all := everyPair(n)
		growing(n, func(lines []api.Line) {
			lines = renumbered(below, n, lines)
			call(n, lines)
			i := below(len(lines))
			call(n, slices.Delete(slices.Clone(lines), i, i+1))
			line := all[below(len(all))]
			call(n, slices.Insert(slices.Clone(lines), i, line))
			lines[i] = line
			call(n, lines)
		})
	}
}

// everyGraph calls a function with all the graphs above.
func everyGraph(call func(n int, lines []api.Line)) {
	smallGraphs(call)
	nearTrees(call)
}

// distancesOf is the definition of the distances: each vertex in turn may be passed on
// the way. Vertices that are not connected have a distance of at least n.
func distancesOf(n int, lines []api.Line) [][]int {
	far := make([][]int, n)
	for v := range far {
		far[v] = slices.Repeat([]int{n}, n)
		far[v][v] = 0
	}
	for _, line := range lines {
		far[line.A][line.B], far[line.B][line.A] = 1, 1
	}
	for by := range n {
		for a := range n {
			for b := range n {
				far[a][b] = min(far[a][b], far[a][by]+far[by][b])
			}
		}
	}
	return far
}

// checkOf is the definition of Check for a valid graph.
func checkOf(n int, lines []api.Line) api.Errno {
	if len(lines) != n-1 || slices.Max(slices.Concat(distancesOf(n, lines)...)) >= n {
		return api.ErrState
	}
	return api.OK
}

// middleOf is the definition of Middle and Long for a tree.
func middleOf(n int, lines []api.Line) (center []int, least, most int) {
	least = n
	for v, far := range distancesOf(n, lines) {
		eccentricity := slices.Max(far)
		most = max(most, eccentricity)
		if eccentricity < least {
			center, least = nil, eccentricity
		}
		if eccentricity == least {
			center = append(center, v)
		}
	}
	return center, least, most
}

// rootedOf is the definition of the string of a vertex seen from none. It goes from
// the vertices with the largest distance to that vertex up to itself, and hands each
// string on to the neighbor that is nearer.
func rootedOf(n int, lines []api.Line, root int) string {
	far := distancesOf(n, lines)
	inner := make([][]string, n)
	for distance := n - 1; ; distance-- {
		for v := range n {
			if far[root][v] != distance {
				continue
			}
			slices.SortFunc(inner[v], strings.Compare)
			name := "("
			for _, part := range inner[v] {
				name += part
			}
			name += ")"
			if v == root {
				return name
			}
			up := slices.IndexFunc(far, func(other []int) bool { return other[v] == 1 && other[root] == distance-1 })
			inner[up] = append(inner[up], name)
		}
	}
}

// nameOf is the definition of Name for a tree; equal tells whether all vertices of the
// center have the same string.
func nameOf(n int, lines []api.Line) (name string, equal bool) {
	center, _, _ := middleOf(n, lines)
	name, equal = rootedOf(n, lines, center[0]), true
	for _, v := range center[1:] {
		other := rootedOf(n, lines, v)
		equal = equal && other == name
		name = min(name, other)
	}
	return name, equal
}

// expectCheck compares the error of Check.
func expectCheck(t *testing.T, n int, lines []api.Line, want api.Errno) {
	t.Helper()
	if err := tree.Check(n, lines); plain.Told(err) != want {
		t.Errorf("Check(%d, %v) = %v, want %v", n, lines, err, want)
	}
}

// expectMiddle compares Middle with a center and its eccentricity, or with an error
// and none.
func expectMiddle(t *testing.T, n int, lines []api.Line, want []int, wantFar int, wantErr api.Errno) {
	t.Helper()
	got, far, err := tree.Middle(n, lines)
	if plain.Told(err) != wantErr || !slices.Equal(got, want) || far != wantFar {
		t.Errorf("Middle(%d, %v) = %v, %d, %v, want %v, %d, %v", n, lines, got, far, err, want, wantFar, wantErr)
	}
}

// expectLong compares Long with a diameter, or with an error and 0.
func expectLong(t *testing.T, n int, lines []api.Line, want int, wantErr api.Errno) {
	t.Helper()
	got, err := tree.Long(n, lines)
	if plain.Told(err) != wantErr || got != want {
		t.Errorf("Long(%d, %v) = %d, %v, want %d, %v", n, lines, got, err, want, wantErr)
	}
}

// expectName compares Name with a string, or with an error and the empty string.
func expectName(t *testing.T, n int, lines []api.Line, want string, wantErr api.Errno) {
	t.Helper()
	got, err := tree.Name(n, lines)
	if plain.Told(err) != wantErr || got != want {
		t.Errorf("Name(%d, %v) = %q, %v, want %q, %v", n, lines, got, err, want, wantErr)
	}
}

// expectErrors compares the errors of all functions.
func expectErrors(t *testing.T, n int, lines []api.Line, want api.Errno) {
	t.Helper()
	expectCheck(t, n, lines, want)
	expectMiddle(t, n, lines, nil, 0, want)
	expectLong(t, n, lines, 0, want)
	expectName(t, n, lines, "", want)
}

// measured is a tree, and the results of Middle, Long and Name.
type measured struct {
	n      int
	lines  []api.Line
	center []int
	least  int
	most   int
	name   string
}

// trees are trees with one and with two vertices in the center. In the strings, a deep
// neighbor comes before a flat one, because the bracket that opens is the smaller sign.
func trees() []measured {
	return []measured{
		{1, nil, []int{0}, 0, 0, "()"},
		{1, edges(), []int{0}, 0, 0, "()"},
		{2, edges(0, 1), []int{0, 1}, 1, 1, "(())"},
		{2, edges(1, 0), []int{0, 1}, 1, 1, "(())"},
		// The example of the document, and its other numberings.
		{3, path(0, 1, 2), []int{1}, 1, 2, "(()())"},
		{3, path(1, 0, 2), []int{0}, 1, 2, "(()())"},
		{3, path(0, 2, 1), []int{2}, 1, 2, "(()())"},
		{4, path(0, 1, 2, 3), []int{1, 2}, 2, 3, "((())())"},
		{4, path(1, 3, 0, 2), []int{0, 3}, 2, 3, "((())())"},
		{4, star(2, 3, 0, 1), []int{2}, 1, 2, "(()()())"},
		{5, path(4, 2, 0, 3, 1), []int{0}, 2, 4, "((())(()))"},
		{5, star(4, 0, 1, 2, 3), []int{4}, 1, 2, "(()()()())"},
		// The strings of the two vertices of the center differ; the vertex of the smaller
		// one is the larger vertex, and then the smaller one.
		{5, joined(path(0, 1, 2, 3), edges(1, 4)), []int{1, 2}, 2, 3, "((()())())"},
		{5, joined(path(0, 1, 2, 3), edges(4, 2)), []int{1, 2}, 2, 3, "((()())())"},
		{6, joined(star(1, 0, 4), path(1, 2), star(2, 3, 5)), []int{1, 2}, 2, 3, "((()())()())"},
		{6, joined(star(1, 0, 4, 5), path(1, 2, 3)), []int{1, 2}, 2, 3, "((()()())())"},
		// Longer strings come before shorter ones: (()) before (), and (()()) before (()).
		{6, joined(path(0, 1, 2, 3, 4), edges(2, 5)), []int{2}, 2, 4, "((())(())())"},
		{6, joined(path(0, 1, 2, 3, 4), edges(1, 5)), []int{2}, 2, 4, "((()())(()))"},
		{8, joined(path(0, 1, 2, 3, 4, 5, 6), edges(2, 7)), []int{3}, 3, 6, "(((())())((())))"},
		{8, joined(path(6, 5, 4, 3, 2, 1, 0), edges(7, 3)), []int{3}, 3, 6, "(((()))((()))())"},
		{8, joined(path(0, 1, 2, 3, 4), star(2, 5), star(3, 6, 7)), []int{2}, 2, 4, "((()()())(())())"},
		{8, path(3, 5, 0, 7, 2, 6, 4, 1), []int{2, 7}, 4, 7, "((((())))((())))"},
		{8, star(0, 1, 2, 3, 4, 5, 6, 7), []int{0}, 1, 2, "(()()()()()()())"},
		{8, joined(star(7, 0, 1, 2), path(7, 3), star(3, 4, 5, 6)), []int{3, 7}, 2, 3, "((()()())()()())"},
	}
}

// TestCheck covers R19.1 for trees.
func TestCheck(t *testing.T) {
	for _, c := range trees() {
		expectCheck(t, c.n, c.lines, api.OK)
		expectCheck(t, c.n, turned(c.lines), api.OK)
	}
}

// TestMiddle covers R19.2.
func TestMiddle(t *testing.T) {
	for _, c := range trees() {
		expectMiddle(t, c.n, c.lines, c.center, c.least, api.OK)
		expectMiddle(t, c.n, turned(c.lines), c.center, c.least, api.OK)
	}
}

// TestLong covers R19.3.
func TestLong(t *testing.T) {
	for _, c := range trees() {
		expectLong(t, c.n, c.lines, c.most, api.OK)
		expectLong(t, c.n, turned(c.lines), c.most, api.OK)
	}
}

// TestName covers R19.4.
func TestName(t *testing.T) {
	for _, c := range trees() {
		expectName(t, c.n, c.lines, c.name, api.OK)
		expectName(t, c.n, turned(c.lines), c.name, api.OK)
	}
}

// TestNoTree covers the ErrState of R19.1 to R19.4.
func TestNoTree(t *testing.T) {
	for _, c := range []struct {
		n     int
		lines []api.Line
	}{
		// Too few edges.
		{2, nil},
		{2, edges()},
		{3, edges(0, 1)},
		{8, nil},
		{8, path(0, 1, 2, 3, 4, 5, 6)},
		// All vertices are connected, but there are too many edges.
		{3, ring(0, 1, 2)},
		{4, ring(0, 1, 2, 3)},
		{4, joined(ring(0, 1, 2), edges(2, 3))},
		{8, joined(path(0, 1, 2, 3, 4, 5, 6, 7), edges(0, 7))},
		{8, everyPair(8)[:24]},
		// Parallel edges count.
		{2, edges(0, 1, 0, 1)},
		{2, edges(0, 1, 1, 0)},
		{2, slices.Repeat(edges(0, 1), 24)},
		{3, joined(path(0, 1, 2), edges(0, 1))},
		{8, joined(star(0, 1, 2, 3, 4, 5, 6, 7), edges(7, 0))},
		// There are n-1 edges, but not all vertices are connected.
		{3, edges(0, 1, 0, 1)},
		{3, edges(1, 2, 2, 1)},
		{4, ring(0, 1, 2)},
		{4, ring(1, 2, 3)},
		{5, joined(ring(0, 1, 2), edges(3, 4))},
		{5, joined(path(0, 1), ring(2, 3, 4))},
		{8, ring(0, 1, 2, 3, 4, 5, 6)},
		{8, joined(path(0, 1, 2, 3, 4, 5, 6), edges(6, 5))},
		{8, joined(ring(0, 2, 4, 6), path(1, 3, 5, 7))},
		// Neither of them.
		{4, slices.Repeat(edges(0, 1), 24)},
		{4, edges(0, 1, 2, 3)},
		{6, joined(ring(0, 1, 2), ring(3, 4, 5))},
	} {
		expectErrors(t, c.n, c.lines, api.ErrState)
		expectErrors(t, c.n, turned(c.lines), api.ErrState)
	}
}

// TestDefinitions covers R19.1 to R19.4 with their definitions, for many trees of
// MaxPts vertices, and for many graphs that are none.
func TestDefinitions(t *testing.T) {
	broken, one, same, different := 0, 0, 0, 0
	everyGraph(func(n int, lines []api.Line) {
		if checkOf(n, lines) != api.OK {
			expectErrors(t, n, lines, api.ErrState)
			if len(lines) == n-1 {
				broken++
			}
			return
		}
		center, least, most := middleOf(n, lines)
		name, equal := nameOf(n, lines)
		expectCheck(t, n, lines, api.OK)
		expectMiddle(t, n, lines, center, least, api.OK)
		expectLong(t, n, lines, most, api.OK)
		expectName(t, n, lines, name, api.OK)
		switch {
		case len(center) == 1:
			one++
		case equal:
			same++
		default:
			different++
		}
	})
	if min(broken, one, same, different) < 500 {
		t.Errorf("%d graphs with n-1 edges that are no trees, %d trees with one vertex in the center, "+
			"%d with two equal ones, %d with two different ones: too few of a kind", broken, one, same, different)
	}
}

// TestNameOfIsomorphicTrees covers R19.4: the string does not depend on the numbers of
// the vertices, and there are as many strings as there are trees of which no two are
// isomorphic.
func TestNameOfIsomorphicTrees(t *testing.T) {
	below := mixer()
	counts := []int{1, 1, 1, 2, 3, 6, 11, 23}
	for i, count := range counts {
		n := i + 1
		names := map[string]bool{}
		growing(n, func(lines []api.Line) {
			name, err := tree.Name(n, lines)
			if err != nil {
				t.Fatalf("Name(%d, %v): %v", n, lines, err)
			}
			names[name] = true
			for range 4 {
				expectName(t, n, renumbered(below, n, lines), name, api.OK)
			}
		})
		if len(names) != count {
			t.Errorf("%d strings of trees with %d vertices, want %d: %v", len(names), n, count, names)
		}
	}
}

// TestErrors covers the errors of graph.Check in R19.1 to R19.4, and their order; they
// come before the ErrState of a graph that is not a tree.
func TestErrors(t *testing.T) {
	for _, c := range []struct {
		n     int
		lines []api.Line
		want  api.Errno
	}{
		{0, nil, api.ErrRange},
		{-1, nil, api.ErrRange},
		{9, nil, api.ErrRange},
		{9, path(0, 1, 2, 3, 4, 5, 6, 7, 8), api.ErrRange},
		{1<<32 + 1, nil, api.ErrRange},
		{math.MinInt, nil, api.ErrRange},
		{math.MaxInt, nil, api.ErrRange},
		{0, slices.Repeat(edges(0, 1), 25), api.ErrRange},
		{9, edges(1, 1), api.ErrRange},
		{25, slices.Repeat(edges(0, 1), 24), api.ErrRange},
		{26, slices.Repeat(edges(0, 1), 25), api.ErrRange},
		{2, slices.Repeat(edges(0, 1), 25), api.ErrFull},
		{8, everyPair(8), api.ErrFull},
		{3, slices.Repeat(edges(1, 1), 25), api.ErrFull},
		{3, slices.Repeat(edges(0, 3), 25), api.ErrFull},
		// There are n-1 edges.
		{2, edges(0, 2), api.ErrRange},
		{2, edges(2, 0), api.ErrRange},
		{2, edges(0, -1), api.ErrRange},
		{2, edges(-1, 0), api.ErrRange},
		{2, edges(2, 2), api.ErrRange},
		{2, edges(1, 1), api.ErrShape},
		{3, edges(0, 1, 1, math.MaxInt), api.ErrRange},
		{3, edges(math.MinInt, 1, 1, 2), api.ErrRange},
		{3, edges(0, 1, 2, 2), api.ErrShape},
		{3, edges(1, 1, 0, 3), api.ErrShape},
		{3, edges(0, 3, 1, 1), api.ErrRange},
		// There are fewer or more.
		{1, edges(0, 0), api.ErrShape},
		{1, edges(0, 1), api.ErrRange},
		{3, edges(0, 3), api.ErrRange},
		{3, edges(1, 1), api.ErrShape},
		{8, edges(0, 8), api.ErrRange},
		{3, joined(path(0, 1, 2), edges(2, 2)), api.ErrShape},
		{3, joined(path(0, 1, 2), edges(2, 3)), api.ErrRange},
		{3, joined(ring(0, 1, 2), edges(0, 0)), api.ErrShape},
		{3, joined(ring(0, 1, 2), edges(-1, 0, 0, 0)), api.ErrRange},
		{3, joined(ring(0, 1, 2), edges(0, 0, -1, 0)), api.ErrShape},
	} {
		if err := graph.Check(c.n, c.lines); plain.Told(err) != c.want {
			t.Errorf("graph.Check(%d, %v) = %v, want %v", c.n, c.lines, err, c.want)
		}
		expectErrors(t, c.n, c.lines, c.want)
	}
}

// fill overwrites a slice and its spare capacity.
func fill(list []int) {
	list = list[:cap(list)]
	for i := range list {
		list[i] = 99
	}
}

// TestNoAliasing covers Z2: the edges and the memory behind them stay as they are,
// with an error too, and a later result does not depend on what became of an earlier
// one.
func TestNoAliasing(t *testing.T) {
	for _, lines := range [][]api.Line{
		path(3, 1, 0, 2), star(2, 3, 1, 0), joined(path(3, 2), edges(0, 1, 2, 0)),
		{}, ring(3, 2, 1), ring(3, 2, 1, 0), everyPair(4), slices.Repeat(edges(3, 2), 24),
		edges(1, 0, 1, 1, 3, 2), edges(1, 0, 0, 4, 3, 2), slices.Repeat(edges(2, 1), 25),
	} {
		memory := joined(lines, edges(7, 7, 7, 7, 7, 7, 7, 7))
		argument := memory[:len(lines)]
		kept := slices.Clone(memory)
		wantErr := plain.Told(tree.Check(4, argument))
		center, least, _ := tree.Middle(4, argument)
		want := slices.Clone(center)
		fill(center)
		most, _ := tree.Long(4, argument)
		name, _ := tree.Name(4, argument)
		if !slices.Equal(memory, kept) {
			t.Errorf("a call with %v changes its argument", lines)
		}
		expectCheck(t, 4, argument, wantErr)
		expectMiddle(t, 4, argument, want, least, wantErr)
		expectLong(t, 4, argument, most, wantErr)
		expectName(t, 4, argument, name, wantErr)
	}
}
