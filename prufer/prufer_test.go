package prufer_test

import (
	"cmp"
	"math"
	"slices"
	"testing"

	"brambleweir/api"
	"brambleweir/plain"
	"brambleweir/prufer"
	"brambleweir/tree"
)

// edges returns the edges between the given pairs of vertices.
func edges(ends ...int) []api.Line {
	lines := []api.Line{}
	for i := 0; i+1 < len(ends); i += 2 {
		lines = append(lines, api.Line{A: ends[i], B: ends[i+1]})
	}
	return lines
}

// path returns the edges between the vertices that follow each other.
func path(vertices ...int) []api.Line {
	lines := []api.Line{}
	for i := 1; i < len(vertices); i++ {
		lines = append(lines, api.Line{A: vertices[i-1], B: vertices[i]})
	}
	return lines
}

// ring returns the edges of the cycle of the vertices.
func ring(vertices ...int) []api.Line {
	return append(path(vertices...), api.Line{A: vertices[len(vertices)-1], B: vertices[0]})
}

// star returns the edges between a vertex and each of the others.
func star(center int, others ...int) []api.Line {
	lines := []api.Line{}
	for _, v := range others {
		lines = append(lines, api.Line{A: center, B: v})
	}
	return lines
}

// joined returns all the edges of the lists.
func joined(lists ...[]api.Line) []api.Line {
	return slices.Concat(lists...)
}

// everyPair returns the edges of the complete graph, sorted.
func everyPair(n int) []api.Line {
	lines := []api.Line{}
	for a := range n {
		for b := a + 1; b < n; b++ {
			lines = append(lines, api.Line{A: a, B: b})
		}
	}
	return lines
}

// turned returns the edges in the opposite order, with their ends swapped.
func turned(lines []api.Line) []api.Line {
	out := []api.Line{}
	for _, line := range slices.Backward(lines) {
		out = append(out, api.Line{A: line.B, B: line.A})
	}
	return out
}

// sorted returns the edges as Read gives them.
func sorted(lines []api.Line) []api.Line {
	out := []api.Line{}
	for _, line := range lines {
		out = append(out, api.Line{A: min(line.A, line.B), B: max(line.A, line.B)})
	}
	slices.SortFunc(out, func(x, y api.Line) int {
		return cmp.Or(cmp.Compare(x.A, y.A), cmp.Compare(x.B, y.B))
	})
	return out
}

// mixer returns a function of which each call gives the next number below its
// argument of a fixed sequence without visible order.
func mixer() func(below int) int {
	state := uint64(88172645463325252)
	return func(below int) int {
		state ^= state << 13
		state ^= state >> 7
		state ^= state << 17
		return int(state>>11) % below
	}
}

// shuffled returns the edges in no order and in both directions.
func shuffled(below func(int) int, lines []api.Line) []api.Line {
	out := []api.Line{}
	for _, line := range lines {
		if below(2) == 0 {
			line.A, line.B = line.B, line.A
		}
		out = slices.Insert(out, below(len(out)+1), line)
	}
	return out
}

// everyRow calls a function with every Pruefer sequence of a tree on n vertices.
func everyRow(n int, call func(row []int)) {
	var grow func(row []int)
	grow = func(row []int) {
		if len(row) == n-2 {
			call(slices.Clone(row))
			return
		}
		for v := range n {
			grow(append(row, v))
		}
	}
	grow(nil)
}

// everyTree calls a function with the sorted edges of every tree on n vertices.
func everyTree(n int, call func(lines []api.Line)) {
	all := everyPair(n)
	var grow func(lines []api.Line, from int)
	grow = func(lines []api.Line, from int) {
		if len(lines) == n-1 {
			if tree.Check(n, lines) == nil {
				call(slices.Clone(lines))
			}
			return
		}
		for i := from; i < len(all); i++ {
			grow(append(lines, all[i]), i+1)
		}
	}
	grow(nil, 0)
}

// rowOf is the definition of Write for a tree of two or more vertices: the edge of the
// smallest vertex that is an end of exactly one edge is removed, till one edge is left.
func rowOf(lines []api.Line) []int {
	left := slices.Clone(lines)
	row := []int{}
	for len(left) > 1 {
		edge := -1
		for v := 0; edge < 0; v++ {
			edge = onlyEdge(left, v)
			if edge >= 0 {
				row = append(row, left[edge].A+left[edge].B-v)
			}
		}
		left = slices.Delete(left, edge, edge+1)
	}
	return row
}

// onlyEdge returns the place of the edge of which a vertex is an end, or -1 if there is
// not exactly one.
func onlyEdge(lines []api.Line, v int) int {
	found := -1
	for i, line := range lines {
		if line.A != v && line.B != v {
			continue
		}
		if found >= 0 {
			return -1
		}
		found = i
	}
	return found
}

// expectWrite compares Write with a sequence, or with an error and none.
func expectWrite(t *testing.T, n int, lines []api.Line, want []int, wantErr api.Errno) {
	t.Helper()
	got, err := prufer.Write(n, lines)
	if plain.Told(err) != wantErr || !slices.Equal(got, want) {
		t.Errorf("Write(%d, %v) = %v, %v, want %v, %v", n, lines, got, err, want, wantErr)
	}
}

// expectRead compares Read with edges, or with an error and none.
func expectRead(t *testing.T, row []int, want []api.Line, wantErr api.Errno) {
	t.Helper()
	got, err := prufer.Read(row)
	if plain.Told(err) != wantErr || !slices.Equal(got, want) {
		t.Errorf("Read(%v) = %v, %v, want %v, %v", row, got, err, want, wantErr)
	}
}

// written is a tree with its Pruefer sequence.
type written struct {
	n     int
	lines []api.Line
	row   []int
}

// trees are trees with their sequences, found by hand.
func trees() []written {
	return []written{
		// Only two vertices: none is removed.
		{2, edges(0, 1), nil},
		{2, edges(1, 0), []int{}},
		// The example of the document, and the other trees of three vertices.
		{3, path(0, 1, 2), []int{1}},
		{3, path(1, 0, 2), []int{0}},
		{3, path(0, 2, 1), []int{2}},
		{4, path(0, 1, 2, 3), []int{1, 2}},
		// After 1, its neighbor 0 is the smallest vertex with exactly one neighbor.
		{4, path(1, 0, 2, 3), []int{0, 2}},
		{4, path(3, 1, 0, 2), []int{0, 1}},
		{4, path(2, 0, 3, 1), []int{3, 0}},
		{4, star(0, 1, 2, 3), []int{0, 0}},
		{4, star(2, 0, 1, 3), []int{2, 2}},
		// The largest vertex is the center.
		{4, star(3, 0, 1, 2), []int{3, 3}},
		{5, path(4, 2, 0, 3, 1), []int{3, 0, 2}},
		{5, joined(star(2, 0, 1), path(2, 3, 4)), []int{2, 2, 3}},
		{5, joined(star(0, 3, 4), path(0, 2, 1)), []int{2, 0, 0}},
		{6, joined(star(3, 0, 1, 2), path(3, 4, 5)), []int{3, 3, 3, 4}},
		{6, joined(star(4, 1, 3, 5), star(0, 2, 4)), []int{4, 0, 4, 4}},
		{7, path(6, 5, 4, 3, 2, 1, 0), []int{1, 2, 3, 4, 5}},
		{7, joined(path(0, 1, 2), path(3, 4, 2), path(5, 6, 2)), []int{1, 2, 4, 2, 6}},
		{8, path(0, 1, 2, 3, 4, 5, 6, 7), []int{1, 2, 3, 4, 5, 6}},
		{8, path(7, 0, 6, 1, 5, 2, 4, 3), []int{4, 2, 5, 1, 6, 0}},
		{8, star(0, 1, 2, 3, 4, 5, 6, 7), []int{0, 0, 0, 0, 0, 0}},
		{8, star(7, 0, 1, 2, 3, 4, 5, 6), []int{7, 7, 7, 7, 7, 7}},
		{8, joined(star(7, 0, 1, 2), star(3, 4, 5, 6, 7)), []int{7, 7, 7, 3, 3, 3}},
		{8, joined(star(0, 5, 6, 7), star(1, 2, 3, 4), edges(1, 0)), []int{1, 1, 1, 0, 0, 0}},
	}
}

// TestWrite covers R20.1; neither the order of the edges nor that of their ends
// matters.
func TestWrite(t *testing.T) {
	for _, c := range trees() {
		expectWrite(t, c.n, c.lines, c.row, api.OK)
		expectWrite(t, c.n, turned(c.lines), c.row, api.OK)
	}
}

// TestRead covers R20.2; its edges are sorted, and each has its smaller end first.
func TestRead(t *testing.T) {
	for _, c := range trees() {
		expectRead(t, c.row, sorted(c.lines), api.OK)
	}
	expectRead(t, nil, edges(0, 1), api.OK)
	expectRead(t, []int{}, edges(0, 1), api.OK)
	expectRead(t, []int{1}, edges(0, 1, 1, 2), api.OK)
	expectRead(t, []int{2, 2}, edges(0, 2, 1, 2, 2, 3), api.OK)
	expectRead(t, []int{3, 0, 2}, edges(0, 2, 0, 3, 1, 3, 2, 4), api.OK)
}

// TestEveryTree covers R20.1 and R20.2 with every tree of at most 6 vertices: each has
// the sequence of the definition, and the sequence gives the tree.
func TestEveryTree(t *testing.T) {
	below := mixer()
	counts := map[int]int{2: 1, 3: 3, 4: 16, 5: 125, 6: 1296}
	for n, want := range counts {
		count := 0
		everyTree(n, func(lines []api.Line) {
			count++
			row := rowOf(lines)
			expectWrite(t, n, lines, row, api.OK)
			expectWrite(t, n, shuffled(below, lines), row, api.OK)
			expectRead(t, row, lines, api.OK)
		})
		if count != want {
			t.Errorf("%d trees on %d vertices, want %d", count, n, want)
		}
	}
}

// TestEveryRow covers R20.1 and R20.2 with every sequence, up to those of MaxPts
// vertices: it gives a tree on all vertices, which has this sequence by the definition.
func TestEveryRow(t *testing.T) {
	below := mixer()
	for n := 2; n <= api.MaxPts; n++ {
		everyRow(n, func(row []int) {
			lines, err := prufer.Read(row)
			if err != nil || tree.Check(n, lines) != nil ||
				!slices.Equal(lines, sorted(lines)) || !slices.Equal(rowOf(lines), row) {
				t.Fatalf("Read(%v) = %v, %v", row, lines, err)
			}
			mixed := shuffled(below, lines)
			if got, err := prufer.Write(n, mixed); err != nil || !slices.Equal(got, row) {
				t.Fatalf("Write(%d, %v) = %v, %v, want %v", n, mixed, got, err, row)
			}
		})
	}
}

// TestWriteErrors covers the errors of R20.1 and their order.
func TestWriteErrors(t *testing.T) {
	for _, c := range []struct {
		n     int
		lines []api.Line
		want  api.Errno
	}{
		// Only one vertex.
		{1, nil, api.ErrNone},
		{1, edges(), api.ErrNone},
		// The errors of tree.Check come first.
		{1, edges(0, 0), api.ErrShape},
		{1, edges(0, 1), api.ErrRange},
		{1, edges(-1, 0), api.ErrRange},
		{1, slices.Repeat(edges(0, 0), 24), api.ErrShape},
		{1, slices.Repeat(edges(0, 0), 25), api.ErrFull},
		{0, nil, api.ErrRange},
		{-1, nil, api.ErrRange},
		{9, nil, api.ErrRange},
		{9, path(0, 1, 2, 3, 4, 5, 6, 7, 8), api.ErrRange},
		{1<<32 + 1, nil, api.ErrRange},
		{1<<32 + 3, path(0, 1, 2), api.ErrRange},
		{math.MinInt, nil, api.ErrRange},
		{math.MaxInt, nil, api.ErrRange},
		{0, slices.Repeat(edges(0, 1), 25), api.ErrRange},
		{9, edges(1, 1), api.ErrRange},
		{2, slices.Repeat(edges(0, 1), 25), api.ErrFull},
		{3, slices.Repeat(edges(1, 1), 25), api.ErrFull},
		{3, slices.Repeat(edges(0, 3), 25), api.ErrFull},
		{8, everyPair(8), api.ErrFull},
		{2, edges(0, 2), api.ErrRange},
		{2, edges(2, 0), api.ErrRange},
		{2, edges(0, -1), api.ErrRange},
		{2, edges(1, 1), api.ErrShape},
		{2, edges(2, 2), api.ErrRange},
		{3, edges(0, 1, 1, math.MaxInt), api.ErrRange},
		{3, edges(math.MinInt, 1, 1, 2), api.ErrRange},
		{3, edges(1, 1, 0, 3), api.ErrShape},
		{3, edges(0, 3, 1, 1), api.ErrRange},
		{3, joined(path(0, 1, 2), edges(2, 2)), api.ErrShape},
		{3, joined(ring(0, 1, 2), edges(0, 3)), api.ErrRange},
		// The graph is not a tree: there are too few edges.
		{2, nil, api.ErrState},
		{3, edges(0, 1), api.ErrState},
		{8, nil, api.ErrState},
		{8, path(0, 1, 2, 3, 4, 5, 6), api.ErrState},
		// There are too many edges.
		{2, edges(0, 1, 1, 0), api.ErrState},
		{2, slices.Repeat(edges(0, 1), 24), api.ErrState},
		{3, ring(0, 1, 2), api.ErrState},
		{3, joined(path(0, 1, 2), edges(0, 1)), api.ErrState},
		{4, joined(ring(0, 1, 2), edges(2, 3)), api.ErrState},
		{8, everyPair(8)[:24], api.ErrState},
		// Not all vertices are connected.
		{3, edges(0, 1, 0, 1), api.ErrState},
		{4, ring(0, 1, 2), api.ErrState},
		{4, ring(1, 2, 3), api.ErrState},
		{5, joined(ring(0, 1, 2), edges(3, 4)), api.ErrState},
		{8, ring(0, 1, 2, 3, 4, 5, 6), api.ErrState},
	} {
		if err := tree.Check(c.n, c.lines); c.want != api.ErrNone && plain.Told(err) != c.want {
			t.Errorf("tree.Check(%d, %v) = %v, want %v", c.n, c.lines, err, c.want)
		}
		expectWrite(t, c.n, c.lines, nil, c.want)
		if c.want == api.ErrState {
			expectWrite(t, c.n, turned(c.lines), nil, c.want)
		}
	}
}

// TestReadErrors covers the errors of R20.2 and their order.
func TestReadErrors(t *testing.T) {
	for _, c := range []struct {
		row  []int
		want api.Errno
	}{
		{[]int{5}, api.ErrRange},
		{[]int{-1}, api.ErrRange},
		{[]int{3}, api.ErrRange},
		{[]int{math.MaxInt}, api.ErrRange},
		{[]int{math.MinInt}, api.ErrRange},
		{[]int{1 << 32}, api.ErrRange},
		{[]int{0, 4}, api.ErrRange},
		{[]int{4, 0}, api.ErrRange},
		{[]int{-1, 0}, api.ErrRange},
		{[]int{0, -1}, api.ErrRange},
		{[]int{0, 1, 2, 3, 4, 8}, api.ErrRange},
		{[]int{8, 1, 2, 3, 4, 5}, api.ErrRange},
		{[]int{0, 1, 2, -1, 4, 5}, api.ErrRange},
		{[]int{0, 1, 2, 3, 4, -1 << 32}, api.ErrRange},
		{[]int{8, 8, 8, 8, 8, 8}, api.ErrRange},
		// Too many elements come before wrong ones.
		{[]int{0, 0, 0, 0, 0, 0, 0}, api.ErrFull},
		{[]int{0, 1, 2, 3, 4, 5, 6}, api.ErrFull},
		{[]int{0, 1, 2, 3, 4, 5, 9}, api.ErrFull},
		{[]int{-1, 1, 2, 3, 4, 5, 6}, api.ErrFull},
		{make([]int, 8), api.ErrFull},
		{make([]int, 1000), api.ErrFull},
		{slices.Repeat([]int{math.MinInt}, 1000), api.ErrFull},
	} {
		expectRead(t, c.row, nil, c.want)
	}
	// The ends of the range are vertices.
	for n := 3; n <= api.MaxPts; n++ {
		for i := range n - 2 {
			for v, want := range map[int]api.Errno{-1: api.ErrRange, 0: api.OK, n - 1: api.OK, n: api.ErrRange} {
				row := make([]int, n-2)
				row[i] = v
				lines, err := prufer.Read(row)
				if plain.Told(err) != want || (len(lines) == n-1) != (want == api.OK) {
					t.Errorf("Read(%v) = %v, %v, want error %v", row, lines, err, want)
				}
			}
		}
	}
}

// fill overwrites a slice and its spare capacity.
func fill[T any](list []T, with T) {
	list = list[:cap(list)]
	for i := range list {
		list[i] = with
	}
}

// TestNoAliasing covers Z2 for Write: the edges and the memory behind them stay as they
// are, with an error too, and a later result does not depend on what became of an
// earlier one.
func TestNoAliasing(t *testing.T) {
	for _, lines := range [][]api.Line{
		path(3, 1, 0, 2), star(2, 3, 1, 0), star(3, 2, 1, 0), path(3, 2, 1, 0),
		{}, ring(3, 2, 1), ring(3, 2, 1, 0), everyPair(4), slices.Repeat(edges(3, 2), 24),
		edges(1, 0, 1, 1, 3, 2), edges(1, 0, 0, 4, 3, 2), slices.Repeat(edges(2, 1), 25),
	} {
		memory := joined(lines, edges(7, 7, 7, 7, 7, 7, 7, 7))
		argument := memory[:len(lines)]
		kept := slices.Clone(memory)
		row, err := prufer.Write(4, argument)
		want := slices.Clone(row)
		fill(row, 99)
		if !slices.Equal(memory, kept) {
			t.Errorf("Write(4, %v) changes its argument", lines)
		}
		expectWrite(t, 4, argument, want, plain.Told(err))
		expectWrite(t, 4, kept[:len(lines)], want, plain.Told(err))
	}
}

// TestReadNoAliasing covers Z2 for Read in the same way.
func TestReadNoAliasing(t *testing.T) {
	for _, row := range [][]int{
		{}, {2}, {3, 0}, {2, 2}, {5, 3, 1, 0}, {7, 0, 7, 0, 7, 0}, {6, 5, 4, 3, 2, 1},
		{3}, {0, -1}, {9, 8, 7, 6, 5, 4}, {6, 5, 4, 3, 2, 1, 0},
	} {
		memory := slices.Concat(row, []int{7, 7, 7, 7, 7, 7, 7, 7})
		argument := memory[:len(row)]
		kept := slices.Clone(memory)
		lines, err := prufer.Read(argument)
		want := slices.Clone(lines)
		fill(lines, api.Line{A: 99, B: 99})
		if !slices.Equal(memory, kept) {
			t.Errorf("Read(%v) changes its argument", row)
		}
		expectRead(t, argument, want, plain.Told(err))
		expectRead(t, kept[:len(row)], want, plain.Told(err))
	}
}
