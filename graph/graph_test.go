package graph_test

import (
	"fmt"
	"math"
	"slices"
	"testing"

	"brambleweir/api"
	"brambleweir/graph"
	"brambleweir/plain"
)

// edges returns the edges between the given pairs of vertices.
func edges(ends ...int) []api.Line {
	lines := []api.Line{}
	for i := 0; i+1 < len(ends); i += 2 {
		lines = append(lines, api.Line{A: ends[i], B: ends[i+1]})
	}
	return lines
}

// repeated returns count copies of the edge from a to b.
func repeated(a, b, count int) []api.Line {
	return slices.Repeat(edges(a, b), count)
}

// everyPair returns the edges of the complete graph, with A < B, sorted.
func everyPair(n int) []api.Line {
	lines := []api.Line{}
	for b := range n {
		for a := range b {
			lines = append(lines, api.Line{A: a, B: b})
		}
	}
	slices.SortFunc(lines, func(x, y api.Line) int { return (x.A-y.A)*10 + x.B - y.B })
	return lines
}

// chosen returns the edges whose binary digits in mask are 1; those whose digits
// in turned are 1 too with their ends swapped.
func chosen(lines []api.Line, mask, turned int) []api.Line {
	out := []api.Line{}
	for i, line := range lines {
		if mask>>i&1 == 0 {
			continue
		}
		if turned>>i&1 == 1 {
			line.A, line.B = line.B, line.A
		}
		out = append(out, line)
	}
	return out
}

// mixer returns a function of which each call gives the next number below its
// argument of a fixed sequence without visible order.
func mixer() func(below int) int {
	state := uint64(88172645463325252)
	return func(below int) int {
		state ^= state << 13
		state ^= state >> 7
		state ^= state << 17
		return int(state>>11) % below
	}
}

// mixedGraphs calls a function with graphs of all sizes, whose edges are in no
// order, go both ways and may be parallel.
func mixedGraphs(call func(n int, lines []api.Line)) {
	below := mixer()
	for range 4000 {
		n := 2 + below(api.MaxPts-1)
		lines := []api.Line{}
		for range below(api.MaxLines + 1) {
			a := below(n)
			lines = append(lines, api.Line{A: a, B: (a + 1 + below(n-1)) % n})
		}
		call(n, lines)
	}
}

// smallGraphs calls a function with every graph of at most 5 vertices, and with
// its edges in the other direction and order.
func smallGraphs(call func(n int, lines []api.Line)) {
	for n := 1; n <= 5; n++ {
		all := everyPair(n)
		for mask := range 1 << len(all) {
			call(n, chosen(all, mask, 0))
			call(n, chosen(all, mask, mask*37))
			back := chosen(all, mask, mask)
			slices.Reverse(back)
			call(n, back)
		}
	}
}

// adjacent is the definition: an edge joins the vertices in either direction.
func adjacent(lines []api.Line, a, b int) bool {
	for _, line := range lines {
		if line == (api.Line{A: a, B: b}) || line == (api.Line{A: b, B: a}) {
			return true
		}
	}
	return false
}

// expectLines compares the results of a call with edges, or with an error and no
// edges.
func expectLines(t *testing.T, call string, got []api.Line, err error, want []api.Line, wantErr api.Errno) {
	t.Helper()
	if wantErr != api.OK {
		want = nil
	}
	if plain.Told(err) != wantErr || !slices.Equal(got, want) {
		t.Errorf("%s: got %v, %v; want %v, %v", call, got, err, want, wantErr)
	}
}

// expectLists compares the results of a call with lists, or with an error and no
// lists.
func expectLists(t *testing.T, call string, got [][]int, err error, want [][]int, wantErr api.Errno) {
	t.Helper()
	if wantErr != api.OK {
		want = nil
	}
	if plain.Told(err) != wantErr || !slices.EqualFunc(got, want, slices.Equal) {
		t.Errorf("%s: got %v, %v; want %v, %v", call, got, err, want, wantErr)
	}
}

// expectCheck compares the error of Check, and if there is one, that the other
// functions have it too, with every vertex to be removed, and return nothing else.
func expectCheck(t *testing.T, n int, lines []api.Line, want api.Errno) {
	t.Helper()
	if err := graph.Check(n, lines); plain.Told(err) != want {
		t.Errorf("Check(%d, %v): got %v, want %v", n, lines, err, want)
	}
	if want == api.OK {
		return
	}
	lists, err := graph.Beside(n, lines)
	expectLists(t, fmt.Sprintf("Beside(%d, %v)", n, lines), lists, err, nil, want)
	others, err := graph.Other(n, lines)
	expectLines(t, fmt.Sprintf("Other(%d, %v)", n, lines), others, err, nil, want)
	for _, i := range []int{math.MinInt, -1, 0, 1, n - 1, n, 8, math.MaxInt} {
		rest, err := graph.Without(n, lines, i)
		expectLines(t, fmt.Sprintf("Without(%d, %v, %d)", n, lines, i), rest, err, nil, want)
	}
}

// TestCheck covers R3.1, and the errors of Check in R3.2 to R3.4: the ends of each
// range.
func TestCheck(t *testing.T) {
	for _, c := range []struct {
		n     int
		lines []api.Line
		want  api.Errno
	}{
		{1, nil, api.OK},
		{1, edges(), api.OK},
		{8, nil, api.OK},
		{2, edges(0, 1), api.OK},
		{2, edges(1, 0), api.OK},
		{2, edges(0, 1, 0, 1, 1, 0), api.OK},
		{8, edges(7, 0, 0, 7), api.OK},
		{3, edges(0, 1, 1, 2, 2, 0), api.OK},
		{2, repeated(0, 1, 24), api.OK},
		{8, everyPair(8)[:24], api.OK},
		{0, nil, api.ErrRange},
		{-1, nil, api.ErrRange},
		{9, nil, api.ErrRange},
		{10, nil, api.ErrRange},
		{1 << 32, nil, api.ErrRange},
		{1<<32 + 1, nil, api.ErrRange},
		{math.MinInt, nil, api.ErrRange},
		{math.MaxInt, nil, api.ErrRange},
		{2, repeated(0, 1, 25), api.ErrFull},
		{8, everyPair(8)[:25], api.ErrFull},
		{8, everyPair(8), api.ErrFull},
		{3, edges(0, 3), api.ErrRange},
		{3, edges(3, 0), api.ErrRange},
		{3, edges(-1, 0), api.ErrRange},
		{3, edges(0, -1), api.ErrRange},
		{8, edges(0, 8), api.ErrRange},
		{8, edges(8, 0), api.ErrRange},
		{3, edges(math.MinInt, 0), api.ErrRange},
		{3, edges(0, math.MinInt), api.ErrRange},
		{3, edges(math.MaxInt, 0), api.ErrRange},
		{3, edges(0, math.MaxInt), api.ErrRange},
		{1, edges(0, 1), api.ErrRange},
		{1, edges(0, 0), api.ErrShape},
		{3, edges(0, 0), api.ErrShape},
		{3, edges(1, 1), api.ErrShape},
		{8, edges(7, 7), api.ErrShape},
	} {
		expectCheck(t, c.n, c.lines, c.want)
	}
}

// TestCheckOrder covers the order of the errors of R3.1: the number of vertices,
// the number of edges, then the first wrong edge, and for one edge its ends.
func TestCheckOrder(t *testing.T) {
	for _, c := range []struct {
		n     int
		lines []api.Line
		want  api.Errno
	}{
		{0, repeated(0, 1, 25), api.ErrRange},
		{9, repeated(0, 1, 25), api.ErrRange},
		{0, edges(0, 0), api.ErrRange},
		{9, edges(1, 1), api.ErrRange},
		{3, repeated(0, 3, 25), api.ErrFull},
		{3, repeated(1, 1, 25), api.ErrFull},
		{3, append(repeated(0, 1, 24), api.Line{A: 0, B: 3}), api.ErrFull},
		{3, append(repeated(0, 1, 24), api.Line{A: 1, B: 1}), api.ErrFull},
		{3, append(repeated(0, 1, 23), api.Line{A: 0, B: 3}), api.ErrRange},
		{3, append(repeated(0, 1, 23), api.Line{A: 1, B: 1}), api.ErrShape},
		{3, edges(3, 3), api.ErrRange},
		{3, edges(-1, -1), api.ErrRange},
		{1, edges(1, 1), api.ErrRange},
		{3, edges(1, 1, 0, 3), api.ErrShape},
		{3, edges(0, 3, 1, 1), api.ErrRange},
		{3, edges(0, 1, 2, 2, 3, 0), api.ErrShape},
		{3, edges(0, 1, 3, 0, 2, 2), api.ErrRange},
		{3, edges(2, 2, 3, 3), api.ErrShape},
		{3, edges(3, 3, 2, 2), api.ErrRange},
	} {
		expectCheck(t, c.n, c.lines, c.want)
	}
}

// checkOf is the definition of the error of a graph with few edges.
func checkOf(n int, lines []api.Line) api.Errno {
	if n <= 0 || n >= 9 {
		return api.ErrRange
	}
	for _, line := range lines {
		if min(line.A, line.B) < 0 || max(line.A, line.B) >= n {
			return api.ErrRange
		}
		if line.A == line.B {
			return api.ErrShape
		}
	}
	return api.OK
}

// TestCheckEveryPair covers R3.1, and the errors of Check in R3.2 to R3.4, for
// every number of vertices and every edge at and around the ends of the ranges,
// alone and after or before another edge.
func TestCheckEveryPair(t *testing.T) {
	for n := -1; n <= 10; n++ {
		for a := -2; a <= 10; a++ {
			for b := -2; b <= 10; b++ {
				for _, lines := range [][]api.Line{
					edges(a, b), edges(0, 1, a, b), edges(a, b, 1, 0),
					edges(a, b, 0, 0), edges(a, b, 0, 8), edges(1, 1, a, b), edges(8, 0, a, b),
				} {
					expectCheck(t, n, lines, checkOf(n, lines))
				}
			}
		}
	}
}

// besideOf is the definition of the adjacency lists.
func besideOf(n int, lines []api.Line) [][]int {
	lists := make([][]int, n)
	for _, line := range lines {
		lists[line.A] = append(lists[line.A], line.B)
		lists[line.B] = append(lists[line.B], line.A)
	}
	for i := range lists {
		slices.Sort(lists[i])
		lists[i] = slices.Compact(lists[i])
	}
	return lists
}

// TestBeside covers R3.2; its errors are in the tests of Check.
func TestBeside(t *testing.T) {
	for _, c := range []struct {
		n     int
		lines []api.Line
		want  [][]int
	}{
		{1, nil, [][]int{{}}},
		{1, edges(), [][]int{nil}},
		{3, nil, [][]int{{}, {}, {}}},
		{8, nil, [][]int{{}, {}, {}, {}, {}, {}, {}, {}}},
		{3, edges(0, 1, 1, 0), [][]int{{1}, {0}, {}}},
		{2, edges(1, 0), [][]int{{1}, {0}}},
		{2, repeated(1, 0, 24), [][]int{{1}, {0}}},
		{4, edges(3, 0, 0, 2, 1, 0), [][]int{{1, 2, 3}, {0}, {0}, {0}}},
		{8, edges(7, 0), [][]int{{7}, {}, {}, {}, {}, {}, {}, {0}}},
	} {
		lists, err := graph.Beside(c.n, c.lines)
		expectLists(t, fmt.Sprintf("Beside(%d, %v)", c.n, c.lines), lists, err, c.want, api.OK)
	}
	compare := func(n int, lines []api.Line) {
		lists, err := graph.Beside(n, lines)
		expectLists(t, fmt.Sprintf("Beside(%d, %v)", n, lines), lists, err, besideOf(n, lines), api.OK)
	}
	smallGraphs(compare)
	mixedGraphs(compare)
}

// withoutOf is the definition of the graph without a vertex: the new number of a
// vertex is how many of those that stay are before it.
func withoutOf(lines []api.Line, i int) []api.Line {
	number := map[int]int{}
	for v := range 8 {
		if v != i {
			number[v] = len(number)
		}
	}
	out := []api.Line{}
	for _, line := range lines {
		a, hasA := number[line.A]
		b, hasB := number[line.B]
		if hasA && hasB {
			out = append(out, api.Line{A: a, B: b})
		}
	}
	return out
}

// TestWithout covers R3.3: the order and the direction of the edges, and parallel
// ones, stay.
func TestWithout(t *testing.T) {
	for _, c := range []struct {
		n     int
		lines []api.Line
		i     int
		want  []api.Line
	}{
		{2, nil, 0, nil},
		{2, edges(), 1, nil},
		{2, edges(0, 1), 0, nil},
		{2, edges(0, 1), 1, nil},
		{3, edges(0, 1, 1, 2), 0, edges(0, 1)},
		{3, edges(0, 1, 1, 2), 1, nil},
		{3, edges(0, 1, 1, 2), 2, edges(0, 1)},
		{4, edges(3, 2, 0, 3, 1, 0, 2, 0), 1, edges(2, 1, 0, 2, 1, 0)},
		{4, edges(3, 2, 2, 3, 3, 2, 0, 1), 1, edges(2, 1, 1, 2, 2, 1)},
		{8, edges(7, 6, 0, 1), 7, edges(0, 1)},
		{8, edges(7, 6, 0, 1), 0, edges(6, 5)},
		{8, repeated(7, 6, 24), 3, repeated(6, 5, 24)},
	} {
		rest, err := graph.Without(c.n, c.lines, c.i)
		expectLines(t, fmt.Sprintf("Without(%d, %v, %d)", c.n, c.lines, c.i), rest, err, c.want, api.OK)
	}
	compare := func(n int, lines []api.Line) {
		for i := -1; i <= n; i++ {
			want := api.OK
			if n == 1 || i < 0 || i == n {
				want = api.ErrRange
			}
			rest, err := graph.Without(n, lines, i)
			expectLines(t, fmt.Sprintf("Without(%d, %v, %d)", n, lines, i), rest, err, withoutOf(lines, i), want)
		}
	}
	smallGraphs(compare)
	mixedGraphs(compare)
}

// TestWithoutErrors covers the errors of R3.3 beside those of Check, which come
// first.
func TestWithoutErrors(t *testing.T) {
	for _, c := range []struct {
		n     int
		lines []api.Line
		i     int
		want  api.Errno
	}{
		{1, nil, 0, api.ErrRange},
		{1, nil, 1, api.ErrRange},
		{2, nil, 2, api.ErrRange},
		{2, nil, -1, api.ErrRange},
		{8, nil, 8, api.ErrRange},
		{8, everyPair(8)[:24], 8, api.ErrRange},
		{8, nil, math.MinInt, api.ErrRange},
		{8, nil, math.MaxInt, api.ErrRange},
		{8, nil, 1 << 32, api.ErrRange},
		{1, edges(0, 0), 0, api.ErrShape},
		{1, repeated(0, 0, 25), 0, api.ErrFull},
		{3, edges(1, 1), 3, api.ErrShape},
		{3, edges(1, 1), 1, api.ErrShape},
		{3, edges(1, 1), -1, api.ErrShape},
		{3, edges(0, 3), 3, api.ErrRange},
		{3, repeated(0, 1, 25), 3, api.ErrFull},
		{3, repeated(0, 1, 25), 0, api.ErrFull},
	} {
		rest, err := graph.Without(c.n, c.lines, c.i)
		expectLines(t, fmt.Sprintf("Without(%d, %v, %d)", c.n, c.lines, c.i), rest, err, nil, c.want)
	}
}

// otherOf is the definition of the complement: of the edges of the complete graph
// those whose ends are not adjacent; and its error.
func otherOf(n int, lines []api.Line) ([]api.Line, api.Errno) {
	out := []api.Line{}
	for _, pair := range everyPair(n) {
		if !adjacent(lines, pair.A, pair.B) {
			out = append(out, pair)
		}
	}
	if len(out) > 24 {
		return nil, api.ErrFull
	}
	return out, api.OK
}

// TestOther covers R3.4; the errors of Check are in its tests.
func TestOther(t *testing.T) {
	for _, c := range []struct {
		n     int
		lines []api.Line
		want  []api.Line
	}{
		{1, nil, nil},
		{2, edges(), edges(0, 1)},
		{2, edges(1, 0), nil},
		{2, repeated(1, 0, 24), nil},
		{3, nil, edges(0, 1, 0, 2, 1, 2)},
		{3, edges(0, 1, 1, 2), edges(0, 2)},
		{3, edges(2, 1, 1, 0), edges(0, 2)},
		{3, edges(0, 1, 1, 2, 2, 0), nil},
		{4, edges(1, 2), edges(0, 1, 0, 2, 0, 3, 1, 3, 2, 3)},
		{7, nil, everyPair(7)},
		{8, everyPair(8)[:24], everyPair(8)[24:]},
	} {
		others, err := graph.Other(c.n, c.lines)
		expectLines(t, fmt.Sprintf("Other(%d, %v)", c.n, c.lines), others, err, c.want, api.OK)
	}
	full := 0
	compare := func(n int, lines []api.Line) {
		want, wantErr := otherOf(n, lines)
		if wantErr != api.OK {
			full++
		}
		others, err := graph.Other(n, lines)
		expectLines(t, fmt.Sprintf("Other(%d, %v)", n, lines), others, err, want, wantErr)
	}
	smallGraphs(compare)
	mixedGraphs(compare)
	if full == 0 {
		t.Error("no complement had too many edges")
	}
}

// TestOtherFull covers ErrFull of R3.4: it is the edges of the complement that
// count, so that parallel edges do not help; and the errors of Check come first.
func TestOtherFull(t *testing.T) {
	for _, c := range []struct {
		lines []api.Line
		want  api.Errno
	}{
		{nil, api.ErrFull},
		{edges(0, 1), api.ErrFull},
		{edges(0, 1, 2, 3, 4, 5), api.ErrFull},
		{edges(0, 1, 2, 3, 4, 5, 1, 0), api.ErrFull},
		{edges(0, 1, 2, 3, 4, 5, 4, 5), api.ErrFull},
		{repeated(0, 1, 24), api.ErrFull},
		{edges(0, 1, 2, 3, 4, 5, 6, 7), api.OK},
		{edges(7, 6, 6, 5, 5, 4, 4, 3), api.OK},
		{edges(0, 1, 2, 2), api.ErrShape},
		{edges(0, 1, 2, 8), api.ErrRange},
	} {
		others, err := graph.Other(8, c.lines)
		want, _ := otherOf(8, c.lines)
		expectLines(t, fmt.Sprintf("Other(8, %v)", c.lines), others, err, want, c.want)
	}
}

// aliasGraphs are the graphs, valid and not, of the tests of Z2.
func aliasGraphs() [][]api.Line {
	return [][]api.Line{
		edges(), edges(0, 1), edges(3, 1, 2, 3, 1, 2), edges(0, 1, 1, 2, 2, 3, 3, 0),
		edges(1, 1), edges(0, 4), repeated(2, 3, 24), repeated(2, 3, 25), everyPair(4),
	}
}

// spare returns the edges with spare capacity behind them, and all of that memory.
func spare(lines []api.Line) (argument, memory []api.Line) {
	memory = append(slices.Clone(lines), repeated(7, 7, 4)...)
	return memory[:len(lines)], memory
}

// fill sets all elements of a list and of its spare capacity.
func fill[E any](list []E, value E) {
	list = list[:cap(list)]
	for i := range list {
		list[i] = value
	}
}

// expectSeparate calls a function twice with edges that have spare capacity, and
// checks Z2: the edges and their spare capacity stay as they are, and overwriting
// the first result or the edges changes nothing that the second call returned.
func expectSeparate(t *testing.T, name string, call func([]api.Line) ([]api.Line, error), lines []api.Line) {
	t.Helper()
	argument, memory := spare(lines)
	kept := slices.Clone(memory)
	first, firstErr := call(argument)
	want := slices.Clone(first)
	fill(first, api.Line{A: 9, B: 9})
	if !slices.Equal(memory, kept) {
		t.Errorf("%s of %v changes its argument, or shares its memory", name, lines)
	}
	second, err := call(argument)
	expectLines(t, name+" again", second, err, want, plain.Told(firstErr))
	fill(memory, api.Line{A: 5, B: 5})
	expectLines(t, name+" kept", second, err, want, plain.Told(firstErr))
}

// TestNoAliasing covers Z2 for Check, Without and Other.
func TestNoAliasing(t *testing.T) {
	for _, lines := range aliasGraphs() {
		argument, memory := spare(lines)
		kept := slices.Clone(memory)
		graph.Check(4, argument)
		if !slices.Equal(memory, kept) {
			t.Errorf("Check(4, %v) changes its argument", lines)
		}
		for i := -1; i <= 4; i++ {
			without := func(lines []api.Line) ([]api.Line, error) { return graph.Without(4, lines, i) }
			expectSeparate(t, fmt.Sprintf("Without vertex %d", i), without, lines)
		}
		other := func(lines []api.Line) ([]api.Line, error) { return graph.Other(4, lines) }
		expectSeparate(t, "Other", other, lines)
	}
}

// TestNoAliasingOfLists covers Z2 for Beside: its lists share no memory with each
// other either.
func TestNoAliasingOfLists(t *testing.T) {
	for _, lines := range aliasGraphs() {
		argument, memory := spare(lines)
		kept := slices.Clone(memory)
		lists, firstErr := graph.Beside(4, argument)
		if !slices.Equal(memory, kept) {
			t.Errorf("Beside(4, %v) changes its argument", lines)
		}
		want := make([][]int, len(lists))
		for i := range lists {
			want[i] = slices.Clone(lists[i])
		}
		for i := range lists {
			for j := range lists {
				fill(lists[i], 9)
				if fill(lists[j], 8); i != j && slices.Contains(lists[i], 8) {
					t.Errorf("Beside(4, %v): lists %d and %d share memory", lines, i, j)
				}
			}
		}
		fill(lists, []int{9})
		second, err := graph.Beside(4, argument)
		expectLists(t, "Beside again", second, err, want, plain.Told(firstErr))
	}
}
