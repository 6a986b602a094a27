package dom_test

import (
	"math"
	"slices"
	"testing"

	"brambleweir/api"
	"brambleweir/dom"
	"brambleweir/graph"
	"brambleweir/plain"
)

// edges returns the edges between the given pairs of vertices.
func edges(ends ...int) []api.Line {
	lines := []api.Line{}
	for i := 0; i+1 < len(ends); i += 2 {
		lines = append(lines, api.Line{A: ends[i], B: ends[i+1]})
	}
	return lines
}

// path returns the edges from each vertex to the next one.
func path(vertices ...int) []api.Line {
	lines := []api.Line{}
	for i := 1; i < len(vertices); i++ {
		lines = append(lines, api.Line{A: vertices[i-1], B: vertices[i]})
	}
	return lines
}

// ring returns the edges of the directed cycle of the vertices.
func ring(vertices ...int) []api.Line {
	return append(path(vertices...), api.Line{A: vertices[len(vertices)-1], B: vertices[0]})
}

// forward returns the edges from each vertex to all later ones.
func forward(vertices ...int) []api.Line {
	lines := []api.Line{}
	for i, a := range vertices {
		for _, b := range vertices[i+1:] {
			lines = append(lines, api.Line{A: a, B: b})
		}
	}
	return lines
}

// backward returns the edges in the opposite order, with their directions as they are.
func backward(lines []api.Line) []api.Line {
	out := slices.Clone(lines)
	slices.Reverse(out)
	return out
}

// pairsOf returns the edges between any two of n vertices, in both directions.
func pairsOf(n int) []api.Line {
	lines := []api.Line{}
	for a := range n {
		for b := range n {
			if a != b {
				lines = append(lines, api.Line{A: a, B: b})
			}
		}
	}
	return lines
}

// chosen returns the edges whose binary digits in mask are 1.
func chosen(lines []api.Line, mask int) []api.Line {
	out := []api.Line{}
	for i, line := range lines {
		if mask>>i&1 == 1 {
			out = append(out, line)
		}
	}
	return out
}

// mixer returns a function of which each call gives the next number below its
// argument of a fixed sequence without visible order.
func mixer() func(below int) int {
	state := uint64(88172645463325252)
	return func(below int) int {
		state ^= state << 13
		state ^= state >> 7
		state ^= state << 17
		return int(state>>11) % below
	}
}

// shuffled returns the vertices 0 to n-1 in no order.
func shuffled(below func(int) int, n int) []int {
	vertices := []int{}
	for v := range n {
		vertices = slices.Insert(vertices, below(v+1), v)
	}
	return vertices
}

// smallGraphs calls a function with every directed graph of at most 4 vertices, and
// with its edges in the other order and doubled.
func smallGraphs(call func(n int, lines []api.Line)) {
	for n := 1; n <= 4; n++ {
		all := pairsOf(n)
		for mask := range 1 << len(all) {
			lines := chosen(all, mask)
			call(n, lines)
			call(n, append(backward(lines), lines...))
		}
	}
}

// mixedGraphs calls a function with graphs of all sizes, whose edges are in no order
// and may be parallel; many of them have few edges.
func mixedGraphs(call func(n int, lines []api.Line)) {
	below := mixer()
	for range 1000 {
		n := 2 + below(api.MaxPts-1)
		all := pairsOf(n)
		lines := []api.Line{}
		for range below(1 + min(api.MaxLines, n+below(api.MaxLines))) {
			lines = append(lines, all[below(len(all))])
		}
		call(n, lines)
	}
}

// pathGraphs calls a function with graphs that have a path through many or all of the
// vertices, with edges back to earlier vertices, and with a few edges forward, so that
// there are long rows of dominators.
func pathGraphs(call func(n int, lines []api.Line)) {
	below := mixer()
	for range 1500 {
		vertices := shuffled(below, api.MaxPts)
		lines := path(vertices[:2+below(api.MaxPts-1)]...)
		ahead := forward(vertices...)
		for range below(4) {
			lines = slices.Insert(lines, below(len(lines)+1), ahead[below(len(ahead))])
		}
		for range below(8) {
			line := ahead[below(len(ahead))]
			lines = slices.Insert(lines, below(len(lines)+1), api.Line{A: line.B, B: line.A})
		}
		call(api.MaxPts, lines)
	}
}

// everyGraph calls a function with all the graphs above, and with each start.
func everyGraph(call func(n int, lines []api.Line, from int)) {
	fromAll := func(n int, lines []api.Line) {
		for from := range n {
			call(n, lines, from)
		}
	}
	smallGraphs(fromAll)
	mixedGraphs(fromAll)
	pathGraphs(fromAll)
}

// dominatorsOf is the definition of Of: the vertices that all paths from the start to
// a vertex contain. It takes the paths that meet no vertex twice; any other path
// contains the vertices of one of them, too.
func dominatorsOf(n int, lines []api.Line, from int) [][]int {
	after := make([][]int, n)
	for _, line := range lines {
		if !slices.Contains(after[line.A], line.B) {
			after[line.A] = append(after[line.A], line.B)
		}
	}
	common := make([][]int, n)
	var follow func(met []int, v int)
	follow = func(met []int, v int) {
		met = append(met, v)
		if common[v] == nil {
			common[v] = slices.Sorted(slices.Values(met))
		}
		common[v] = slices.DeleteFunc(common[v], func(d int) bool { return !slices.Contains(met, d) })
		for _, w := range after[v] {
			if !slices.Contains(met, w) {
				follow(met, w)
			}
		}
	}
	follow(nil, from)
	return common
}

// lastOf is the definition of Last: it sorts the other dominators by how many
// dominators they have themselves.
func lastOf(t *testing.T, dominators [][]int) []int {
	t.Helper()
	last := []int{}
	for v, list := range dominators {
		others := slices.DeleteFunc(slices.Clone(list), func(d int) bool { return d == v })
		slices.SortFunc(others, func(x, y int) int { return len(dominators[y]) - len(dominators[x]) })
		if len(others) == 0 {
			others = []int{-1}
		}
		if len(others) > 1 && len(dominators[others[0]]) == len(dominators[others[1]]) {
			t.Fatalf("two immediate dominators of %d in %v", v, dominators)
		}
		last = append(last, others[0])
	}
	return last
}

// sameLists tells whether two lists of lists are equal.
func sameLists(x, y [][]int) bool {
	return slices.EqualFunc(x, y, slices.Equal)
}

// expectOf compares Of with dominators, or with an error and none.
func expectOf(t *testing.T, n int, lines []api.Line, from int, want [][]int, wantErr api.Errno) {
	t.Helper()
	got, err := dom.Of(n, lines, from)
	if plain.Told(err) != wantErr || !sameLists(got, want) {
		t.Errorf("Of(%d, %v, %d) = %v, %v, want %v, %v", n, lines, from, got, err, want, wantErr)
	}
}

// expectLast compares Last with immediate dominators, or with an error and none.
func expectLast(t *testing.T, n int, lines []api.Line, from int, want []int, wantErr api.Errno) {
	t.Helper()
	got, err := dom.Last(n, lines, from)
	if plain.Told(err) != wantErr || !slices.Equal(got, want) {
		t.Errorf("Last(%d, %v, %d) = %v, %v, want %v, %v", n, lines, from, got, err, want, wantErr)
	}
}

// ruled is a graph with a start, and the results of Of and Last.
type ruled struct {
	n     int
	lines []api.Line
	from  int
	of    [][]int
	last  []int
}

// smallRuled are graphs of at most 4 vertices: without edges, with unreachable
// vertices, parallel and opposite edges, paths, cycles, and several paths to a vertex.
func smallRuled() []ruled {
	return []ruled{
		{1, nil, 0, [][]int{{0}}, []int{-1}},
		{1, edges(), 0, [][]int{{0}}, []int{-1}},
		{2, nil, 0, [][]int{{0}, {}}, []int{-1, -1}},
		{2, nil, 1, [][]int{{}, {1}}, []int{-1, -1}},
		{2, edges(0, 1), 0, [][]int{{0}, {0, 1}}, []int{-1, 0}},
		{2, edges(0, 1), 1, [][]int{{}, {1}}, []int{-1, -1}},
		{2, edges(1, 0), 1, [][]int{{0, 1}, {1}}, []int{1, -1}},
		{2, edges(0, 1, 1, 0), 0, [][]int{{0}, {0, 1}}, []int{-1, 0}},
		{2, edges(0, 1, 1, 0), 1, [][]int{{0, 1}, {1}}, []int{1, -1}},
		{2, slices.Repeat(edges(1, 0), 24), 1, [][]int{{0, 1}, {1}}, []int{1, -1}},
		// The example of the document, and its other starts.
		{3, path(0, 1, 2), 0, [][]int{{0}, {0, 1}, {0, 1, 2}}, []int{-1, 0, 1}},
		{3, path(0, 1, 2), 1, [][]int{{}, {1}, {1, 2}}, []int{-1, -1, 1}},
		{3, path(0, 1, 2), 2, [][]int{{}, {}, {2}}, []int{-1, -1, -1}},
		// Dominators are sorted by their numbers, not by their places on the path.
		{3, path(2, 1, 0), 2, [][]int{{0, 1, 2}, {1, 2}, {2}}, []int{1, 2, -1}},
		{3, path(1, 2, 0), 1, [][]int{{0, 1, 2}, {1}, {1, 2}}, []int{2, -1, 1}},
		{3, ring(0, 1, 2), 1, [][]int{{0, 1, 2}, {1}, {1, 2}}, []int{2, -1, 1}},
		{3, ring(2, 1, 0), 0, [][]int{{0}, {0, 1, 2}, {0, 2}}, []int{-1, 2, 0}},
		// Parallel edges are not two paths around a vertex.
		{3, append(path(0, 1, 2), path(0, 1, 2)...), 0, [][]int{{0}, {0, 1}, {0, 1, 2}}, []int{-1, 0, 1}},
		// Edges back to a dominator, and from unreachable vertices, have no effect.
		{3, append(path(0, 1, 2), edges(2, 0, 2, 1, 1, 0)...), 0, [][]int{{0}, {0, 1}, {0, 1, 2}}, []int{-1, 0, 1}},
		{3, edges(0, 1, 2, 1), 0, [][]int{{0}, {0, 1}, {}}, []int{-1, 0, -1}},
		{4, append(path(1, 2, 3), edges(0, 3, 0, 2, 0, 1)...), 1,
			[][]int{{}, {1}, {1, 2}, {1, 2, 3}}, []int{-1, -1, 1, 2}},
		{4, append(path(0, 1), ring(2, 3)...), 0, [][]int{{0}, {0, 1}, {}, {}}, []int{-1, 0, -1, -1}},
		// A shorter path goes around a vertex, and each of two paths around the other.
		{3, append(path(0, 1, 2), edges(0, 2)...), 0, [][]int{{0}, {0, 1}, {0, 2}}, []int{-1, 0, 0}},
		{3, edges(0, 1, 0, 2, 1, 2, 2, 1), 0, [][]int{{0}, {0, 1}, {0, 2}}, []int{-1, 0, 0}},
		{4, append(path(0, 1, 3), path(0, 2, 3)...), 0, [][]int{{0}, {0, 1}, {0, 2}, {0, 3}}, []int{-1, 0, 0, 0}},
		{4, append(path(3, 1, 0), path(3, 2, 0)...), 3, [][]int{{0, 3}, {1, 3}, {2, 3}, {3}}, []int{3, 3, 3, -1}},
		{4, append(path(3, 0, 1, 2), edges(0, 2)...), 3, [][]int{{0, 3}, {0, 1, 3}, {0, 2, 3}, {3}}, []int{3, 0, 0, -1}},
	}
}

// largeRuled are graphs of more vertices: long rows of dominators, shorter paths past
// some of them, and immediate dominators from which no edge goes to the vertex.
func largeRuled() []ruled {
	return []ruled{
		{8, nil, 5, [][]int{{}, {}, {}, {}, {}, {5}, {}, {}}, slices.Repeat([]int{-1}, 8)},
		{8, path(3, 5, 0, 7, 2, 6, 4, 1), 3,
			[][]int{{0, 3, 5}, {0, 1, 2, 3, 4, 5, 6, 7}, {0, 2, 3, 5, 7}, {3}, {0, 2, 3, 4, 5, 6, 7}, {3, 5}, {0, 2, 3, 5, 6, 7}, {0, 3, 5, 7}},
			[]int{5, 4, 7, -1, 6, 3, 2, 0}},
		{8, ring(3, 5, 0, 7, 2, 6, 4, 1), 6,
			[][]int{{0, 1, 3, 4, 5, 6}, {1, 4, 6}, {0, 1, 2, 3, 4, 5, 6, 7}, {1, 3, 4, 6}, {4, 6}, {1, 3, 4, 5, 6}, {6}, {0, 1, 3, 4, 5, 6, 7}},
			[]int{5, 4, 7, 1, 6, 3, -1, 0}},
		{6, append(path(0, 1, 2, 3, 4, 5), edges(1, 4)...), 0,
			[][]int{{0}, {0, 1}, {0, 1, 2}, {0, 1, 2, 3}, {0, 1, 4}, {0, 1, 4, 5}}, []int{-1, 0, 1, 2, 1, 4}},
		{6, append(path(0, 1, 2, 3, 4, 5), edges(0, 5)...), 0,
			[][]int{{0}, {0, 1}, {0, 1, 2}, {0, 1, 2, 3}, {0, 1, 2, 3, 4}, {0, 5}}, []int{-1, 0, 1, 2, 3, 0}},
		// Two paths meet, part again and meet again.
		{7, append(append(path(6, 0, 4), path(6, 2, 4)...), append(path(4, 1, 5), path(4, 3, 5)...)...), 6,
			[][]int{{0, 6}, {1, 4, 6}, {2, 6}, {3, 4, 6}, {4, 6}, {4, 5, 6}, {6}}, []int{6, 4, 6, 4, 6, 4, -1}},
		// A loop entered at one vertex, whose vertices part and meet again.
		{6, append(edges(0, 1), append(path(1, 2, 4, 1), append(path(1, 3, 4), edges(1, 5)...)...)...), 0,
			[][]int{{0}, {0, 1}, {0, 1, 2}, {0, 1, 3}, {0, 1, 4}, {0, 1, 5}}, []int{-1, 0, 1, 1, 1, 1}},
		// Loops that are entered at several vertices.
		{6, edges(5, 4, 5, 3, 4, 0, 3, 1, 3, 2, 0, 1, 1, 0, 1, 2, 2, 1), 5,
			[][]int{{0, 5}, {1, 5}, {2, 5}, {3, 5}, {4, 5}, {5}}, []int{5, 5, 5, 5, 5, -1}},
		// One path to 3 goes past 1, and another one past 2.
		{5, append(path(0, 1, 2, 3, 4), edges(0, 2, 1, 3)...), 0,
			[][]int{{0}, {0, 1}, {0, 2}, {0, 3}, {0, 3, 4}}, []int{-1, 0, 0, 0, 3}},
		// Paths of different lengths meet at 4, and an edge leads from there back to the start.
		{8, append(path(0, 1, 4), append(path(7, 6, 4), edges(0, 7, 4, 5, 5, 0, 3, 2)...)...), 0,
			[][]int{{0}, {0, 1}, {}, {}, {0, 4}, {0, 4, 5}, {0, 6, 7}, {0, 7}}, []int{-1, 0, -1, -1, 0, 4, 7, 0}},
	}
}

// TestOf covers R18.1.
func TestOf(t *testing.T) {
	for _, c := range append(smallRuled(), largeRuled()...) {
		expectOf(t, c.n, c.lines, c.from, c.of, api.OK)
		expectOf(t, c.n, backward(c.lines), c.from, c.of, api.OK)
	}
}

// TestLast covers R18.2.
func TestLast(t *testing.T) {
	for _, c := range append(smallRuled(), largeRuled()...) {
		expectLast(t, c.n, c.lines, c.from, c.last, api.OK)
		expectLast(t, c.n, backward(c.lines), c.from, c.last, api.OK)
	}
}

// TestOfAllPaths covers R18.1 with its definition, for many graphs of MaxPts vertices
// with each number of dominators of one vertex, and of each number of reachable ones.
func TestOfAllPaths(t *testing.T) {
	most, reachable := map[int]int{}, map[int]int{}
	everyGraph(func(n int, lines []api.Line, from int) {
		want := dominatorsOf(n, lines, from)
		expectOf(t, n, lines, from, want, api.OK)
		if n == api.MaxPts {
			isEmpty := func(list []int) bool { return len(list) == 0 }
			byLength := func(x, y []int) int { return len(x) - len(y) }
			most[len(slices.MaxFunc(want, byLength))]++
			reachable[len(slices.DeleteFunc(want, isEmpty))]++
		}
	})
	for count := 1; count <= api.MaxPts; count++ {
		if most[count] < 50 {
			t.Errorf("%d graphs with at most %d dominators: too few", most[count], count)
		}
		if reachable[count] < 50 {
			t.Errorf("%d graphs with %d reachable vertices: too few", reachable[count], count)
		}
	}
}

// TestLastOfAllPaths covers R18.2 with its definition, for many vertices whose
// immediate dominator is the start, another vertex with an edge to the vertex, and
// another vertex without one.
func TestLastOfAllPaths(t *testing.T) {
	atStart, near, far := 0, 0, 0
	everyGraph(func(n int, lines []api.Line, from int) {
		want := lastOf(t, dominatorsOf(n, lines, from))
		expectLast(t, n, lines, from, want, api.OK)
		for v, d := range want {
			switch {
			case d == from:
				atStart++
			case d >= 0 && slices.Contains(lines, api.Line{A: d, B: v}):
				near++
			case d >= 0:
				far++
			}
		}
	})
	if min(atStart, near, far) < 500 {
		t.Errorf("%d immediate dominators at the start, %d with and %d without an edge: too few of a kind", atStart, near, far)
	}
}

// expectErrors compares the errors of Of and Last.
func expectErrors(t *testing.T, n int, lines []api.Line, from int, want api.Errno) {
	t.Helper()
	expectOf(t, n, lines, from, nil, want)
	expectLast(t, n, lines, from, nil, want)
}

// starts are vertices of some or all graphs, and numbers that are never vertices.
func starts() []int {
	return []int{0, 1, 2, 3, 7, 8, 9, -1, math.MinInt, math.MaxInt}
}

// TestErrors covers the errors of graph.Check in R18.1 and R18.2, and their order;
// they come before the ErrRange of a start that is not a vertex.
func TestErrors(t *testing.T) {
	for _, c := range []struct {
		n     int
		lines []api.Line
		want  api.Errno
	}{
		{0, nil, api.ErrRange},
		{-1, nil, api.ErrRange},
		{9, nil, api.ErrRange},
		{1<<32 + 1, nil, api.ErrRange},
		{math.MinInt, nil, api.ErrRange},
		{math.MaxInt, nil, api.ErrRange},
		{0, slices.Repeat(edges(0, 1), 25), api.ErrRange},
		{9, edges(1, 1), api.ErrRange},
		{9, ring(0, 1, 2), api.ErrRange},
		{2, slices.Repeat(edges(0, 1), 25), api.ErrFull},
		{2, slices.Repeat(edges(0, 1, 1, 0), 13), api.ErrFull},
		{8, forward(0, 1, 2, 3, 4, 5, 6, 7), api.ErrFull},
		{3, slices.Repeat(edges(1, 1), 25), api.ErrFull},
		{3, slices.Repeat(edges(0, 3), 25), api.ErrFull},
		{3, edges(0, 3), api.ErrRange},
		{3, edges(3, 0), api.ErrRange},
		{3, edges(0, -1), api.ErrRange},
		{3, edges(-1, 0), api.ErrRange},
		{3, edges(3, 3), api.ErrRange},
		{8, edges(0, math.MaxInt), api.ErrRange},
		{8, edges(math.MinInt, 0), api.ErrRange},
		{1, edges(0, 0), api.ErrShape},
		{2, edges(0, 1, 1, 1), api.ErrShape},
		{3, edges(0, 1, 1, 1, 0, 3), api.ErrShape},
		{3, edges(0, 1, 0, 3, 1, 1), api.ErrRange},
		{3, append(ring(0, 1, 2), edges(0, 3)...), api.ErrRange},
		{3, append(ring(0, 1, 2), edges(2, 2)...), api.ErrShape},
	} {
		if err := graph.Check(c.n, c.lines); plain.Told(err) != c.want {
			t.Errorf("Check(%d, %v) = %v, want %v", c.n, c.lines, err, c.want)
		}
		for _, from := range starts() {
			expectErrors(t, c.n, c.lines, from, c.want)
		}
	}
}

// TestStart covers the ErrRange of a start that is not a vertex in R18.1 and R18.2,
// next to the largest vertex, for graphs of all sizes.
func TestStart(t *testing.T) {
	for n := 1; n <= api.MaxPts; n++ {
		for _, lines := range [][]api.Line{nil, path(shuffled(mixer(), n)...), chosen(pairsOf(n), 1<<24-1)} {
			for _, from := range []int{n, n + 1, 100, 1 << 32, math.MaxInt, -1, -2, -n, -1 << 32, math.MinInt} {
				expectErrors(t, n, lines, from, api.ErrRange)
			}
			expectOf(t, n, lines, n-1, dominatorsOf(n, lines, n-1), api.OK)
			expectLast(t, n, lines, n-1, lastOf(t, dominatorsOf(n, lines, n-1)), api.OK)
		}
	}
}

// aliasGraphs are edges between 4 vertices, some of them not valid.
func aliasGraphs() [][]api.Line {
	return [][]api.Line{
		{}, edges(3, 1), path(3, 1, 2, 0), forward(3, 1, 0, 2), slices.Repeat(edges(3, 2), 24), ring(3, 2, 1, 0),
		append(path(0, 1), ring(3, 2)...), append(path(3, 2, 1), edges(3, 1, 1, 0)...), pairsOf(4),
		edges(1, 0, 1, 1), edges(1, 0, 0, 4), slices.Repeat(edges(2, 1), 25),
	}
}

// spare returns the edges in a slice with spare capacity, and all of its memory.
func spare(lines []api.Line) (argument, memory []api.Line) {
	memory = append(slices.Clone(lines), edges(7, 7, 7, 7, 7, 7, 7, 7)...)
	return memory[:len(lines)], memory
}

// fill overwrites a slice and its spare capacity.
func fill[T any](list []T, value T) {
	list = list[:cap(list)]
	for i := range list {
		list[i] = value
	}
}

// TestNoAliasingOfOf covers Z2 for R18.1: the edges and the memory behind them stay as
// they are, with an error too, no two lists share memory, and a later result does not
// depend on what became of an earlier one.
func TestNoAliasingOfOf(t *testing.T) {
	for _, lines := range aliasGraphs() {
		for _, from := range []int{3, 0, 4} {
			argument, memory := spare(lines)
			kept := slices.Clone(memory)
			lists, firstErr := dom.Of(4, argument, from)
			want := [][]int{}
			for _, list := range lists {
				want = append(want, slices.Clone(list))
			}
			for i := range lists {
				if !slices.Equal(lists[i], want[i]) {
					t.Errorf("Of(4, %v, %d): list %d shares memory with an earlier one", lines, from, i)
				}
				fill(lists[i], 99)
			}
			fill(lists, []int{99})
			if !slices.Equal(memory, kept) {
				t.Errorf("Of(4, %v, %d) changes its argument", lines, from)
			}
			expectOf(t, 4, argument, from, want, plain.Told(firstErr))
		}
	}
}

// TestNoAliasingOfLast covers Z2 for R18.2 in the same way.
func TestNoAliasingOfLast(t *testing.T) {
	for _, lines := range aliasGraphs() {
		for _, from := range []int{3, 0, 4} {
			argument, memory := spare(lines)
			kept := slices.Clone(memory)
			first, firstErr := dom.Last(4, argument, from)
			want := slices.Clone(first)
			fill(first, 99)
			if !slices.Equal(memory, kept) {
				t.Errorf("Last(4, %v, %d) changes its argument", lines, from)
			}
			expectLast(t, 4, argument, from, want, plain.Told(firstErr))
		}
	}
}
