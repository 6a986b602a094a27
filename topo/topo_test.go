package topo_test

import (
	"math"
	"slices"
	"testing"

	"brambleweir/api"
	"brambleweir/graph"
	"brambleweir/plain"
	"brambleweir/topo"
)

// edges returns the edges between the given pairs of vertices.
func edges(ends ...int) []api.Line {
	lines := []api.Line{}
	for i := 0; i+1 < len(ends); i += 2 {
		lines = append(lines, api.Line{A: ends[i], B: ends[i+1]})
	}
	return lines
}

// path returns the edges from each vertex to the next one.
func path(vertices ...int) []api.Line {
	lines := []api.Line{}
	for i := 1; i < len(vertices); i++ {
		lines = append(lines, api.Line{A: vertices[i-1], B: vertices[i]})
	}
	return lines
}

// ring returns the edges of the directed cycle of the vertices.
func ring(vertices ...int) []api.Line {
	return append(path(vertices...), api.Line{A: vertices[len(vertices)-1], B: vertices[0]})
}

// forward returns the edges from each vertex to all later ones.
func forward(vertices ...int) []api.Line {
	lines := []api.Line{}
	for i, a := range vertices {
		for _, b := range vertices[i+1:] {
			lines = append(lines, api.Line{A: a, B: b})
		}
	}
	return lines
}

// across returns the edges from every vertex of one list to every one of another.
func across(some, others []int) []api.Line {
	lines := []api.Line{}
	for _, a := range some {
		for _, b := range others {
			lines = append(lines, api.Line{A: a, B: b})
		}
	}
	return lines
}

// backward returns the edges in the opposite order, with their directions as they are.
func backward(lines []api.Line) []api.Line {
	out := slices.Clone(lines)
	slices.Reverse(out)
	return out
}

// mixer returns a function of which each call gives the next number below its
// argument of a fixed sequence without visible order.
func mixer() func(below int) int {
	state := uint64(88172645463325252)
	return func(below int) int {
		state ^= state << 13
		state ^= state >> 7
		state ^= state << 17
		return int(state>>11) % below
	}
}

// shuffled returns the vertices 0 to n-1 in no order.
func shuffled(below func(int) int, n int) []int {
	vertices := []int{}
	for v := range n {
		vertices = slices.Insert(vertices, below(v+1), v)
	}
	return vertices
}

// anyEdge returns an edge between two of n vertices.
func anyEdge(below func(int) int, n int) api.Line {
	a := below(n)
	return api.Line{A: a, B: (a + 1 + below(n-1)) % n}
}

// smallGraphs calls a function with every directed graph of at most 4 vertices, and
// with its edges in the other order, and doubled.
func smallGraphs(call func(n int, lines []api.Line)) {
	for n := 1; n <= 4; n++ {
		all := pairsOf(n)
		for mask := range 1 << len(all) {
			lines := []api.Line{}
			for i, line := range all {
				if mask>>i&1 == 1 {
					lines = append(lines, line)
				}
			}
			call(n, lines)
			call(n, backward(lines))
			call(n, append(backward(lines), lines...))
		}
	}
}

// pairsOf returns the edges between any two of n vertices, in both directions.
func pairsOf(n int) []api.Line {
	lines := []api.Line{}
	for a := range n {
		for b := range n {
			if a != b {
				lines = append(lines, api.Line{A: a, B: b})
			}
		}
	}
	return lines
}

// mixedGraphs calls a function with graphs of all sizes, whose edges are in no order
// and may be parallel; many of them have few edges.
func mixedGraphs(call func(n int, lines []api.Line)) {
	below := mixer()
	for range 4000 {
		n := 2 + below(api.MaxPts-1)
		lines := []api.Line{}
		for range below(1 + min(api.MaxLines, n+below(api.MaxLines))) {
			lines = append(lines, anyEdge(below, n))
		}
		call(n, lines)
	}
}

// sortedGraphs calls a function with graphs of all sizes whose edges go forward in a
// list of the vertices in no order, except for at most one edge; they may be parallel.
func sortedGraphs(call func(n int, lines []api.Line)) {
	below := mixer()
	for range 6000 {
		n := 2 + below(api.MaxPts-1)
		all := forward(shuffled(below, n)...)
		lines := []api.Line{}
		for range below(api.MaxLines) {
			lines = append(lines, all[below(len(all))])
		}
		if below(3) == 0 {
			lines = slices.Insert(lines, below(len(lines)+1), anyEdge(below, n))
		}
		call(n, lines)
	}
}

// pathGraphs calls a function with graphs that have a path through many or all of the
// vertices, without and with the edge that closes it, and with a few edges forward.
func pathGraphs(call func(n int, lines []api.Line)) {
	below := mixer()
	for length := 2; length <= api.MaxPts; length++ {
		for range 200 {
			vertices := shuffled(below, api.MaxPts)
			lines := path(vertices[:length]...)
			all := forward(vertices...)
			for range below(8) {
				lines = slices.Insert(lines, below(len(lines)+1), all[below(len(all))])
			}
			call(api.MaxPts, lines)
			call(api.MaxPts, backward(lines))
			call(api.MaxPts, append(edges(vertices[length-1], vertices[0]), lines...))
		}
	}
}

// everyGraph calls a function with all the graphs above.
func everyGraph(call func(n int, lines []api.Line)) {
	smallGraphs(call)
	mixedGraphs(call)
	sortedGraphs(call)
	pathGraphs(call)
}

// isCyclic is the definition: it tries to come back to each vertex on a way over all
// vertices that can be reached from it.
func isCyclic(n int, lines []api.Line) bool {
	for start := range n {
		reached := make([]bool, n)
		var follow func(v int)
		follow = func(v int) {
			for _, line := range lines {
				if line.A == v && !reached[line.B] {
					reached[line.B] = true
					follow(line.B)
				}
			}
		}
		follow(start)
		if reached[start] {
			return true
		}
	}
	return false
}

// isOrder tells whether a list has each of n vertices once, and all edges go forward
// in it.
func isOrder(n int, lines []api.Line, list []int) bool {
	places := slices.Repeat([]int{-1}, n)
	for place, v := range list {
		if v < 0 || v >= n || places[v] >= 0 {
			return false
		}
		places[v] = place
	}
	against := func(line api.Line) bool { return places[line.A] >= places[line.B] }
	return len(list) == n && !slices.ContainsFunc(lines, against)
}

// permutations returns all orders of the vertices 0 to n-1, sorted.
func permutations(n int) [][]int {
	out := [][]int{}
	var extend func(list []int)
	extend = func(list []int) {
		if len(list) == n {
			out = append(out, slices.Clone(list))
			return
		}
		for v := range n {
			if !slices.Contains(list, v) {
				extend(append(list, v))
			}
		}
	}
	extend([]int{})
	return out
}

// hasEdgeFrom tells whether an edge goes from one of some vertices to another vertex.
func hasEdgeFrom(lines []api.Line, some []int, v int) bool {
	return slices.ContainsFunc(lines, func(line api.Line) bool {
		return line.B == v && slices.Contains(some, line.A)
	})
}

// depthOf is the definition: it follows all paths that end in a vertex backwards. The
// graph has no cycle.
func depthOf(lines []api.Line, v int) int {
	longest := 0
	for _, line := range lines {
		if line.B == v {
			longest = max(longest, depthOf(lines, line.A)+1)
		}
	}
	return longest
}

// expectOrder compares Order with vertices, or with an error and none.
func expectOrder(t *testing.T, n int, lines []api.Line, want []int, wantErr api.Errno) {
	t.Helper()
	got, err := topo.Order(n, lines)
	if plain.Told(err) != wantErr || !slices.Equal(got, want) {
		t.Errorf("Order(%d, %v) = %v, %v, want %v, %v", n, lines, got, err, want, wantErr)
	}
}

// expectDeep compares Deep with numbers of edges, or with an error and none.
func expectDeep(t *testing.T, n int, lines []api.Line, want []int, wantErr api.Errno) {
	t.Helper()
	got, err := topo.Deep(n, lines)
	if plain.Told(err) != wantErr || !slices.Equal(got, want) {
		t.Errorf("Deep(%d, %v) = %v, %v, want %v, %v", n, lines, got, err, want, wantErr)
	}
}

// sortable are graphs without a cycle, with their orders and the lengths of their
// longest paths: vertices without edges, parallel edges, vertices that become free
// before smaller or larger ones, and paths of different lengths to one vertex.
func sortable() []sorted {
	return []sorted{
		{1, nil, []int{0}, []int{0}},
		{1, edges(), []int{0}, []int{0}},
		{2, nil, []int{0, 1}, []int{0, 0}},
		{8, nil, []int{0, 1, 2, 3, 4, 5, 6, 7}, []int{0, 0, 0, 0, 0, 0, 0, 0}},
		{2, edges(0, 1), []int{0, 1}, []int{0, 1}},
		{2, edges(1, 0), []int{1, 0}, []int{1, 0}},
		{2, edges(1, 0, 1, 0), []int{1, 0}, []int{1, 0}},
		{2, slices.Repeat(edges(1, 0), 24), []int{1, 0}, []int{1, 0}},
		// The examples of the document.
		{3, edges(2, 0, 2, 1), []int{2, 0, 1}, []int{1, 1, 0}},
		{3, edges(0, 1, 1, 2), []int{0, 1, 2}, []int{0, 1, 2}},
		{3, path(2, 1, 0), []int{2, 1, 0}, []int{2, 1, 0}},
		{3, path(1, 2, 0), []int{1, 2, 0}, []int{2, 0, 1}},
		{3, edges(1, 0), []int{1, 0, 2}, []int{1, 0, 0}},
		{3, edges(2, 0), []int{1, 2, 0}, []int{1, 0, 0}},
		{3, edges(2, 1), []int{0, 2, 1}, []int{0, 1, 0}},
		{3, edges(1, 0, 2, 0), []int{1, 2, 0}, []int{1, 0, 0}},
		{3, edges(0, 2, 0, 1, 1, 2), []int{0, 1, 2}, []int{0, 1, 2}},
		{3, edges(2, 0, 2, 1, 1, 0, 2, 0), []int{2, 1, 0}, []int{2, 1, 0}},
		// A vertex that has become free goes before larger ones that were free earlier.
		{4, edges(1, 0), []int{1, 0, 2, 3}, []int{1, 0, 0, 0}},
		{5, edges(3, 0, 3, 1), []int{2, 3, 0, 1, 4}, []int{1, 1, 0, 0, 0}},
		{6, edges(4, 0, 2, 3, 0, 1), []int{2, 3, 4, 0, 1, 5}, []int{1, 2, 0, 1, 0, 0}},
		// A vertex that has become free waits for smaller ones.
		{4, edges(0, 3), []int{0, 1, 2, 3}, []int{0, 0, 0, 1}},
		{5, path(0, 4, 1), []int{0, 2, 3, 4, 1}, []int{0, 2, 0, 0, 1}},
		// The larger of the free vertices frees the smallest one, but has to wait.
		{5, edges(4, 0, 1, 3), []int{1, 2, 3, 4, 0}, []int{1, 0, 0, 1, 0}},
		{4, append(path(0, 1, 2, 3), edges(0, 3)...), []int{0, 1, 2, 3}, []int{0, 1, 2, 3}},
		{4, append(edges(0, 3), path(0, 2, 1, 3)...), []int{0, 2, 1, 3}, []int{0, 2, 1, 3}},
		{6, append(path(0, 1, 5), path(0, 2, 3, 4, 5)...), []int{0, 1, 2, 3, 4, 5}, []int{0, 1, 1, 2, 3, 4}},
		{6, append(path(5, 4, 0), path(5, 3, 2, 1, 0)...), []int{5, 3, 2, 1, 4, 0}, []int{4, 3, 2, 1, 1, 0}},
		{8, edges(7, 0, 6, 1, 5, 2, 4, 3), []int{4, 3, 5, 2, 6, 1, 7, 0}, []int{1, 1, 1, 1, 0, 0, 0, 0}},
		{8, path(7, 6, 5, 4, 3, 2, 1, 0), []int{7, 6, 5, 4, 3, 2, 1, 0}, []int{7, 6, 5, 4, 3, 2, 1, 0}},
		{8, path(3, 5, 0, 7, 2, 6, 4, 1), []int{3, 5, 0, 7, 2, 6, 4, 1}, []int{2, 7, 4, 0, 6, 1, 5, 3}},
		{8, append(path(7, 2, 0), path(6, 5, 4)...), []int{1, 3, 6, 5, 4, 7, 2, 0}, []int{2, 0, 1, 0, 2, 1, 0, 0}},
		{8, across([]int{7, 6, 5, 4}, []int{0, 1, 2, 3}), []int{4, 5, 6, 7, 0, 1, 2, 3}, []int{1, 1, 1, 1, 0, 0, 0, 0}},
		{8, forward(7, 6, 5, 4, 3, 2, 1, 0)[4:], []int{6, 5, 4, 3, 7, 2, 1, 0}, []int{6, 5, 4, 3, 2, 1, 0, 0}},
	}
}

// sorted is a graph without a cycle, with the results of Order and Deep.
type sorted struct {
	n            int
	lines        []api.Line
	order, depth []int
}

// TestOrder covers R13.1.
func TestOrder(t *testing.T) {
	for _, c := range sortable() {
		expectOrder(t, c.n, c.lines, c.order, api.OK)
		expectOrder(t, c.n, backward(c.lines), c.order, api.OK)
	}
}

// TestDeep covers R13.2.
func TestDeep(t *testing.T) {
	for _, c := range sortable() {
		expectDeep(t, c.n, c.lines, c.depth, api.OK)
		expectDeep(t, c.n, backward(c.lines), c.depth, api.OK)
	}
}

// TestCycles covers the ErrNone of R13.1 and R13.2: cycles of all lengths, alone, with
// vertices before and after them, and next to a part without one.
func TestCycles(t *testing.T) {
	for _, c := range []struct {
		n     int
		lines []api.Line
	}{
		{2, edges(0, 1, 1, 0)},
		{2, edges(1, 0, 0, 1)},
		{2, append(slices.Repeat(edges(0, 1), 23), edges(1, 0)...)},
		{8, edges(6, 7, 7, 6)},
		{3, ring(0, 1, 2)},
		{3, ring(2, 1, 0)},
		{4, append(ring(0, 1, 2), edges(2, 3)...)},
		{4, append(ring(1, 2, 3), edges(0, 1)...)},
		{5, append(ring(1, 2, 3), edges(0, 1, 3, 4)...)},
		{5, append(path(0, 1, 2), edges(3, 4, 4, 3)...)},
		{5, append(path(4, 3, 2), edges(0, 1, 1, 0)...)},
		{4, append(path(0, 1, 2, 3), edges(2, 1)...)},
		{4, append(path(0, 1, 2, 3), edges(3, 0)...)},
		{4, append(path(3, 2, 1, 0), edges(0, 2)...)},
		{6, append(ring(0, 1, 2), ring(3, 4, 5)...)},
		{8, ring(0, 1, 2, 3, 4, 5, 6, 7)},
		{8, ring(7, 2, 5, 0, 3, 6, 1, 4)},
		{8, append(forward(0, 1, 2, 3, 4, 5, 6, 7)[:23], edges(7, 0)...)},
		{4, pairsOf(4)},
		{5, pairsOf(5)[:20]},
	} {
		expectOrder(t, c.n, c.lines, nil, api.ErrNone)
		expectDeep(t, c.n, c.lines, nil, api.ErrNone)
	}
}

// TestOrderOfAllPermutations covers R13.1 on graphs of at most 5 vertices: the result
// is the first of all topological orders, since each position holds the smallest
// vertex that can be there after those before.
func TestOrderOfAllPermutations(t *testing.T) {
	all := [][][]int{}
	for n := range 6 {
		all = append(all, permutations(n))
	}
	with, without := 0, 0
	everyGraph(func(n int, lines []api.Line) {
		if n > 5 {
			return
		}
		fits := func(list []int) bool { return isOrder(n, lines, list) }
		if i := slices.IndexFunc(all[n], fits); i >= 0 {
			with++
			expectOrder(t, n, lines, all[n][i], api.OK)
		} else {
			without++
			expectOrder(t, n, lines, nil, api.ErrNone)
		}
	})
	if with < 2000 || without < 2000 {
		t.Errorf("%d graphs with an order and %d without: too few of a kind", with, without)
	}
}

// TestOrderStepByStep covers R13.1 with the text of the document: no smaller remaining
// vertex is without an incoming edge from another remaining one.
func TestOrderStepByStep(t *testing.T) {
	with, without := 0, 0
	everyGraph(func(n int, lines []api.Line) {
		if isCyclic(n, lines) {
			without++
			expectOrder(t, n, lines, nil, api.ErrNone)
			return
		}
		with++
		order, err := topo.Order(n, lines)
		if err != nil || !isOrder(n, lines, order) {
			t.Fatalf("Order(%d, %v) = %v, %v: no order", n, lines, order, err)
		}
		for i, v := range order {
			for _, w := range order[i:] {
				if w < v && !hasEdgeFrom(lines, order[i:], w) {
					t.Fatalf("Order(%d, %v) = %v: %d is free before %d", n, lines, order, w, v)
				}
			}
		}
	})
	if with < 5000 || without < 5000 {
		t.Errorf("%d graphs with an order and %d without: too few of a kind", with, without)
	}
}

// TestDeepOfAllPaths covers R13.2: the longest of all paths, of all possible lengths.
func TestDeepOfAllPaths(t *testing.T) {
	found := map[int]int{}
	everyGraph(func(n int, lines []api.Line) {
		if isCyclic(n, lines) {
			found[-1]++
			expectDeep(t, n, lines, nil, api.ErrNone)
			return
		}
		want := []int{}
		for v := range n {
			want = append(want, depthOf(lines, v))
		}
		found[slices.Max(want)]++
		expectDeep(t, n, lines, want, api.OK)
	})
	for longest := -1; longest < api.MaxPts; longest++ {
		if found[longest] < 100 {
			t.Errorf("%d graphs with a longest path of %d edges: too few", found[longest], longest)
		}
	}
}

// TestErrors covers the errors of graph.Check in R13.1 and R13.2, and their order;
// they come before ErrNone.
func TestErrors(t *testing.T) {
	for _, c := range []struct {
		n     int
		lines []api.Line
		want  api.Errno
	}{
		{0, nil, api.ErrRange},
		{-1, nil, api.ErrRange},
		{9, nil, api.ErrRange},
		{1<<32 + 1, nil, api.ErrRange},
		{math.MinInt, nil, api.ErrRange},
		{math.MaxInt, nil, api.ErrRange},
		{0, slices.Repeat(edges(0, 1), 25), api.ErrRange},
		{9, edges(1, 1), api.ErrRange},
		{9, ring(0, 1, 2), api.ErrRange},
		{2, slices.Repeat(edges(0, 1), 25), api.ErrFull},
		{2, slices.Repeat(edges(0, 1, 1, 0), 13), api.ErrFull},
		{8, forward(0, 1, 2, 3, 4, 5, 6, 7), api.ErrFull},
		{3, slices.Repeat(edges(1, 1), 25), api.ErrFull},
		{3, slices.Repeat(edges(0, 3), 25), api.ErrFull},
		{3, edges(0, 3), api.ErrRange},
		{3, edges(3, 0), api.ErrRange},
		{3, edges(0, -1), api.ErrRange},
		{3, edges(-1, 0), api.ErrRange},
		{3, edges(3, 3), api.ErrRange},
		{8, edges(0, math.MaxInt), api.ErrRange},
		{8, edges(math.MinInt, 0), api.ErrRange},
		{1, edges(0, 0), api.ErrShape},
		{2, edges(0, 1, 1, 1), api.ErrShape},
		{3, edges(0, 1, 1, 2, 2, 2), api.ErrShape},
		{3, edges(0, 1, 1, 1, 0, 3), api.ErrShape},
		{3, edges(0, 1, 0, 3, 1, 1), api.ErrRange},
		{3, append(ring(0, 1, 2), edges(0, 3)...), api.ErrRange},
		{3, append(ring(0, 1, 2), edges(2, 2)...), api.ErrShape},
		{2, edges(0, 1, 1, 0, 0, 0), api.ErrShape},
		{2, edges(0, 1, 1, 0, 0, 2), api.ErrRange},
	} {
		if err := graph.Check(c.n, c.lines); plain.Told(err) != c.want {
			t.Errorf("Check(%d, %v) = %v, want %v", c.n, c.lines, err, c.want)
		}
		expectOrder(t, c.n, c.lines, nil, c.want)
		expectDeep(t, c.n, c.lines, nil, c.want)
	}
}

// overwritten fills a slice and its spare capacity, and returns what it held.
func overwritten(list []int) []int {
	held := slices.Clone(list)
	whole := list[:cap(list)]
	for i := range whole {
		whole[i] = 99
	}
	return held
}

// TestNoAliasing covers Z2: the edges and the memory behind them stay as they are,
// with an error too, and a later result does not depend on what became of an earlier
// one.
func TestNoAliasing(t *testing.T) {
	calls := map[string]func(n int, lines []api.Line) ([]int, error){
		"Order": topo.Order,
		"Deep":  topo.Deep,
	}
	for _, lines := range [][]api.Line{
		{}, edges(3, 1), path(0, 1, 2, 3), path(3, 1, 2, 0), forward(3, 1, 0, 2),
		across([]int{3, 1}, []int{2, 0}), slices.Repeat(edges(3, 2), 24),
		ring(3, 2, 1, 0), append(path(0, 1), ring(3, 2)...), pairsOf(4),
		edges(1, 0, 1, 1), edges(1, 0, 0, 4), slices.Repeat(edges(2, 1), 25),
	} {
		for name, call := range calls {
			memory := append(slices.Clone(lines), edges(7, 7, 7, 7, 7, 7, 7, 7)...)
			argument := memory[:len(lines)]
			kept := slices.Clone(memory)
			first, firstErr := call(4, argument)
			want := overwritten(first)
			second, err := call(4, argument)
			if !slices.Equal(second, want) || plain.Told(err) != plain.Told(firstErr) {
				t.Errorf("%s of %v: first %v, %v, then %v, %v", name, lines, want, firstErr, second, err)
			}
			if !slices.Equal(memory, kept) {
				t.Errorf("%s of %v changes its argument", name, lines)
			}
		}
	}
}
