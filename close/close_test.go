package close_test

import (
	"math"
	"slices"
	"testing"

	"brambleweir/api"
	"brambleweir/close"
	"brambleweir/graph"
	"brambleweir/plain"
	"brambleweir/topo"
)

// edges returns the edges between the given pairs of vertices.
func edges(ends ...int) []api.Line {
	lines := []api.Line{}
	for i := 0; i+1 < len(ends); i += 2 {
		lines = append(lines, api.Line{A: ends[i], B: ends[i+1]})
	}
	return lines
}

// path returns the edges from each vertex to the next one.
func path(vertices ...int) []api.Line {
	lines := []api.Line{}
	for i := 1; i < len(vertices); i++ {
		lines = append(lines, api.Line{A: vertices[i-1], B: vertices[i]})
	}
	return lines
}

// ring returns the edges of the directed cycle of the vertices.
func ring(vertices ...int) []api.Line {
	return append(path(vertices...), api.Line{A: vertices[len(vertices)-1], B: vertices[0]})
}

// forward returns the edges from each vertex to all later ones.
func forward(vertices ...int) []api.Line {
	lines := []api.Line{}
	for i, a := range vertices {
		for _, b := range vertices[i+1:] {
			lines = append(lines, api.Line{A: a, B: b})
		}
	}
	return lines
}

// across returns the edges from every vertex of one list to every one of another.
func across(some, others []int) []api.Line {
	lines := []api.Line{}
	for _, a := range some {
		for _, b := range others {
			lines = append(lines, api.Line{A: a, B: b})
		}
	}
	return lines
}

// backward returns the edges in the opposite order, with their directions as they are.
func backward(lines []api.Line) []api.Line {
	out := slices.Clone(lines)
	slices.Reverse(out)
	return out
}

// byEnds compares edges by A and then by B.
func byEnds(x, y api.Line) int {
	if x.A != y.A {
		return x.A - y.A
	}
	return x.B - y.B
}

// pairsOf returns the edges between any two of n vertices, in both directions, sorted.
func pairsOf(n int) []api.Line {
	lines := []api.Line{}
	for a := range n {
		for b := range n {
			if a != b {
				lines = append(lines, api.Line{A: a, B: b})
			}
		}
	}
	return lines
}

// chosen returns the edges whose binary digits in mask are 1.
func chosen(lines []api.Line, mask int) []api.Line {
	out := []api.Line{}
	for i, line := range lines {
		if mask>>i&1 == 1 {
			out = append(out, line)
		}
	}
	return out
}

// mixer returns a function of which each call gives the next number below its
// argument of a fixed sequence without visible order.
func mixer() func(below int) int {
	state := uint64(88172645463325252)
	return func(below int) int {
		state ^= state << 13
		state ^= state >> 7
		state ^= state << 17
		return int(state>>11) % below
	}
}

// shuffled returns the vertices 0 to n-1 in no order.
func shuffled(below func(int) int, n int) []int {
	vertices := []int{}
	for v := range n {
		vertices = slices.Insert(vertices, below(v+1), v)
	}
	return vertices
}

// smallGraphs calls a function with every directed graph of at most 4 vertices, and
// with its edges in the other order, and doubled.
func smallGraphs(call func(n int, lines []api.Line)) {
	for n := 1; n <= 4; n++ {
		all := pairsOf(n)
		for mask := range 1 << len(all) {
			lines := chosen(all, mask)
			call(n, lines)
			call(n, backward(lines))
			call(n, append(backward(lines), lines...))
		}
	}
}

// mixedGraphs calls a function with graphs of all sizes, whose edges are in no order
// and may be parallel; many of them have few edges.
func mixedGraphs(call func(n int, lines []api.Line)) {
	below := mixer()
	for range 4000 {
		n := 2 + below(api.MaxPts-1)
		all := pairsOf(n)
		lines := []api.Line{}
		for range below(1 + min(api.MaxLines, n+below(api.MaxLines))) {
			lines = append(lines, all[below(len(all))])
		}
		call(n, lines)
	}
}

// acyclicGraphs calls a function with graphs of all sizes whose edges go forward in a
// list of the vertices in no order. Many have a long path in them, whose other edges
// are spare; they may be parallel.
func acyclicGraphs(call func(n int, lines []api.Line)) {
	below := mixer()
	for range 6000 {
		n := 2 + below(api.MaxPts-1)
		vertices := shuffled(below, n)
		all := forward(vertices...)
		lines := path(vertices[:1+below(n)]...)
		for range below(api.MaxLines - len(lines) + 1) {
			lines = slices.Insert(lines, below(len(lines)+1), all[below(len(all))])
		}
		call(n, lines)
	}
}

// everyGraph calls a function with all the graphs above.
func everyGraph(call func(n int, lines []api.Line)) {
	smallGraphs(call)
	mixedGraphs(call)
	acyclicGraphs(call)
}

// reached is the definition of All: it follows all edges, first from each vertex, and
// then from all vertices met on the way, of which the first need not be one.
func reached(n int, lines []api.Line) [][]int {
	out := [][]int{}
	for from := range n {
		met := []int{}
		var follow func(v int)
		follow = func(v int) {
			for _, line := range lines {
				if line.A == v && !slices.Contains(met, line.B) {
					met = append(met, line.B)
					follow(line.B)
				}
			}
		}
		follow(from)
		slices.Sort(met)
		out = append(out, met)
	}
	return out
}

// isCyclic tells whether a vertex can be reached from itself.
func isCyclic(n int, lines []api.Line) bool {
	for v, met := range reached(n, lines) {
		if slices.Contains(met, v) {
			return true
		}
	}
	return false
}

// sameLists tells whether two lists of lists are equal.
func sameLists(x, y [][]int) bool {
	return slices.EqualFunc(x, y, slices.Equal)
}

// expectAll compares All with lists of vertices, or with an error and none.
func expectAll(t *testing.T, n int, lines []api.Line, want [][]int, wantErr api.Errno) {
	t.Helper()
	got, err := close.All(n, lines)
	if plain.Told(err) != wantErr || !sameLists(got, want) {
		t.Errorf("All(%d, %v) = %v, %v, want %v, %v", n, lines, got, err, want, wantErr)
	}
}

// expectFew compares Few with edges, or with an error and none.
func expectFew(t *testing.T, n int, lines, want []api.Line, wantErr api.Errno) {
	t.Helper()
	got, err := close.Few(n, lines)
	if plain.Told(err) != wantErr || !slices.Equal(got, want) {
		t.Errorf("Few(%d, %v) = %v, %v, want %v, %v", n, lines, got, err, want, wantErr)
	}
}

// acyclic is a graph without a cycle, with the results of All and Few.
type acyclic struct {
	n     int
	lines []api.Line
	all   [][]int
	few   []api.Line
}

// acyclics are vertices without edges, parallel edges, paths in all directions, and
// edges that are spare because of one or more paths, short or long.
func acyclics() []acyclic {
	return []acyclic{
		{1, nil, [][]int{{}}, nil},
		{1, edges(), [][]int{{}}, nil},
		{8, nil, make([][]int, 8), nil},
		{2, edges(0, 1), [][]int{{1}, {}}, edges(0, 1)},
		{2, edges(1, 0), [][]int{{}, {0}}, edges(1, 0)},
		{2, edges(0, 1, 0, 1), [][]int{{1}, {}}, edges(0, 1)},
		{2, slices.Repeat(edges(1, 0), 24), [][]int{{}, {0}}, edges(1, 0)},
		{3, edges(1, 2), [][]int{{}, {2}, {}}, edges(1, 2)},
		// The examples of the document.
		{3, edges(0, 1, 1, 2), [][]int{{1, 2}, {2}, {}}, edges(0, 1, 1, 2)},
		{3, edges(0, 1, 1, 2, 0, 2), [][]int{{1, 2}, {2}, {}}, edges(0, 1, 1, 2)},
		{3, edges(2, 0, 2, 1), [][]int{{}, {}, {0, 1}}, edges(2, 0, 2, 1)},
		{3, edges(1, 0, 2, 0), [][]int{{}, {0}, {0}}, edges(1, 0, 2, 0)},
		{3, forward(2, 1, 0), [][]int{{}, {0}, {0, 1}}, edges(1, 0, 2, 1)},
		{3, forward(1, 2, 0), [][]int{{}, {0, 2}, {0}}, edges(1, 2, 2, 0)},
		{3, slices.Repeat(forward(2, 0, 1), 2), [][]int{{1}, {}, {0, 1}}, edges(0, 1, 2, 0)},
		// The edge from the first to the last vertex is spare because of a long path.
		{4, append(edges(0, 3), path(0, 1, 2, 3)...), [][]int{{1, 2, 3}, {2, 3}, {3}, {}}, path(0, 1, 2, 3)},
		{4, append(edges(3, 0), path(3, 1, 2, 0)...), [][]int{{}, {0, 2}, {0}, {0, 1, 2}}, edges(1, 2, 2, 0, 3, 1)},
		// Two paths between the same vertices, and the edge between them.
		{4, edges(2, 3, 1, 3, 0, 2, 0, 1), [][]int{{1, 2, 3}, {3}, {3}, {}}, edges(0, 1, 0, 2, 1, 3, 2, 3)},
		{4, edges(0, 3, 2, 3, 1, 3, 0, 2, 0, 1), [][]int{{1, 2, 3}, {3}, {3}, {}}, edges(0, 1, 0, 2, 1, 3, 2, 3)},
		// Edges from the same vertex, or to it, of which no path has both.
		{4, edges(0, 1, 2, 1, 2, 3), [][]int{{1}, {}, {1, 3}, {}}, edges(0, 1, 2, 1, 2, 3)},
		{4, forward(0, 1, 2, 3), [][]int{{1, 2, 3}, {2, 3}, {3}, {}}, path(0, 1, 2, 3)},
		{5, append(path(0, 1, 2), path(4, 3)...), [][]int{{1, 2}, {2}, {}, {}, {3}}, edges(0, 1, 1, 2, 4, 3)},
		{8, path(3, 5, 0, 7, 2, 6, 4, 1), [][]int{
			{1, 2, 4, 6, 7}, {}, {1, 4, 6}, {0, 1, 2, 4, 5, 6, 7}, {1}, {0, 1, 2, 4, 6, 7}, {1, 4}, {1, 2, 4, 6},
		}, edges(0, 7, 2, 6, 3, 5, 4, 1, 5, 0, 6, 4, 7, 2)},
		{8, across([]int{7, 6, 5, 4}, []int{3, 2, 1, 0}), [][]int{
			{}, {}, {}, {}, {0, 1, 2, 3}, {0, 1, 2, 3}, {0, 1, 2, 3}, {0, 1, 2, 3},
		}, across([]int{4, 5, 6, 7}, []int{0, 1, 2, 3})},
		// Too many pairs of vertices with a path for the edges of a graph.
		{8, path(7, 6, 5, 4, 3, 2, 1, 0), [][]int{
			{}, {0}, {0, 1}, {0, 1, 2}, {0, 1, 2, 3}, {0, 1, 2, 3, 4}, {0, 1, 2, 3, 4, 5}, {0, 1, 2, 3, 4, 5, 6},
		}, edges(1, 0, 2, 1, 3, 2, 4, 3, 5, 4, 6, 5, 7, 6)},
		{8, forward(0, 1, 2, 3, 4, 5, 6, 7)[4:], [][]int{
			{5, 6, 7}, {2, 3, 4, 5, 6, 7}, {3, 4, 5, 6, 7}, {4, 5, 6, 7}, {5, 6, 7}, {6, 7}, {7}, {},
		}, append(edges(0, 5), path(1, 2, 3, 4, 5, 6, 7)...)},
	}
}

// TestAll covers R14.1 without cycles.
func TestAll(t *testing.T) {
	for _, c := range acyclics() {
		expectAll(t, c.n, c.lines, c.all, api.OK)
		expectAll(t, c.n, backward(c.lines), c.all, api.OK)
	}
}

// TestFew covers R14.2.
func TestFew(t *testing.T) {
	for _, c := range acyclics() {
		expectFew(t, c.n, c.lines, c.few, api.OK)
		expectFew(t, c.n, backward(c.lines), c.few, api.OK)
	}
}

// TestCycles covers cycles: R14.1 has a vertex in its own list only if it is on one,
// and not if it is before or after one, and R14.2 has ErrNone.
func TestCycles(t *testing.T) {
	ringOf8 := slices.Repeat([][]int{{0, 1, 2, 3, 4, 5, 6, 7}}, 8)
	for _, c := range []struct {
		n     int
		lines []api.Line
		all   [][]int
	}{
		{2, edges(0, 1, 1, 0), [][]int{{0, 1}, {0, 1}}},
		{2, append(slices.Repeat(edges(0, 1), 23), edges(1, 0)...), [][]int{{0, 1}, {0, 1}}},
		{3, edges(1, 2, 2, 1), [][]int{{}, {1, 2}, {1, 2}}},
		{3, ring(0, 1, 2), [][]int{{0, 1, 2}, {0, 1, 2}, {0, 1, 2}}},
		{3, ring(2, 1, 0), [][]int{{0, 1, 2}, {0, 1, 2}, {0, 1, 2}}},
		{3, edges(0, 1, 1, 2, 2, 1), [][]int{{1, 2}, {1, 2}, {1, 2}}},
		{3, edges(0, 1, 1, 0, 1, 2), [][]int{{0, 1, 2}, {0, 1, 2}, {}}},
		{4, edges(0, 1, 1, 0, 2, 3, 3, 2), [][]int{{0, 1}, {0, 1}, {2, 3}, {2, 3}}},
		{4, edges(0, 1, 1, 0, 2, 3, 3, 2, 3, 0), [][]int{{0, 1}, {0, 1}, {0, 1, 2, 3}, {0, 1, 2, 3}}},
		{5, append(ring(1, 3, 2), edges(0, 1, 3, 4)...), [][]int{{1, 2, 3, 4}, {1, 2, 3, 4}, {1, 2, 3, 4}, {1, 2, 3, 4}, {}}},
		{5, append(path(4, 3, 2), edges(0, 1, 1, 0)...), [][]int{{0, 1}, {0, 1}, {}, {2}, {2, 3}}},
		{8, ring(0, 1, 2, 3, 4, 5, 6, 7), ringOf8},
		{8, ring(7, 2, 5, 0, 3, 6, 1, 4), ringOf8},
		{8, append(forward(0, 1, 2, 3, 4, 5, 6, 7)[:23], edges(7, 0)...), [][]int{
			{0, 1, 2, 3, 4, 5, 6, 7}, {0, 1, 2, 3, 4, 5, 6, 7}, {0, 1, 2, 3, 4, 5, 6, 7}, {0, 1, 2, 3, 4, 5, 6, 7},
			{5}, {}, {}, {0, 1, 2, 3, 4, 5, 6, 7},
		}},
	} {
		expectAll(t, c.n, c.lines, c.all, api.OK)
		expectAll(t, c.n, backward(c.lines), c.all, api.OK)
		expectFew(t, c.n, c.lines, nil, api.ErrNone)
		expectFew(t, c.n, backward(c.lines), nil, api.ErrNone)
	}
}

// TestAllOfAllPaths covers R14.1 with its definition.
func TestAllOfAllPaths(t *testing.T) {
	everyGraph(func(n int, lines []api.Line) {
		expectAll(t, n, lines, reached(n, lines), api.OK)
	})
}

// leastEdges is the definition of Few: it tries all sets of edges between n vertices
// that have a certain closure, and returns the edges of the smallest, which is the
// only one of its size.
func leastEdges(t *testing.T, n int) func(closure [][]int) []api.Line {
	sets := map[[4][4]bool][][]api.Line{}
	key := func(closure [][]int) (k [4][4]bool) {
		for a, met := range closure {
			for _, b := range met {
				k[a][b] = true
			}
		}
		return k
	}
	all := pairsOf(n)
	for mask := range 1 << len(all) {
		k := key(reached(n, chosen(all, mask)))
		sets[k] = append(sets[k], chosen(all, mask))
	}
	return func(closure [][]int) []api.Line {
		fewer := func(x, y []api.Line) int { return len(x) - len(y) }
		found := slices.SortedFunc(slices.Values(sets[key(closure)]), fewer)
		if len(found) > 1 && len(found[0]) == len(found[1]) {
			t.Fatalf("%v and %v are both smallest", found[0], found[1])
		}
		return found[0]
	}
}

// TestFewOfAllSets covers R14.2 on graphs of at most 4 vertices: no other set of edges
// with the same closure is as small.
func TestFewOfAllSets(t *testing.T) {
	least := []func(closure [][]int) []api.Line{}
	for n := range 5 {
		least = append(least, leastEdges(t, n))
	}
	with, without := 0, 0
	everyGraph(func(n int, lines []api.Line) {
		if n > 4 {
			return
		}
		if isCyclic(n, lines) {
			without++
			expectFew(t, n, lines, nil, api.ErrNone)
			return
		}
		with++
		expectFew(t, n, lines, least[n](reached(n, lines)), api.OK)
	})
	if with < 2000 || without < 2000 {
		t.Errorf("%d graphs without a cycle and %d with one: too few of a kind", with, without)
	}
}

// TestFewEdgeByEdge covers R14.2 on graphs of all sizes: the result is sorted, has the
// same closure, and has it no longer without any of its edges. Of a graph without a
// cycle, only one set of edges is so.
func TestFewEdgeByEdge(t *testing.T) {
	spared := map[int]int{}
	everyGraph(func(n int, lines []api.Line) {
		if isCyclic(n, lines) {
			spared[-1]++
			expectFew(t, n, lines, nil, api.ErrNone)
			return
		}
		few, err := close.Few(n, lines)
		want := reached(n, lines)
		if err != nil || !slices.IsSortedFunc(few, byEnds) || !sameLists(reached(n, few), want) {
			t.Fatalf("Few(%d, %v) = %v, %v: not sorted, or not the same closure", n, lines, few, err)
		}
		for i, line := range few {
			rest := slices.Delete(slices.Clone(few), i, i+1)
			if sameLists(reached(n, rest), want) {
				t.Fatalf("Few(%d, %v) = %v: can do without %v", n, lines, few, line)
			}
		}
		spared[min(5, len(lines)-len(few))]++
	})
	for count := -1; count <= 5; count++ {
		if spared[count] < 100 {
			t.Errorf("%d graphs with %d edges spared: too few", spared[count], count)
		}
	}
}

// TestErrors covers the errors of graph.Check in R14.1 and R14.2, and their order; in
// R14.2 they come before ErrNone.
func TestErrors(t *testing.T) {
	for _, c := range []struct {
		n     int
		lines []api.Line
		want  api.Errno
	}{
		{0, nil, api.ErrRange},
		{-1, nil, api.ErrRange},
		{9, nil, api.ErrRange},
		{1<<32 + 1, nil, api.ErrRange},
		{math.MinInt, nil, api.ErrRange},
		{math.MaxInt, nil, api.ErrRange},
		{0, slices.Repeat(edges(0, 1), 25), api.ErrRange},
		{9, edges(1, 1), api.ErrRange},
		{9, ring(0, 1, 2), api.ErrRange},
		{2, slices.Repeat(edges(0, 1), 25), api.ErrFull},
		{2, slices.Repeat(edges(0, 1, 1, 0), 13), api.ErrFull},
		{8, forward(0, 1, 2, 3, 4, 5, 6, 7), api.ErrFull},
		{3, slices.Repeat(edges(1, 1), 25), api.ErrFull},
		{3, slices.Repeat(edges(0, 3), 25), api.ErrFull},
		{3, edges(0, 3), api.ErrRange},
		{3, edges(3, 0), api.ErrRange},
		{3, edges(0, -1), api.ErrRange},
		{3, edges(-1, 0), api.ErrRange},
		{3, edges(3, 3), api.ErrRange},
		{8, edges(0, math.MaxInt), api.ErrRange},
		{8, edges(math.MinInt, 0), api.ErrRange},
		{1, edges(0, 0), api.ErrShape},
		{2, edges(0, 1, 1, 1), api.ErrShape},
		{3, edges(0, 1, 1, 1, 0, 3), api.ErrShape},
		{3, edges(0, 1, 0, 3, 1, 1), api.ErrRange},
		{3, append(ring(0, 1, 2), edges(0, 3)...), api.ErrRange},
		{3, append(ring(0, 1, 2), edges(2, 2)...), api.ErrShape},
	} {
		if err := graph.Check(c.n, c.lines); plain.Told(err) != c.want {
			t.Errorf("Check(%d, %v) = %v, want %v", c.n, c.lines, err, c.want)
		}
		if _, err := topo.Order(c.n, c.lines); plain.Told(err) != c.want {
			t.Errorf("Order(%d, %v): %v, want %v", c.n, c.lines, err, c.want)
		}
		expectAll(t, c.n, c.lines, nil, c.want)
		expectFew(t, c.n, c.lines, nil, c.want)
	}
}

// aliasGraphs are edges between 4 vertices, some of them not valid.
func aliasGraphs() [][]api.Line {
	return [][]api.Line{
		{}, edges(3, 1), path(3, 1, 2, 0), forward(3, 1, 0, 2), across([]int{3, 1}, []int{2, 0}),
		slices.Repeat(edges(3, 2), 24), ring(3, 2, 1, 0), append(path(0, 1), ring(3, 2)...), pairsOf(4),
		edges(1, 0, 1, 1), edges(1, 0, 0, 4), slices.Repeat(edges(2, 1), 25),
	}
}

// spare returns the edges in a slice with spare capacity, and all of its memory.
func spare(lines []api.Line) (argument, memory []api.Line) {
	memory = append(slices.Clone(lines), edges(7, 7, 7, 7, 7, 7, 7, 7)...)
	return memory[:len(lines)], memory
}

// fill overwrites a slice and its spare capacity.
func fill[T any](list []T, value T) {
	list = list[:cap(list)]
	for i := range list {
		list[i] = value
	}
}

// TestNoAliasingOfAll covers Z2 for R14.1: the edges and the memory behind them stay
// as they are, with an error too, no two lists share memory, and a later result does
// not depend on what became of an earlier one.
func TestNoAliasingOfAll(t *testing.T) {
	for _, lines := range aliasGraphs() {
		argument, memory := spare(lines)
		kept := slices.Clone(memory)
		lists, firstErr := close.All(4, argument)
		want := [][]int{}
		for _, list := range lists {
			want = append(want, slices.Clone(list))
		}
		for i := range lists {
			if !slices.Equal(lists[i], want[i]) {
				t.Errorf("All(4, %v): list %d shares memory with an earlier one", lines, i)
			}
			fill(lists[i], 99)
		}
		fill(lists, []int{99})
		if !slices.Equal(memory, kept) {
			t.Errorf("All(4, %v) changes its argument, or shares its memory", lines)
		}
		expectAll(t, 4, argument, want, plain.Told(firstErr))
	}
}

// TestNoAliasingOfFew covers Z2 for R14.2 in the same way.
func TestNoAliasingOfFew(t *testing.T) {
	for _, lines := range aliasGraphs() {
		argument, memory := spare(lines)
		kept := slices.Clone(memory)
		first, firstErr := close.Few(4, argument)
		want := slices.Clone(first)
		fill(first, api.Line{A: 99, B: 99})
		if !slices.Equal(memory, kept) {
			t.Errorf("Few(4, %v) changes its argument, or shares its memory", lines)
		}
		expectFew(t, 4, argument, want, plain.Told(firstErr))
	}
}
