package strong_test

import (
	"math"
	"slices"
	"testing"

	"brambleweir/api"
	"brambleweir/graph"
	"brambleweir/plain"
	"brambleweir/strong"
)

// edges returns the edges between the given pairs of vertices.
func edges(ends ...int) []api.Line {
	lines := []api.Line{}
	for i := 0; i+1 < len(ends); i += 2 {
		lines = append(lines, api.Line{A: ends[i], B: ends[i+1]})
	}
	return lines
}

// path returns the edges from each vertex to the next one.
func path(vertices ...int) []api.Line {
	lines := []api.Line{}
	for i := 1; i < len(vertices); i++ {
		lines = append(lines, api.Line{A: vertices[i-1], B: vertices[i]})
	}
	return lines
}

// ring returns the edges of the directed cycle of the vertices; none for one vertex.
func ring(vertices ...int) []api.Line {
	if len(vertices) < 2 {
		return nil
	}
	return append(path(vertices...), api.Line{A: vertices[len(vertices)-1], B: vertices[0]})
}

// forward returns the edges from each vertex to all later ones.
func forward(vertices ...int) []api.Line {
	lines := []api.Line{}
	for i, a := range vertices {
		for _, b := range vertices[i+1:] {
			lines = append(lines, api.Line{A: a, B: b})
		}
	}
	return lines
}

// backward returns the edges in the opposite order, with their directions as they are.
func backward(lines []api.Line) []api.Line {
	out := slices.Clone(lines)
	slices.Reverse(out)
	return out
}

// pairsOf returns the edges between any two of n vertices, in both directions, sorted.
func pairsOf(n int) []api.Line {
	lines := []api.Line{}
	for a := range n {
		for b := range n {
			if a != b {
				lines = append(lines, api.Line{A: a, B: b})
			}
		}
	}
	return lines
}

// chosen returns the edges whose binary digits in mask are 1.
func chosen(lines []api.Line, mask int) []api.Line {
	out := []api.Line{}
	for i, line := range lines {
		if mask>>i&1 == 1 {
			out = append(out, line)
		}
	}
	return out
}

// mixer returns a function of which each call gives the next number below its
// argument of a fixed sequence without visible order.
func mixer() func(below int) int {
	state := uint64(88172645463325252)
	return func(below int) int {
		state ^= state << 13
		state ^= state >> 7
		state ^= state << 17
		return int(state>>11) % below
	}
}

// shuffled returns the vertices 0 to n-1 in no order.
func shuffled(below func(int) int, n int) []int {
	vertices := []int{}
	for v := range n {
		vertices = slices.Insert(vertices, below(v+1), v)
	}
	return vertices
}

// smallGraphs calls a function with every directed graph of at most 4 vertices, and
// with its edges in the other order, and doubled.
func smallGraphs(call func(n int, lines []api.Line)) {
	for n := 1; n <= 4; n++ {
		all := pairsOf(n)
		for mask := range 1 << len(all) {
			lines := chosen(all, mask)
			call(n, lines)
			call(n, backward(lines))
			call(n, append(backward(lines), lines...))
		}
	}
}

// mixedGraphs calls a function with graphs of all sizes, whose edges are in no order
// and may be parallel; many of them have few edges.
func mixedGraphs(call func(n int, lines []api.Line)) {
	below := mixer()
	for range 4000 {
		n := 2 + below(api.MaxPts-1)
		all := pairsOf(n)
		lines := []api.Line{}
		for range below(1 + min(api.MaxLines, n+below(api.MaxLines))) {
			lines = append(lines, all[below(len(all))])
		}
		call(n, lines)
	}
}

// ringGraphs calls a function with graphs of all sizes that consist of rings in a list
// of the vertices in no order, and of edges that go forward in that list, so that they
// close no further cycle unless they are in a ring. They may be parallel.
func ringGraphs(call func(n int, lines []api.Line)) {
	below := mixer()
	for range 6000 {
		n := 2 + below(api.MaxPts-1)
		vertices := shuffled(below, n)
		all := forward(vertices...)
		lines := []api.Line{}
		for size, rest := 0, vertices; len(rest) > 0; rest = rest[size:] {
			size = 1 + below(1+below(len(rest)))
			lines = append(lines, ring(rest[:size]...)...)
		}
		for range below(api.MaxLines - len(lines) + 1) {
			lines = slices.Insert(lines, below(len(lines)+1), all[below(len(all))])
		}
		call(n, lines)
	}
}

// everyGraph calls a function with all the graphs above.
func everyGraph(call func(n int, lines []api.Line)) {
	smallGraphs(call)
	mixedGraphs(call)
	ringGraphs(call)
}

// reached returns the vertex and all others to which a path leads from it.
func reached(lines []api.Line, from int) []int {
	met := []int{from}
	for i := 0; i < len(met); i++ {
		for _, line := range lines {
			if line.A == met[i] && !slices.Contains(met, line.B) {
				met = append(met, line.B)
			}
		}
	}
	return met
}

// partsOf is the definition of Parts: paths lead both ways between each vertex and the
// smallest one of its component.
func partsOf(n int, lines []api.Line) []int {
	parts := slices.Repeat([]int{n}, n)
	for v := range n {
		for _, w := range reached(lines, v) {
			if slices.Contains(reached(lines, w), v) {
				parts[v] = min(parts[v], w)
			}
		}
	}
	return parts
}

// foldOf is the definition of Fold: the number of a component is how many others have
// smaller smallest vertices, and each ordered pair of components is tried in turn.
func foldOf(n int, lines []api.Line) ([]int, []api.Line) {
	parts := partsOf(n, lines)
	leasts := slices.Compact(slices.Sorted(slices.Values(parts)))
	numbers := []int{}
	for _, least := range parts {
		numbers = append(numbers, slices.Index(leasts, least))
	}
	folded := []api.Line{}
	for _, pair := range pairsOf(len(leasts)) {
		isBetween := func(line api.Line) bool {
			return numbers[line.A] == pair.A && numbers[line.B] == pair.B
		}
		if slices.ContainsFunc(lines, isBetween) {
			folded = append(folded, pair)
		}
	}
	return numbers, folded
}

// expectParts compares Parts with smallest vertices, or with an error and none.
func expectParts(t *testing.T, n int, lines []api.Line, want []int, wantErr api.Errno) {
	t.Helper()
	got, err := strong.Parts(n, lines)
	if plain.Told(err) != wantErr || !slices.Equal(got, want) {
		t.Errorf("Parts(%d, %v) = %v, %v, want %v, %v", n, lines, got, err, want, wantErr)
	}
}

// expectFold compares Fold with numbers and edges, or with an error and none.
func expectFold(t *testing.T, n int, lines []api.Line, numbers []int, folded []api.Line, wantErr api.Errno) {
	t.Helper()
	gotNumbers, gotFolded, err := strong.Fold(n, lines)
	if plain.Told(err) != wantErr || !slices.Equal(gotNumbers, numbers) || !slices.Equal(gotFolded, folded) {
		t.Errorf("Fold(%d, %v) = %v, %v, %v, want %v, %v, %v",
			n, lines, gotNumbers, gotFolded, err, numbers, folded, wantErr)
	}
}

// folding is a graph with the results of Parts and Fold.
type folding struct {
	n              int
	lines          []api.Line
	parts, numbers []int
	folded         []api.Line
}

// foldings are vertices without edges, parallel edges, paths, single cycles, and
// cycles with others before, after, between and beside them.
func foldings() []folding {
	each := []int{0, 1, 2, 3, 4, 5, 6, 7}
	return []folding{
		{1, nil, []int{0}, []int{0}, nil},
		{1, edges(), []int{0}, []int{0}, nil},
		{8, nil, each, each, nil},
		// The example of the document.
		{3, edges(0, 1, 1, 0, 1, 2), []int{0, 0, 2}, []int{0, 0, 1}, edges(0, 1)},
		{2, edges(0, 1), []int{0, 1}, []int{0, 1}, edges(0, 1)},
		{2, edges(1, 0), []int{0, 1}, []int{0, 1}, edges(1, 0)},
		{2, slices.Repeat(edges(1, 0), 24), []int{0, 1}, []int{0, 1}, edges(1, 0)},
		{2, edges(1, 0, 0, 1), []int{0, 0}, []int{0, 0}, nil},
		{2, slices.Repeat(edges(0, 1, 1, 0), 12), []int{0, 0}, []int{0, 0}, nil},
		{8, path(each...), each, each, path(each...)},
		{8, path(7, 6, 5, 4, 3, 2, 1, 0), each, each, backward(path(7, 6, 5, 4, 3, 2, 1, 0))},
		{8, forward(each...)[4:], each, each, forward(each...)[4:]},
		// A vertex reaches both others, but neither reaches it.
		{3, edges(2, 1, 2, 0), []int{0, 1, 2}, []int{0, 1, 2}, edges(2, 0, 2, 1)},
		{3, edges(1, 2, 0, 2), []int{0, 1, 2}, []int{0, 1, 2}, edges(0, 2, 1, 2)},
		{3, ring(0, 1, 2), []int{0, 0, 0}, []int{0, 0, 0}, nil},
		{3, ring(2, 1, 0), []int{0, 0, 0}, []int{0, 0, 0}, nil},
		{8, ring(7, 2, 5, 0, 3, 6, 1, 4), make([]int, 8), make([]int, 8), nil},
		// Two cycles with a common vertex are one component.
		{5, append(ring(0, 3, 4), ring(4, 2, 1)...), make([]int, 5), make([]int, 5), nil},
		// Vertices of a component that are not next to each other in number.
		{3, ring(0, 2), []int{0, 1, 0}, []int{0, 1, 0}, nil},
		{3, append(ring(2, 1), edges(2, 0)...), []int{0, 1, 1}, []int{0, 1, 1}, edges(1, 0)},
		{3, append(ring(2, 0), edges(0, 1, 2, 1)...), []int{0, 1, 0}, []int{0, 1, 0}, edges(0, 1)},
		{6, append(ring(5, 1), ring(4, 2)...), []int{0, 1, 2, 3, 2, 1}, []int{0, 1, 2, 3, 2, 1}, nil},
		{6, append(ring(5, 0), ring(4, 1, 3)...), []int{0, 1, 2, 1, 1, 0}, []int{0, 1, 2, 1, 1, 0}, nil},
		// Numbers differ from smallest vertices where a component has several vertices.
		{4, append(ring(0, 1), ring(2, 3)...), []int{0, 0, 2, 2}, []int{0, 0, 1, 1}, nil},
		{4, append(ring(3, 2), append(ring(1, 0), edges(3, 0, 2, 1, 3, 1)...)...),
			[]int{0, 0, 2, 2}, []int{0, 0, 1, 1}, edges(1, 0)},
		{8, append(ring(0, 1, 2), append(ring(3, 4, 5), ring(6, 7)...)...),
			[]int{0, 0, 0, 3, 3, 3, 6, 6}, []int{0, 0, 0, 1, 1, 1, 2, 2}, nil},
		{8, append(edges(7, 0, 6, 1, 6, 5, 4, 2), append(ring(2, 1, 0), append(ring(5, 4, 3), ring(7, 6)...)...)...),
			[]int{0, 0, 0, 3, 3, 3, 6, 6}, []int{0, 0, 0, 1, 1, 1, 2, 2}, edges(1, 0, 2, 0, 2, 1)},
		// A component without an edge to another, among vertices that have some.
		{5, append(ring(1, 3), edges(4, 2, 4, 0, 2, 0)...), []int{0, 1, 2, 1, 4}, []int{0, 1, 2, 1, 3}, edges(2, 0, 3, 0, 3, 2)},
		// The edge from the first to the last component stays beside the path.
		{4, append(ring(0, 1), edges(1, 2, 2, 3, 0, 3)...), []int{0, 0, 2, 3}, []int{0, 0, 1, 2}, edges(0, 1, 0, 2, 1, 2)},
		// The last edge closes a cycle through some of the vertices only.
		{8, append(path(each...), edges(6, 2)...), []int{0, 1, 2, 2, 2, 2, 2, 7}, []int{0, 1, 2, 2, 2, 2, 2, 3}, path(0, 1, 2, 3)},
	}
}

// TestParts covers R16.1.
func TestParts(t *testing.T) {
	for _, c := range foldings() {
		expectParts(t, c.n, c.lines, c.parts, api.OK)
		expectParts(t, c.n, backward(c.lines), c.parts, api.OK)
	}
}

// TestFold covers R16.2.
func TestFold(t *testing.T) {
	for _, c := range foldings() {
		expectFold(t, c.n, c.lines, c.numbers, c.folded, api.OK)
		expectFold(t, c.n, backward(c.lines), c.numbers, c.folded, api.OK)
	}
}

// TestPartsOfAllPaths covers R16.1 with its definition.
func TestPartsOfAllPaths(t *testing.T) {
	everyGraph(func(n int, lines []api.Line) {
		expectParts(t, n, lines, partsOf(n, lines), api.OK)
	})
}

// TestFoldOfAllPairs covers R16.2 with its definition, for many graphs of MaxPts
// vertices with each number of components, and of each number of edges between them up
// to 10.
func TestFoldOfAllPairs(t *testing.T) {
	components, between := map[int]int{}, map[int]int{}
	everyGraph(func(n int, lines []api.Line) {
		numbers, folded := foldOf(n, lines)
		expectFold(t, n, lines, numbers, folded, api.OK)
		if n == api.MaxPts {
			components[1+slices.Max(numbers)]++
			between[len(folded)]++
		}
	})
	for count := 1; count <= api.MaxPts; count++ {
		if components[count] < 20 {
			t.Errorf("%d graphs with %d components: too few", components[count], count)
		}
	}
	for count := range 11 {
		if between[count] < 20 {
			t.Errorf("%d graphs with %d edges between components: too few", between[count], count)
		}
	}
}

// TestErrors covers the errors of graph.Check in R16.1 and R16.2, and their order.
func TestErrors(t *testing.T) {
	for _, c := range []struct {
		n     int
		lines []api.Line
		want  api.Errno
	}{
		{0, nil, api.ErrRange},
		{-1, nil, api.ErrRange},
		{9, nil, api.ErrRange},
		{1<<32 + 1, nil, api.ErrRange},
		{math.MinInt, nil, api.ErrRange},
		{math.MaxInt, nil, api.ErrRange},
		{0, slices.Repeat(edges(0, 1), 25), api.ErrRange},
		{9, edges(1, 1), api.ErrRange},
		{9, ring(0, 1, 2), api.ErrRange},
		{2, slices.Repeat(edges(0, 1), 25), api.ErrFull},
		{2, slices.Repeat(edges(0, 1, 1, 0), 13), api.ErrFull},
		{8, forward(0, 1, 2, 3, 4, 5, 6, 7), api.ErrFull},
		{3, slices.Repeat(edges(1, 1), 25), api.ErrFull},
		{3, slices.Repeat(edges(0, 3), 25), api.ErrFull},
		{3, edges(0, 3), api.ErrRange},
		{3, edges(3, 0), api.ErrRange},
		{3, edges(0, -1), api.ErrRange},
		{3, edges(-1, 0), api.ErrRange},
		{3, edges(3, 3), api.ErrRange},
		{8, edges(0, math.MaxInt), api.ErrRange},
		{8, edges(math.MinInt, 0), api.ErrRange},
		{1, edges(0, 0), api.ErrShape},
		{2, edges(0, 1, 1, 1), api.ErrShape},
		{3, edges(0, 1, 1, 1, 0, 3), api.ErrShape},
		{3, edges(0, 1, 0, 3, 1, 1), api.ErrRange},
		{3, append(ring(0, 1, 2), edges(0, 3)...), api.ErrRange},
		{3, append(ring(0, 1, 2), edges(2, 2)...), api.ErrShape},
	} {
		if err := graph.Check(c.n, c.lines); plain.Told(err) != c.want {
			t.Errorf("Check(%d, %v) = %v, want %v", c.n, c.lines, err, c.want)
		}
		expectParts(t, c.n, c.lines, nil, c.want)
		expectFold(t, c.n, c.lines, nil, nil, c.want)
	}
}

// aliasGraphs are edges between 4 vertices, some of them not valid.
func aliasGraphs() [][]api.Line {
	return [][]api.Line{
		{}, edges(3, 1), path(3, 1, 2, 0), forward(3, 1, 0, 2), slices.Repeat(edges(3, 2), 24),
		ring(3, 2, 1, 0), append(ring(3, 2), edges(3, 0, 2, 1, 2, 0)...), append(path(0, 1), ring(3, 2)...),
		pairsOf(4), edges(1, 0, 1, 1), edges(1, 0, 0, 4), slices.Repeat(edges(2, 1), 25),
	}
}

// spare returns the edges in a slice with spare capacity, and all of its memory.
func spare(lines []api.Line) (argument, memory []api.Line) {
	memory = append(slices.Clone(lines), edges(7, 7, 7, 7, 7, 7, 7, 7)...)
	return memory[:len(lines)], memory
}

// fill overwrites a slice and its spare capacity.
func fill[T any](list []T, value T) {
	list = list[:cap(list)]
	for i := range list {
		list[i] = value
	}
}

// TestNoAliasingOfParts covers Z2 for R16.1: the edges and the memory behind them stay
// as they are, with an error too, and a later result does not depend on what became of
// an earlier one.
func TestNoAliasingOfParts(t *testing.T) {
	for _, lines := range aliasGraphs() {
		argument, memory := spare(lines)
		kept := slices.Clone(memory)
		first, firstErr := strong.Parts(4, argument)
		want := slices.Clone(first)
		fill(first, 99)
		if !slices.Equal(memory, kept) {
			t.Errorf("Parts(4, %v) changes its argument", lines)
		}
		expectParts(t, 4, argument, want, plain.Told(firstErr))
	}
}

// TestNoAliasingOfFold covers Z2 for R16.2 in the same way; the edges of the result
// have their own memory.
func TestNoAliasingOfFold(t *testing.T) {
	for _, lines := range aliasGraphs() {
		argument, memory := spare(lines)
		kept := slices.Clone(memory)
		numbers, folded, firstErr := strong.Fold(4, argument)
		wantNumbers, wantFolded := slices.Clone(numbers), slices.Clone(folded)
		fill(numbers, 99)
		fill(folded, api.Line{A: 99, B: 99})
		if !slices.Equal(memory, kept) {
			t.Errorf("Fold(4, %v) changes its argument, or shares its memory", lines)
		}
		expectFold(t, 4, argument, wantNumbers, wantFolded, plain.Told(firstErr))
	}
}
