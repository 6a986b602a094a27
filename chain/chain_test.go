package chain_test

import (
	"math"
	"slices"
	"testing"

	"brambleweir/api"
	"brambleweir/chain"
	"brambleweir/plain"
	"brambleweir/topo"
)

// edges returns the edges between the given pairs of vertices.
func edges(ends ...int) []api.Line {
	lines := []api.Line{}
	for i := 0; i+1 < len(ends); i += 2 {
		lines = append(lines, api.Line{A: ends[i], B: ends[i+1]})
	}
	return lines
}

// path returns the edges from each vertex to the next one.
func path(vertices ...int) []api.Line {
	lines := []api.Line{}
	for i := 1; i < len(vertices); i++ {
		lines = append(lines, api.Line{A: vertices[i-1], B: vertices[i]})
	}
	return lines
}

// ring returns the edges of the directed cycle of the vertices.
func ring(vertices ...int) []api.Line {
	return append(path(vertices...), api.Line{A: vertices[len(vertices)-1], B: vertices[0]})
}

// forward returns the edges from each vertex to all later ones.
func forward(vertices ...int) []api.Line {
	lines := []api.Line{}
	for i, a := range vertices {
		for _, b := range vertices[i+1:] {
			lines = append(lines, api.Line{A: a, B: b})
		}
	}
	return lines
}

// across returns the edges from every vertex of one list to every one of another.
func across(some, others []int) []api.Line {
	lines := []api.Line{}
	for _, a := range some {
		for _, b := range others {
			lines = append(lines, api.Line{A: a, B: b})
		}
	}
	return lines
}

// backward returns the edges in the opposite order, with their directions as they are.
func backward(lines []api.Line) []api.Line {
	out := slices.Clone(lines)
	slices.Reverse(out)
	return out
}

// reversed returns the edges with their directions reversed.
func reversed(lines []api.Line) []api.Line {
	out := []api.Line{}
	for _, line := range lines {
		out = append(out, api.Line{A: line.B, B: line.A})
	}
	return out
}

// pairsOf returns the edges between any two of n vertices, in both directions.
func pairsOf(n int) []api.Line {
	return append(forward(upTo(n)...), reversed(forward(upTo(n)...))...)
}

// upTo returns the vertices 0 to n-1.
func upTo(n int) []int {
	vertices := []int{}
	for v := range n {
		vertices = append(vertices, v)
	}
	return vertices
}

// mixer returns a function of which each call gives the next number below its
// argument of a fixed sequence without visible order.
func mixer() func(below int) int {
	state := uint64(88172645463325252)
	return func(below int) int {
		state ^= state << 13
		state ^= state >> 7
		state ^= state << 17
		return int(state>>11) % below
	}
}

// shuffled returns the vertices 0 to n-1 in no order.
func shuffled(below func(int) int, n int) []int {
	vertices := []int{}
	for v := range n {
		vertices = slices.Insert(vertices, below(v+1), v)
	}
	return vertices
}

// chosen returns the edges whose binary digits in a mask are 1.
func chosen(lines []api.Line, mask int) []api.Line {
	out := []api.Line{}
	for i, line := range lines {
		if mask>>i&1 == 1 {
			out = append(out, line)
		}
	}
	return out
}

// smallGraphs calls a function with every directed graph of at most 4 vertices, and
// with its edges in the other order, and doubled.
func smallGraphs(call func(n int, lines []api.Line)) {
	for n := 1; n <= 4; n++ {
		all := pairsOf(n)
		for mask := range 1 << len(all) {
			lines := chosen(all, mask)
			call(n, lines)
			call(n, backward(lines))
			call(n, append(backward(lines), lines...))
		}
	}
}

// forwardGraphs calls a function with every graph of 5 vertices whose edges go from
// smaller to larger ones, and with the same edges in the other direction.
func forwardGraphs(call func(n int, lines []api.Line)) {
	all := forward(upTo(5)...)
	for mask := range 1 << len(all) {
		lines := chosen(all, mask)
		call(5, lines)
		call(5, reversed(lines))
	}
}

// mixedGraphs calls a function with graphs of all sizes, whose edges are in no order
// and may be parallel; most have few of them.
func mixedGraphs(call func(n int, lines []api.Line)) {
	below := mixer()
	for range 4000 {
		n := 2 + below(api.MaxPts-1)
		all := pairsOf(n)
		lines := []api.Line{}
		for range below(1 + min(api.MaxLines, n+below(api.MaxLines))) {
			lines = append(lines, all[below(len(all))])
		}
		call(n, lines)
	}
}

// acyclicGraphs calls a function with graphs of all sizes whose edges go forward in a
// list of the vertices in no order; they may be parallel, and half the graphs have
// fewer edges than vertices.
func acyclicGraphs(call func(n int, lines []api.Line)) {
	below := mixer()
	for range 8000 {
		n := 2 + below(api.MaxPts-1)
		all := forward(shuffled(below, n)...)
		count := below(n)
		if below(2) == 0 {
			count = below(api.MaxLines + 1)
		}
		lines := []api.Line{}
		for range count {
			lines = append(lines, all[below(len(all))])
		}
		call(n, lines)
	}
}

// everyGraph calls a function with all the graphs above.
func everyGraph(call func(n int, lines []api.Line)) {
	smallGraphs(call)
	forwardGraphs(call)
	mixedGraphs(call)
	acyclicGraphs(call)
}

// order is the definition of before: it has, for every vertex, the vertices to which
// edges can be followed from it.
func order(n int, lines []api.Line) [][]int {
	after := [][]int{}
	for from := range n {
		met := []int{}
		var follow func(v int)
		follow = func(v int) {
			for _, line := range lines {
				if line.A == v && !slices.Contains(met, line.B) {
					met = append(met, line.B)
					follow(line.B)
				}
			}
		}
		follow(from)
		after = append(after, met)
	}
	return after
}

// isCyclic tells whether a vertex comes after itself.
func isCyclic(after [][]int) bool {
	for v, met := range after {
		if slices.Contains(met, v) {
			return true
		}
	}
	return false
}

// members returns the vertices whose binary digits in a mask are 1.
func members(n, mask int) []int {
	vertices := []int{}
	for v := range n {
		if mask>>v&1 == 1 {
			vertices = append(vertices, v)
		}
	}
	return vertices
}

// kind tells whether each two vertices of a set are comparable, and whether none are.
func kind(after [][]int, vertices []int) (isChain, isAntichain bool) {
	isChain, isAntichain = true, true
	for i, a := range vertices {
		for _, b := range vertices[i+1:] {
			if slices.Contains(after[a], b) || slices.Contains(after[b], a) {
				isAntichain = false
			} else {
				isChain = false
			}
		}
	}
	return isChain, isAntichain
}

// sizes is the definition of the three numbers: it tries all sets of vertices, and
// contains each set in chains, of which one has its smallest vertex.
func sizes(after [][]int) (longest, rows, widest int) {
	n := len(after)
	chains := []int{}
	fewest := make([]int, 1<<n)
	for mask := 1; mask < 1<<n; mask++ {
		isChain, isAntichain := kind(after, members(n, mask))
		if isChain {
			chains = append(chains, mask)
			longest = max(longest, len(members(n, mask)))
		}
		if isAntichain {
			widest = max(widest, len(members(n, mask)))
		}
		fewest[mask] = n
		least := mask & -mask
		for _, c := range chains {
			if c&least != 0 {
				fewest[mask] = min(fewest[mask], fewest[mask&^c]+1)
			}
		}
	}
	return longest, fewest[1<<n-1], widest
}

// measure is one of the functions of the package.
type measure func(n int, lines []api.Line) (int, error)

// expect compares a function's result with a number, or with an error and 0.
func expect(t *testing.T, name string, f measure, n int, lines []api.Line, want int, wantErr api.Errno) {
	t.Helper()
	got, err := f(n, lines)
	if plain.Told(err) != wantErr || got != want {
		t.Errorf("%s(%d, %v) = %v, %v, want %v, %v", name, n, lines, got, err, want, wantErr)
	}
}

// expectSizes compares the results of all functions with the size of a largest chain and
// that of a largest antichain, which is also the number of chains.
func expectSizes(t *testing.T, n int, lines []api.Line, long, wide int) {
	t.Helper()
	expect(t, "Longest", chain.Longest, n, lines, long, api.OK)
	expect(t, "Rows", chain.Rows, n, lines, wide, api.OK)
	expect(t, "Widest", chain.Widest, n, lines, wide, api.OK)
}

// expectError compares the errors of all functions.
func expectError(t *testing.T, n int, lines []api.Line, want api.Errno) {
	t.Helper()
	expect(t, "Longest", chain.Longest, n, lines, 0, want)
	expect(t, "Rows", chain.Rows, n, lines, 0, want)
	expect(t, "Widest", chain.Widest, n, lines, 0, want)
}

// TestSizes covers R15.1, R15.2 and R15.3: vertices without edges, parallel edges,
// spare edges, chains that skip vertices of a path, and the largest sides.
func TestSizes(t *testing.T) {
	for _, c := range []struct {
		n          int
		lines      []api.Line
		long, wide int
	}{
		{1, nil, 1, 1},
		{1, edges(), 1, 1},
		{2, nil, 1, 2},
		{6, nil, 1, 6},
		{2, edges(0, 1), 2, 1},
		{2, edges(1, 0), 2, 1},
		{2, slices.Repeat(edges(1, 0), 24), 2, 1},
		{6, slices.Repeat(edges(4, 1), 24), 2, 5},
		// The example of the document.
		{3, edges(0, 1), 2, 2},
		{3, edges(2, 0), 2, 2},
		{3, path(0, 1, 2), 3, 1},
		{3, path(1, 2, 0), 3, 1},
		{3, forward(2, 1, 0), 3, 1},
		{3, edges(0, 1, 0, 2), 2, 2},
		{3, edges(1, 0, 2, 0), 2, 2},
		{4, edges(0, 1, 2, 3), 2, 2},
		{4, edges(0, 2, 1, 2, 1, 3), 2, 2},
		{4, edges(0, 1, 0, 2, 0, 3), 2, 3},
		{4, edges(0, 1, 0, 2, 1, 3, 2, 3), 3, 2},
		{4, edges(0, 3, 0, 1, 0, 2, 1, 3, 2, 3), 3, 2},
		{4, append(edges(0, 3), path(0, 2, 1, 3)...), 4, 1},
		// One chain goes through the vertex in the middle, and the other one past it.
		{5, edges(0, 2, 1, 2, 2, 3, 2, 4), 3, 2},
		{5, edges(3, 0, 4, 0, 0, 1, 0, 2), 3, 2},
		{6, edges(0, 2, 1, 2, 2, 3, 3, 4, 3, 5), 4, 2},
		{6, edges(5, 3, 4, 3, 3, 2, 2, 1, 2, 0, 5, 0), 4, 2},
		// A longest chain is not one of the fewest chains.
		{6, append(path(0, 1, 2, 3), edges(4, 2, 1, 5)...), 4, 2},
		// Chains of different lengths next to each other.
		{6, append(path(5, 3, 1), path(4, 2)...), 3, 3},
		{6, append(path(0, 1, 2), path(3, 4, 5)...), 3, 2},
		// Three levels, of which the one in the middle is the widest.
		{5, append(across([]int{4}, []int{1, 2, 3}), across([]int{1, 2, 3}, []int{0})...), 3, 3},
		{6, across([]int{5, 4, 3}, []int{0, 1, 2}), 2, 3},
		{6, across([]int{0, 1}, []int{2, 3, 4, 5}), 2, 4},
		{6, across([]int{5, 4, 3, 2, 1}, []int{0}), 2, 5},
		// The largest antichain has vertices at different distances from the first ones.
		{5, edges(0, 1, 1, 2, 1, 3), 3, 3},
		{6, edges(3, 2, 2, 0, 2, 1, 5, 4), 3, 3},
		{6, path(3, 5, 0, 2, 4, 1), 6, 1},
		{6, forward(5, 4, 3, 2, 1, 0), 6, 1},
		{6, append(forward(0, 1, 2, 3, 4, 5), path(0, 1, 2, 3, 4, 5)...), 6, 1},
	} {
		for _, lines := range [][]api.Line{c.lines, backward(c.lines), reversed(c.lines)} {
			expectSizes(t, c.n, lines, c.long, c.wide)
		}
	}
}

// TestManyVertices covers the ErrFull of R15.2 and R15.3, and that R15.1 has none.
func TestManyVertices(t *testing.T) {
	for _, c := range []struct {
		n     int
		lines []api.Line
		long  int
	}{
		{7, nil, 1},
		{8, nil, 1},
		{7, edges(0, 1), 2},
		{8, edges(7, 6), 2},
		{7, slices.Repeat(edges(6, 0), 24), 2},
		{7, path(6, 5, 4, 3, 2, 1, 0), 7},
		{8, path(3, 5, 0, 7, 2, 6, 4, 1), 8},
		{8, path(3, 5, 0, 7, 2, 6, 4), 7},
		{8, append(path(0, 1, 2, 3), path(7, 6, 5, 4)...), 4},
		{7, forward(0, 1, 2, 3, 4, 5, 6), 7},
		{8, across([]int{7, 6, 5, 4}, []int{0, 1, 2, 3}), 2},
	} {
		expect(t, "Longest", chain.Longest, c.n, c.lines, c.long, api.OK)
		expect(t, "Rows", chain.Rows, c.n, c.lines, 0, api.ErrFull)
		expect(t, "Widest", chain.Widest, c.n, c.lines, 0, api.ErrFull)
	}
}

// TestSizesOfAllSets covers R15.1, R15.2 and R15.3 with their definitions, among
// graphs with every number as a result.
func TestSizesOfAllSets(t *testing.T) {
	long, wide, cyclic, full := map[int]int{}, map[int]int{}, 0, 0
	everyGraph(func(n int, lines []api.Line) {
		after := order(n, lines)
		if isCyclic(after) {
			cyclic++
			expectError(t, n, lines, api.ErrNone)
			return
		}
		longest, rows, widest := sizes(after)
		long[longest]++
		expect(t, "Longest", chain.Longest, n, lines, longest, api.OK)
		if n > api.MaxSide {
			full++
			expect(t, "Rows", chain.Rows, n, lines, 0, api.ErrFull)
			expect(t, "Widest", chain.Widest, n, lines, 0, api.ErrFull)
			return
		}
		wide[widest]++
		expect(t, "Rows", chain.Rows, n, lines, rows, api.OK)
		expect(t, "Widest", chain.Widest, n, lines, widest, api.OK)
	})
	if cyclic < 2000 || full < 1000 {
		t.Errorf("%d graphs with a cycle, and %d with many vertices: too few of a kind", cyclic, full)
	}
	for size := 1; size <= api.MaxSide; size++ {
		if long[size] < 50 || wide[size] < 50 {
			t.Errorf("%d graphs with longest chains of %d, and %d with widest antichains: too few",
				long[size], size, wide[size])
		}
	}
}

// TestErrors covers the errors of topo.Order in R15.1, R15.2 and R15.3, and their
// order; a cycle comes before the ErrFull of too many vertices.
func TestErrors(t *testing.T) {
	for _, c := range []struct {
		n     int
		lines []api.Line
		want  api.Errno
	}{
		{0, nil, api.ErrRange},
		{-1, nil, api.ErrRange},
		{9, nil, api.ErrRange},
		{1<<32 + 1, nil, api.ErrRange},
		{math.MinInt, nil, api.ErrRange},
		{math.MaxInt, nil, api.ErrRange},
		{0, slices.Repeat(edges(0, 1), 25), api.ErrRange},
		{9, edges(1, 1), api.ErrRange},
		{9, ring(0, 1, 2), api.ErrRange},
		{2, slices.Repeat(edges(0, 1), 25), api.ErrFull},
		{2, slices.Repeat(edges(0, 1, 1, 0), 13), api.ErrFull},
		{3, slices.Repeat(edges(1, 1), 25), api.ErrFull},
		{3, slices.Repeat(edges(0, 3), 25), api.ErrFull},
		{8, forward(0, 1, 2, 3, 4, 5, 6, 7), api.ErrFull},
		{3, edges(0, 3), api.ErrRange},
		{3, edges(3, 0), api.ErrRange},
		{3, edges(0, -1), api.ErrRange},
		{3, edges(-1, 0), api.ErrRange},
		{3, edges(3, 3), api.ErrRange},
		{6, edges(0, math.MaxInt), api.ErrRange},
		{6, edges(math.MinInt, 0), api.ErrRange},
		{7, edges(0, 7), api.ErrRange},
		{8, edges(-1, 0), api.ErrRange},
		{1, edges(0, 0), api.ErrShape},
		{2, edges(0, 1, 1, 1), api.ErrShape},
		{3, edges(0, 1, 1, 1, 0, 3), api.ErrShape},
		{3, edges(0, 1, 0, 3, 1, 1), api.ErrRange},
		{7, edges(0, 1, 6, 6), api.ErrShape},
		{3, append(ring(0, 1, 2), edges(0, 3)...), api.ErrRange},
		{3, append(ring(0, 1, 2), edges(2, 2)...), api.ErrShape},
		{2, edges(0, 1, 1, 0), api.ErrNone},
		{2, append(slices.Repeat(edges(0, 1), 23), edges(1, 0)...), api.ErrNone},
		{3, ring(2, 0, 1), api.ErrNone},
		{5, append(path(4, 3, 2), edges(0, 1, 1, 0)...), api.ErrNone},
		{6, append(ring(1, 2, 3), edges(0, 1, 3, 4)...), api.ErrNone},
		{6, ring(0, 1, 2, 3, 4, 5), api.ErrNone},
		{7, edges(5, 6, 6, 5), api.ErrNone},
		{7, ring(6, 5, 4, 3, 2, 1, 0), api.ErrNone},
		{8, edges(0, 1, 1, 0), api.ErrNone},
		{8, append(forward(0, 1, 2, 3, 4, 5, 6, 7)[:23], edges(7, 0)...), api.ErrNone},
	} {
		if _, err := topo.Order(c.n, c.lines); plain.Told(err) != c.want {
			t.Errorf("Order(%d, %v): %v, want %v", c.n, c.lines, err, c.want)
		}
		expectError(t, c.n, c.lines, c.want)
	}
}

// TestNoAliasing covers Z2: the edges and the memory behind them stay as they are,
// with an error too, and a second call has the same result.
func TestNoAliasing(t *testing.T) {
	calls := map[string]measure{"Longest": chain.Longest, "Rows": chain.Rows, "Widest": chain.Widest}
	for _, lines := range [][]api.Line{
		{}, edges(3, 1), path(3, 1, 2, 0), forward(3, 1, 0, 2), across([]int{3, 1}, []int{2, 0}),
		slices.Repeat(edges(3, 2), 24), ring(3, 2, 1, 0), append(path(0, 1), ring(3, 2)...), pairsOf(4),
		edges(1, 0, 1, 1), edges(1, 0, 0, 9), slices.Repeat(edges(2, 1), 25),
	} {
		for name, call := range calls {
			for _, n := range []int{4, 7} {
				memory := append(slices.Clone(lines), edges(7, 7, 7, 7, 7, 7, 7, 7)...)
				argument := memory[:len(lines)]
				kept := slices.Clone(memory)
				want, firstErr := call(n, argument)
				if !slices.Equal(memory, kept) {
					t.Errorf("%s(%d, %v) changes its argument", name, n, lines)
				}
				expect(t, name, call, n, argument, want, plain.Told(firstErr))
			}
		}
	}
}
