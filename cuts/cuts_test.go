package cuts_test

import (
	"math"
	"slices"
	"testing"

	"brambleweir/api"
	"brambleweir/cuts"
	"brambleweir/graph"
	"brambleweir/plain"
)

// edges returns the edges between the given pairs of vertices.
func edges(ends ...int) []api.Line {
	lines := []api.Line{}
	for i := 0; i+1 < len(ends); i += 2 {
		lines = append(lines, api.Line{A: ends[i], B: ends[i+1]})
	}
	return lines
}

// path returns the edges between the vertices that follow each other.
func path(vertices ...int) []api.Line {
	lines := []api.Line{}
	for i := 1; i < len(vertices); i++ {
		lines = append(lines, api.Line{A: vertices[i-1], B: vertices[i]})
	}
	return lines
}

// ring returns the edges of the cycle of the vertices.
func ring(vertices ...int) []api.Line {
	return append(path(vertices...), api.Line{A: vertices[len(vertices)-1], B: vertices[0]})
}

// everyPair returns the edges of the complete graph, ordered by A and then by B.
func everyPair(n int) []api.Line {
	lines := []api.Line{}
	for a := range n {
		for b := a + 1; b < n; b++ {
			lines = append(lines, api.Line{A: a, B: b})
		}
	}
	return lines
}

// turned returns the edges in the opposite order, with their ends swapped.
func turned(lines []api.Line) []api.Line {
	out := []api.Line{}
	for _, line := range slices.Backward(lines) {
		out = append(out, api.Line{A: line.B, B: line.A})
	}
	return out
}

// mixer returns a function of which each call gives the next number below its
// argument of a fixed sequence without visible order.
func mixer() func(below int) int {
	state := uint64(88172645463325252)
	return func(below int) int {
		state ^= state << 13
		state ^= state >> 7
		state ^= state << 17
		return int(state>>11) % below
	}
}

// smallGraphs calls a function with every graph of at most 5 vertices, and with
// its edges in the other direction and order, and doubled.
func smallGraphs(call func(n int, lines []api.Line)) {
	for n := 1; n <= 5; n++ {
		all := everyPair(n)
		for mask := range 1 << len(all) {
			lines := []api.Line{}
			for i, line := range all {
				if mask>>i&1 == 1 {
					lines = append(lines, line)
				}
			}
			call(n, lines)
			call(n, turned(lines))
			call(n, append(turned(lines), lines...))
		}
	}
}

// mixedGraphs calls a function with graphs of all sizes, whose edges are in no
// order, go both ways and may be parallel; many of them have few edges.
func mixedGraphs(call func(n int, lines []api.Line)) {
	below := mixer()
	for range 6000 {
		n := 2 + below(api.MaxPts-1)
		lines := []api.Line{}
		for range below(1 + min(api.MaxLines, n+below(api.MaxLines))) {
			a := below(n)
			lines = append(lines, api.Line{A: a, B: (a + 1 + below(n-1)) % n})
		}
		call(n, lines)
	}
}

// treeGraphs calls a function with renumbered trees of MaxPts vertices, many of
// them deep, with a few more edges.
func treeGraphs(call func(n int, lines []api.Line)) {
	below := mixer()
	for range 2000 {
		order := []int{}
		for v := range api.MaxPts {
			order = slices.Insert(order, below(v+1), v)
		}
		lines := []api.Line{}
		back := 1 + below(3)
		for i := 1; i < len(order); i++ {
			lines = append(lines, api.Line{A: order[i], B: order[max(0, i-1-below(back))]})
		}
		for range below(4) {
			a := below(api.MaxPts)
			lines = append(lines, api.Line{A: a, B: (a + 1 + below(api.MaxPts-1)) % api.MaxPts})
		}
		call(api.MaxPts, lines)
	}
}

// everyGraph calls a function with all the graphs above.
func everyGraph(call func(n int, lines []api.Line)) {
	smallGraphs(call)
	mixedGraphs(call)
	treeGraphs(call)
}

// nobody is left out where all vertices count.
const nobody = -1

// labels gives each vertex a number, the same one to those that are connected, by
// spreading the smaller number over every edge until nothing changes. The left out
// vertex spreads nothing.
func labels(n int, lines []api.Line, leftOut int) []int {
	label := make([]int, n)
	for v := range label {
		label[v] = v
	}
	for changed := true; changed; {
		changed = false
		for _, line := range lines {
			a, b := line.A, line.B
			if a == leftOut || b == leftOut || label[a] == label[b] {
				continue
			}
			least := min(label[a], label[b])
			label[a], label[b] = least, least
			changed = true
		}
	}
	return label
}

// pointsOf is the definition: the removal of the vertex separates two others.
func pointsOf(n int, lines []api.Line) []int {
	points := []int{}
	before := labels(n, lines, nobody)
	for v := range n {
		after := labels(n, lines, v)
		separates := false
		for _, pair := range everyPair(n) {
			if pair.A != v && pair.B != v && before[pair.A] == before[pair.B] && after[pair.A] != after[pair.B] {
				separates = true
			}
		}
		if separates {
			points = append(points, v)
		}
	}
	return points
}

// bridgesOf is the definition: without the one edge, parallel ones stay, its ends
// are not connected.
func bridgesOf(n int, lines []api.Line) []api.Line {
	bridges := []api.Line{}
	for _, pair := range everyPair(n) {
		for i, line := range lines {
			if line != pair && line != (api.Line{A: pair.B, B: pair.A}) {
				continue
			}
			after := labels(n, slices.Delete(slices.Clone(lines), i, i+1), nobody)
			if after[pair.A] != after[pair.B] {
				bridges = append(bridges, pair)
			}
		}
	}
	return bridges
}

// expectPoints compares Points with vertices, or with an error and none.
func expectPoints(t *testing.T, n int, lines []api.Line, want []int, wantErr api.Errno) {
	t.Helper()
	got, err := cuts.Points(n, lines)
	if plain.Told(err) != wantErr || !slices.Equal(got, want) {
		t.Errorf("Points(%d, %v) = %v, %v, want %v, %v", n, lines, got, err, want, wantErr)
	}
}

// expectBridges compares Bridges with edges, or with an error and none.
func expectBridges(t *testing.T, n int, lines []api.Line, want []api.Line, wantErr api.Errno) {
	t.Helper()
	got, err := cuts.Bridges(n, lines)
	if plain.Told(err) != wantErr || !slices.Equal(got, want) {
		t.Errorf("Bridges(%d, %v) = %v, %v, want %v, %v", n, lines, got, err, want, wantErr)
	}
}

// TestPoints covers R8.1: a vertex counts only if it separates two others, whatever
// the numbers of the vertices and the parallel edges.
func TestPoints(t *testing.T) {
	for _, c := range []struct {
		n     int
		lines []api.Line
		want  []int
	}{
		{1, nil, nil},
		{1, edges(), nil},
		{2, nil, nil},
		{2, edges(0, 1), nil},
		{2, slices.Repeat(edges(1, 0), 24), nil},
		{3, path(0, 1, 2), []int{1}},
		{3, path(1, 0, 2), []int{0}},
		{3, path(0, 2, 1), []int{2}},
		// Parallel edges do not keep the others connected.
		{3, path(0, 1, 2, 1, 0), []int{1}},
		{3, path(1, 0, 2, 0, 1), []int{0}},
		{3, ring(0, 1, 2), nil},
		{3, edges(0, 2), nil},
		{4, nil, nil},
		// The removal separates no vertices that were connected.
		{4, edges(0, 1, 2, 3), nil},
		{4, path(0, 1, 2, 3), []int{1, 2}},
		{4, path(2, 0, 3, 1), []int{0, 3}},
		{4, path(1, 2, 3), []int{2}},
		{4, ring(0, 1, 2, 3), nil},
		{4, everyPair(4), nil},
		{4, edges(0, 1, 0, 2, 0, 3), []int{0}},
		{4, edges(3, 0, 3, 1, 3, 2), []int{3}},
		{4, append(ring(0, 1, 2), edges(2, 3)...), []int{2}},
		{4, append(ring(1, 2, 3), edges(0, 1)...), []int{1}},
		{4, append(ring(0, 1, 2), edges(0, 3)...), []int{0}},
		// Two rings that share a vertex.
		{5, append(ring(0, 1, 2), ring(2, 3, 4)...), []int{2}},
		{5, append(ring(0, 1, 2), ring(0, 3, 4)...), []int{0}},
		// Two rings that share an edge.
		{4, append(ring(0, 1, 2), ring(1, 2, 3)...), nil},
		// Both ends of an edge between two rings.
		{6, append(append(ring(0, 1, 2), ring(3, 4, 5)...), edges(2, 3)...), []int{2, 3}},
		{8, nil, nil},
		{8, path(0, 7, 6, 5, 4, 3, 2, 1), []int{2, 3, 4, 5, 6, 7}},
		{8, path(3, 5, 0, 7, 2, 6, 4, 1), []int{0, 2, 4, 5, 6, 7}},
		{8, ring(0, 1, 2, 3, 4, 5, 6, 7), nil},
		{8, append(path(0, 3, 5), path(1, 7, 4, 6)...), []int{3, 4, 7}},
		{8, everyPair(8)[:24], nil},
	} {
		expectPoints(t, c.n, c.lines, c.want, api.OK)
	}
	everyGraph(func(n int, lines []api.Line) {
		expectPoints(t, n, lines, pointsOf(n, lines), api.OK)
	})
}

// TestBridges covers R8.2: each bridge has its smaller end first, and they are
// sorted by both ends; parallel edges in either direction are none.
func TestBridges(t *testing.T) {
	for _, c := range []struct {
		n     int
		lines []api.Line
		want  []api.Line
	}{
		{1, nil, nil},
		{1, edges(), nil},
		{2, nil, nil},
		{2, edges(0, 1), edges(0, 1)},
		{2, edges(1, 0), edges(0, 1)},
		{2, edges(0, 1, 0, 1), nil},
		{2, edges(0, 1, 1, 0), nil},
		{2, slices.Repeat(edges(1, 0), 24), nil},
		{3, path(0, 1, 2), edges(0, 1, 1, 2)},
		{3, path(2, 1, 0), edges(0, 1, 1, 2)},
		{3, path(1, 2, 0), edges(0, 2, 1, 2)},
		{3, path(2, 0, 1), edges(0, 1, 0, 2)},
		// The other edge stays a bridge beside a parallel pair.
		{3, edges(0, 1, 1, 2, 1, 0), edges(1, 2)},
		{3, edges(0, 1, 1, 2, 2, 1), edges(0, 1)},
		{3, ring(0, 1, 2), nil},
		{3, ring(2, 1, 0), nil},
		{4, edges(3, 2, 1, 0), edges(0, 1, 2, 3)},
		{4, path(0, 3, 1, 2), edges(0, 3, 1, 2, 1, 3)},
		{4, path(2, 3, 0, 1), edges(0, 1, 0, 3, 2, 3)},
		{4, edges(3, 2, 3, 0, 3, 1), edges(0, 3, 1, 3, 2, 3)},
		{4, edges(0, 3, 0, 1, 0, 2), edges(0, 1, 0, 2, 0, 3)},
		{4, ring(0, 1, 2, 3), nil},
		{4, append(ring(0, 1, 2), edges(3, 2)...), edges(2, 3)},
		{4, append(ring(1, 2, 3), edges(0, 3)...), edges(0, 3)},
		{4, append(ring(0, 1, 2), edges(2, 3, 2, 3)...), nil},
		// Two rings that share a vertex have no bridge, although it separates them.
		{5, append(ring(0, 1, 2), ring(2, 3, 4)...), nil},
		{6, append(append(ring(0, 1, 2), ring(3, 4, 5)...), edges(5, 0)...), edges(0, 5)},
		{8, nil, nil},
		{8, path(7, 0, 6, 1, 5, 2, 4, 3), edges(0, 6, 0, 7, 1, 5, 1, 6, 2, 4, 2, 5, 3, 4)},
		{8, ring(0, 1, 2, 3, 4, 5, 6, 7), nil},
		{8, append(path(5, 3, 0), path(1, 7, 4, 6)...), edges(0, 3, 1, 7, 3, 5, 4, 6, 4, 7)},
		{8, everyPair(8)[:24], nil},
	} {
		expectBridges(t, c.n, c.lines, c.want, api.OK)
	}
	everyGraph(func(n int, lines []api.Line) {
		expectBridges(t, n, lines, bridgesOf(n, lines), api.OK)
	})
}

// TestErrors covers the errors of graph.Check in R8.1 and R8.2, and their order.
func TestErrors(t *testing.T) {
	for _, c := range []struct {
		n     int
		lines []api.Line
		want  api.Errno
	}{
		{0, nil, api.ErrRange},
		{-1, nil, api.ErrRange},
		{9, nil, api.ErrRange},
		{1<<32 + 1, nil, api.ErrRange},
		{math.MinInt, nil, api.ErrRange},
		{math.MaxInt, nil, api.ErrRange},
		{0, slices.Repeat(edges(0, 1), 25), api.ErrRange},
		{9, edges(1, 1), api.ErrRange},
		{2, slices.Repeat(edges(0, 1), 25), api.ErrFull},
		{8, everyPair(8), api.ErrFull},
		{3, slices.Repeat(edges(1, 1), 25), api.ErrFull},
		{3, slices.Repeat(edges(0, 3), 25), api.ErrFull},
		{3, edges(0, 3), api.ErrRange},
		{3, edges(3, 0), api.ErrRange},
		{3, edges(0, -1), api.ErrRange},
		{3, edges(-1, 0), api.ErrRange},
		{3, edges(3, 3), api.ErrRange},
		{8, edges(0, math.MaxInt), api.ErrRange},
		{8, edges(math.MinInt, 0), api.ErrRange},
		{1, edges(0, 0), api.ErrShape},
		{3, edges(0, 1, 1, 2, 2, 2), api.ErrShape},
		{3, edges(0, 1, 1, 1, 0, 3), api.ErrShape},
		{3, edges(0, 1, 0, 3, 1, 1), api.ErrRange},
	} {
		if err := graph.Check(c.n, c.lines); plain.Told(err) != c.want {
			t.Errorf("Check(%d, %v) = %v, want %v", c.n, c.lines, err, c.want)
		}
		expectPoints(t, c.n, c.lines, nil, c.want)
		expectBridges(t, c.n, c.lines, nil, c.want)
	}
}

// overwritten fills a slice and its spare capacity, and returns what it held.
func overwritten[T any](list []T, filler T) []T {
	held := slices.Clone(list)
	whole := list[:cap(list)]
	for i := range whole {
		whole[i] = filler
	}
	return held
}

// TestNoAliasing covers Z2: the edges and the memory behind them stay as they are,
// the results share no memory with them, and a later result does not depend on what
// became of an earlier one.
func TestNoAliasing(t *testing.T) {
	for _, lines := range [][]api.Line{
		{}, edges(3, 1), edges(0, 1), path(0, 1, 2, 3), path(3, 1, 2, 0), append(ring(3, 1, 2), edges(0, 2)...),
		everyPair(4), slices.Repeat(edges(2, 3), 24),
	} {
		memory := append(slices.Clone(lines), edges(7, 7, 7, 7, 7, 7, 7, 7)...)
		argument := memory[:len(lines)]
		kept := slices.Clone(memory)
		points, bridges := pointsOf(4, lines), bridgesOf(4, lines)
		for range 2 {
			gotPoints, err := cuts.Points(4, argument)
			if got := overwritten(gotPoints, 99); err != nil || !slices.Equal(got, points) {
				t.Errorf("Points of %v: %v, %v, want %v", lines, got, err, points)
			}
			gotBridges, err := cuts.Bridges(4, argument)
			if got := overwritten(gotBridges, api.Line{A: 99, B: 99}); err != nil || !slices.Equal(got, bridges) {
				t.Errorf("Bridges of %v: %v, %v, want %v", lines, got, err, bridges)
			}
			if !slices.Equal(memory, kept) {
				t.Errorf("a call with %v changes its argument", lines)
			}
		}
	}
}

// TestNoAliasingOfErrors covers Z2 for invalid edges: they and the memory behind
// them stay as they are.
func TestNoAliasingOfErrors(t *testing.T) {
	for _, lines := range [][]api.Line{
		edges(1, 0, 1, 1), edges(1, 0, 0, 4), slices.Repeat(edges(2, 1), 25),
	} {
		memory := append(slices.Clone(lines), edges(7, 7, 7, 7, 7, 7, 7, 7)...)
		kept := slices.Clone(memory)
		if _, err := cuts.Points(4, memory[:len(lines)]); err == nil {
			t.Errorf("Points of %v: no error", lines)
		}
		if _, err := cuts.Bridges(4, memory[:len(lines)]); err == nil {
			t.Errorf("Bridges of %v: no error", lines)
		}
		if !slices.Equal(memory, kept) {
			t.Errorf("a call with %v changes its argument", lines)
		}
	}
}
