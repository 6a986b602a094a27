package deep_test

import (
	"math"
	"slices"
	"testing"

	"brambleweir/api"
	"brambleweir/deep"
	"brambleweir/graph"
	"brambleweir/plain"
)

// edges returns the edges between the given pairs of vertices.
func edges(ends ...int) []api.Line {
	lines := []api.Line{}
	for i := 0; i+1 < len(ends); i += 2 {
		lines = append(lines, api.Line{A: ends[i], B: ends[i+1]})
	}
	return lines
}

// path returns the edges between the vertices that follow each other.
func path(vertices ...int) []api.Line {
	lines := []api.Line{}
	for i := 1; i < len(vertices); i++ {
		lines = append(lines, api.Line{A: vertices[i-1], B: vertices[i]})
	}
	return lines
}

// ring returns the edges of the cycle of the vertices.
func ring(vertices ...int) []api.Line {
	return append(path(vertices...), api.Line{A: vertices[len(vertices)-1], B: vertices[0]})
}

// everyPair returns the edges of the complete graph, ordered by A and then by B.
func everyPair(n int) []api.Line {
	lines := []api.Line{}
	for a := range n {
		for b := a + 1; b < n; b++ {
			lines = append(lines, api.Line{A: a, B: b})
		}
	}
	return lines
}

// turned returns the edges in the opposite order, with their ends swapped.
func turned(lines []api.Line) []api.Line {
	out := []api.Line{}
	for _, line := range slices.Backward(lines) {
		out = append(out, api.Line{A: line.B, B: line.A})
	}
	return out
}

// mixer returns a function of which each call gives the next number below its
// argument of a fixed sequence without visible order.
func mixer() func(below int) int {
	state := uint64(88172645463325252)
	return func(below int) int {
		state ^= state << 13
		state ^= state >> 7
		state ^= state << 17
		return int(state>>11) % below
	}
}

// smallGraphs calls a function with every graph of at most 5 vertices, and with
// its edges in the other direction and order, and doubled.
func smallGraphs(call func(n int, lines []api.Line)) {
	for n := 1; n <= 5; n++ {
		all := everyPair(n)
		for mask := range 1 << len(all) {
			lines := []api.Line{}
			for i, line := range all {
				if mask>>i&1 == 1 {
					lines = append(lines, line)
				}
			}
			call(n, lines)
			call(n, turned(lines))
			call(n, append(turned(lines), lines...))
		}
	}
}

// mixedGraphs calls a function with graphs of all sizes, whose edges are in no
// order, go both ways and may be parallel; many of them have few edges.
func mixedGraphs(call func(n int, lines []api.Line)) {
	below := mixer()
	for range 6000 {
		n := 2 + below(api.MaxPts-1)
		lines := []api.Line{}
		for range below(1 + min(api.MaxLines, n+below(api.MaxLines))) {
			a := below(n)
			lines = append(lines, api.Line{A: a, B: (a + 1 + below(n-1)) % n})
		}
		call(n, lines)
	}
}

// treeGraphs calls a function with renumbered trees of MaxPts vertices, many of
// them deep, with a few more edges.
func treeGraphs(call func(n int, lines []api.Line)) {
	below := mixer()
	for range 2000 {
		order := []int{}
		for v := range api.MaxPts {
			order = slices.Insert(order, below(v+1), v)
		}
		lines := []api.Line{}
		back := 1 + below(3)
		for i := 1; i < len(order); i++ {
			lines = append(lines, api.Line{A: order[i], B: order[max(0, i-1-below(back))]})
		}
		for range below(4) {
			a := below(api.MaxPts)
			lines = append(lines, api.Line{A: a, B: (a + 1 + below(api.MaxPts-1)) % api.MaxPts})
		}
		call(api.MaxPts, lines)
	}
}

// everyGraph calls a function with all the graphs above.
func everyGraph(call func(n int, lines []api.Line)) {
	smallGraphs(call)
	mixedGraphs(call)
	treeGraphs(call)
}

// adjacent is the definition: an edge joins the vertices in either direction.
func adjacent(lines []api.Line, a, b int) bool {
	return slices.Contains(lines, api.Line{A: a, B: b}) || slices.Contains(lines, api.Line{A: b, B: a})
}

// walkOf makes the search one tick of the clock after the other: at each it goes to
// the smallest vertex that it may discover, or else finishes the one that it is at.
func walkOf(n int, lines []api.Line) (met, left, from []int) {
	met, left, from = slices.Repeat([]int{-1}, n), make([]int, n), make([]int, n)
	at := -1
	for clock := range 2 * n {
		next := -1
		for v := n - 1; v >= 0; v-- {
			if met[v] < 0 && (at < 0 || adjacent(lines, at, v)) {
				next = v
			}
		}
		if next >= 0 {
			met[next], from[next] = clock, at
			at = next
			continue
		}
		left[at] = clock
		at = from[at]
	}
	return met, left, from
}

// lowestOf is the definition of the low-link values: each vertex hands the discovery
// times of its adjacent vertices to itself and to all that it descends from.
func lowestOf(n int, lines []api.Line) []int {
	met, _, from := walkOf(n, lines)
	lowest := slices.Clone(met)
	for u := range n {
		for w := range n {
			if w == from[u] || !adjacent(lines, u, w) {
				continue
			}
			for v := u; v >= 0; v = from[v] {
				lowest[v] = min(lowest[v], met[w])
			}
		}
	}
	return lowest
}

// expectWalk compares Walk with times and parents, or with an error and none.
func expectWalk(t *testing.T, n int, lines []api.Line, met, left, from []int, wantErr api.Errno) {
	t.Helper()
	gotMet, gotLeft, gotFrom, err := deep.Walk(n, lines)
	if plain.Told(err) != wantErr || !slices.Equal(gotMet, met) || !slices.Equal(gotLeft, left) || !slices.Equal(gotFrom, from) {
		t.Errorf("Walk(%d, %v) = %v, %v, %v, %v, want %v, %v, %v, %v",
			n, lines, gotMet, gotLeft, gotFrom, err, met, left, from, wantErr)
	}
}

// expectLowest compares Lowest with low-link values, or with an error and none.
func expectLowest(t *testing.T, n int, lines []api.Line, want []int, wantErr api.Errno) {
	t.Helper()
	got, err := deep.Lowest(n, lines)
	if plain.Told(err) != wantErr || !slices.Equal(got, want) {
		t.Errorf("Lowest(%d, %v) = %v, %v, want %v, %v", n, lines, got, err, want, wantErr)
	}
}

// TestWalk covers R7.1: the smallest vertex comes first, at every start and at every
// vertex, whatever the order of the edges, and none is visited twice.
func TestWalk(t *testing.T) {
	for _, c := range []struct {
		n               int
		lines           []api.Line
		met, left, from []int
	}{
		{1, nil, []int{0}, []int{1}, []int{-1}},
		{1, edges(), []int{0}, []int{1}, []int{-1}},
		{2, nil, []int{0, 2}, []int{1, 3}, []int{-1, -1}},
		{2, edges(0, 1), []int{0, 1}, []int{3, 2}, []int{-1, 0}},
		{2, edges(1, 0), []int{0, 1}, []int{3, 2}, []int{-1, 0}},
		{2, slices.Repeat(edges(1, 0), 24), []int{0, 1}, []int{3, 2}, []int{-1, 0}},
		{3, path(0, 1, 2), []int{0, 1, 2}, []int{5, 4, 3}, []int{-1, 0, 1}},
		{3, path(1, 0, 2), []int{0, 1, 3}, []int{5, 2, 4}, []int{-1, 0, 0}},
		{3, edges(0, 2, 0, 1), []int{0, 1, 3}, []int{5, 2, 4}, []int{-1, 0, 0}},
		{3, path(0, 2, 1), []int{0, 2, 1}, []int{5, 3, 4}, []int{-1, 2, 0}},
		{3, edges(2, 1), []int{0, 2, 3}, []int{1, 5, 4}, []int{-1, -1, 1}},
		{3, edges(2, 0), []int{0, 4, 1}, []int{3, 5, 2}, []int{-1, -1, 0}},
		// In a triangle, 2 is adjacent to 0 but is discovered from 1.
		{3, ring(0, 1, 2), []int{0, 1, 2}, []int{5, 4, 3}, []int{-1, 0, 1}},
		// In a ring, 3 is discovered from the far side.
		{4, ring(0, 1, 2, 3), []int{0, 1, 2, 3}, []int{7, 6, 5, 4}, []int{-1, 0, 1, 2}},
		{4, ring(0, 2, 1, 3), []int{0, 2, 1, 3}, []int{7, 5, 6, 4}, []int{-1, 2, 0, 1}},
		{4, edges(0, 3, 0, 2, 0, 1), []int{0, 1, 3, 5}, []int{7, 2, 4, 6}, []int{-1, 0, 0, 0}},
		{5, edges(4, 1, 3, 2), []int{0, 2, 6, 7, 3}, []int{1, 5, 9, 8, 4}, []int{-1, -1, -1, 2, 1}},
		{8, nil, []int{0, 2, 4, 6, 8, 10, 12, 14}, []int{1, 3, 5, 7, 9, 11, 13, 15}, slices.Repeat([]int{-1}, 8)},
		{8, path(0, 1, 2, 3, 4, 5, 6, 7), []int{0, 1, 2, 3, 4, 5, 6, 7}, []int{15, 14, 13, 12, 11, 10, 9, 8}, []int{-1, 0, 1, 2, 3, 4, 5, 6}},
		{8, path(0, 7, 6, 5, 4, 3, 2, 1), []int{0, 7, 6, 5, 4, 3, 2, 1}, []int{15, 8, 9, 10, 11, 12, 13, 14}, []int{-1, 2, 3, 4, 5, 6, 7, 0}},
		// The pairs of 5, 6 and 7, and 4 with 7, are not adjacent.
		{8, everyPair(8)[:24], []int{0, 1, 2, 3, 4, 5, 7, 10}, []int{15, 14, 13, 12, 9, 6, 8, 11}, []int{-1, 0, 1, 2, 3, 4, 4, 3}},
	} {
		expectWalk(t, c.n, c.lines, c.met, c.left, c.from, api.OK)
	}
	everyGraph(func(n int, lines []api.Line) {
		met, left, from := walkOf(n, lines)
		expectWalk(t, n, lines, met, left, from, api.OK)
	})
}

// TestLowest covers R7.2: the values are discovery times, not numbers of vertices,
// and a parallel edge to the parent does not count either.
func TestLowest(t *testing.T) {
	for _, c := range []struct {
		n     int
		lines []api.Line
		want  []int
	}{
		{1, nil, []int{0}},
		{1, edges(), []int{0}},
		{2, nil, []int{0, 2}},
		{2, edges(0, 1), []int{0, 1}},
		{2, edges(0, 1, 0, 1), []int{0, 1}},
		{2, slices.Repeat(edges(1, 0), 24), []int{0, 1}},
		{3, path(0, 1, 2), []int{0, 1, 2}},
		{3, path(1, 0, 2), []int{0, 1, 3}},
		{3, path(0, 2, 1), []int{0, 2, 1}},
		{3, path(0, 1, 2, 1, 0), []int{0, 1, 2}},
		{3, ring(0, 1, 2), []int{0, 0, 0}},
		{3, ring(2, 1, 0), []int{0, 0, 0}},
		{4, ring(1, 2, 3), []int{0, 2, 2, 2}},
		{4, append(ring(1, 2, 3), edges(0, 1)...), []int{0, 1, 1, 1}},
		{4, append(ring(1, 2, 3), edges(0, 3)...), []int{0, 1, 1, 1}},
		{4, append(ring(0, 1, 2), edges(2, 3)...), []int{0, 0, 0, 3}},
		// 3 hands 0 up to 2 and 1, and its own leaf 4 keeps its own time.
		{5, append(ring(0, 1, 2, 3), edges(3, 4)...), []int{0, 0, 0, 0, 4}},
		// 2 reaches 0 itself, but its descendant 4 only 2.
		{5, append(ring(0, 1, 2), ring(2, 3, 4)...), []int{0, 0, 0, 2, 2}},
		// 1 has two edges to its parent 0, and neither counts.
		{4, edges(0, 1, 1, 2, 2, 3, 3, 1, 1, 0), []int{0, 1, 1, 1}},
		// 4 is adjacent to 1, whose discovery time counts, not its value 0.
		{5, append(path(0, 1, 2, 3, 4), edges(0, 2, 1, 4)...), []int{0, 0, 0, 1, 1}},
		{5, append(path(0, 1, 2, 3, 4), edges(0, 3, 2, 4)...), []int{0, 0, 0, 0, 2}},
		{8, nil, []int{0, 2, 4, 6, 8, 10, 12, 14}},
		{8, path(0, 7, 6, 5, 4, 3, 2, 1), []int{0, 7, 6, 5, 4, 3, 2, 1}},
		{8, ring(0, 1, 2, 3, 4, 5, 6, 7), slices.Repeat([]int{0}, 8)},
		{8, append(ring(0, 3, 5), ring(1, 7, 4, 6)...), []int{0, 6, 14, 0, 6, 0, 6, 6}},
	} {
		expectLowest(t, c.n, c.lines, c.want, api.OK)
	}
	everyGraph(func(n int, lines []api.Line) {
		expectLowest(t, n, lines, lowestOf(n, lines), api.OK)
	})
}

// TestErrors covers the errors of graph.Check in R7.1 and R7.2, and their order.
func TestErrors(t *testing.T) {
	for _, c := range []struct {
		n     int
		lines []api.Line
		want  api.Errno
	}{
		{0, nil, api.ErrRange},
		{-1, nil, api.ErrRange},
		{9, nil, api.ErrRange},
		{1<<32 + 1, nil, api.ErrRange},
		{math.MinInt, nil, api.ErrRange},
		{math.MaxInt, nil, api.ErrRange},
		{0, slices.Repeat(edges(0, 1), 25), api.ErrRange},
		{9, edges(1, 1), api.ErrRange},
		{2, slices.Repeat(edges(0, 1), 25), api.ErrFull},
		{8, everyPair(8), api.ErrFull},
		{3, slices.Repeat(edges(1, 1), 25), api.ErrFull},
		{3, slices.Repeat(edges(0, 3), 25), api.ErrFull},
		{3, edges(0, 3), api.ErrRange},
		{3, edges(3, 0), api.ErrRange},
		{3, edges(0, -1), api.ErrRange},
		{3, edges(-1, 0), api.ErrRange},
		{3, edges(3, 3), api.ErrRange},
		{8, edges(0, math.MaxInt), api.ErrRange},
		{8, edges(math.MinInt, 0), api.ErrRange},
		{1, edges(0, 0), api.ErrShape},
		{3, edges(0, 1, 1, 2, 2, 2), api.ErrShape},
		{3, edges(0, 1, 1, 1, 0, 3), api.ErrShape},
		{3, edges(0, 1, 0, 3, 1, 1), api.ErrRange},
	} {
		if err := graph.Check(c.n, c.lines); plain.Told(err) != c.want {
			t.Errorf("Check(%d, %v) = %v, want %v", c.n, c.lines, err, c.want)
		}
		expectWalk(t, c.n, c.lines, nil, nil, nil, c.want)
		expectLowest(t, c.n, c.lines, nil, c.want)
	}
}

// overwritten fills a slice and its spare capacity, and returns what it held.
func overwritten(list []int) []int {
	held := slices.Clone(list)
	whole := list[:cap(list)]
	for i := range whole {
		whole[i] = 99
	}
	return held
}

// TestNoAliasing covers Z2: the edges and the memory behind them stay as they are,
// the results share no memory, and a later result does not depend on what became of
// an earlier one.
func TestNoAliasing(t *testing.T) {
	for _, lines := range [][]api.Line{
		{}, edges(3, 1), ring(3, 1, 2), ring(0, 1, 2, 3), everyPair(4), slices.Repeat(edges(2, 3), 24),
	} {
		memory := append(slices.Clone(lines), edges(7, 7, 7, 7, 7, 7, 7, 7)...)
		argument := memory[:len(lines)]
		kept := slices.Clone(memory)
		met, left, from := walkOf(4, lines)
		lowest := lowestOf(4, lines)
		for range 2 {
			gotMet, gotLeft, gotFrom, err := deep.Walk(4, argument)
			for i, want := range [][]int{met, left, from} {
				got := overwritten([][]int{gotMet, gotLeft, gotFrom}[i])
				if err != nil || !slices.Equal(got, want) {
					t.Errorf("Walk of %v: result %d is %v, %v, want %v", lines, i, got, err, want)
				}
			}
			gotLowest, err := deep.Lowest(4, argument)
			if got := overwritten(gotLowest); err != nil || !slices.Equal(got, lowest) {
				t.Errorf("Lowest of %v: %v, %v, want %v", lines, got, err, lowest)
			}
			if !slices.Equal(memory, kept) {
				t.Errorf("a call with %v changes its argument", lines)
			}
		}
	}
}

// TestNoAliasingOfErrors covers Z2 for invalid edges: they and the memory behind
// them stay as they are.
func TestNoAliasingOfErrors(t *testing.T) {
	for _, lines := range [][]api.Line{
		edges(1, 0, 1, 1), edges(1, 0, 0, 4), slices.Repeat(edges(2, 1), 25),
	} {
		memory := append(slices.Clone(lines), edges(7, 7, 7, 7, 7, 7, 7, 7)...)
		kept := slices.Clone(memory)
		if _, _, _, err := deep.Walk(4, memory[:len(lines)]); err == nil {
			t.Errorf("Walk of %v: no error", lines)
		}
		if _, err := deep.Lowest(4, memory[:len(lines)]); err == nil {
			t.Errorf("Lowest of %v: no error", lines)
		}
		if !slices.Equal(memory, kept) {
			t.Errorf("a call with %v changes its argument", lines)
		}
	}
}
