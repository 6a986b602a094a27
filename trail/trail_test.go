package trail_test

import (
	"math"
	"slices"
	"testing"

	"brambleweir/api"
	"brambleweir/graph"
	"brambleweir/plain"
	"brambleweir/trail"
)

// edges returns the edges between the given pairs of vertices.
func edges(ends ...int) []api.Line {
	lines := []api.Line{}
	for i := 0; i+1 < len(ends); i += 2 {
		lines = append(lines, api.Line{A: ends[i], B: ends[i+1]})
	}
	return lines
}

// path returns the edges between the vertices that follow each other.
func path(vertices ...int) []api.Line {
	lines := []api.Line{}
	for i := 1; i < len(vertices); i++ {
		lines = append(lines, api.Line{A: vertices[i-1], B: vertices[i]})
	}
	return lines
}

// ring returns the edges of the cycle of the vertices.
func ring(vertices ...int) []api.Line {
	return append(path(vertices...), api.Line{A: vertices[len(vertices)-1], B: vertices[0]})
}

// everyPair returns the edges of the complete graph, ordered by A and then by B.
func everyPair(n int) []api.Line {
	lines := []api.Line{}
	for a := range n {
		for b := a + 1; b < n; b++ {
			lines = append(lines, api.Line{A: a, B: b})
		}
	}
	return lines
}

// turned returns the edges in the opposite order, with their ends swapped.
func turned(lines []api.Line) []api.Line {
	out := []api.Line{}
	for _, line := range slices.Backward(lines) {
		out = append(out, api.Line{A: line.B, B: line.A})
	}
	return out
}

// mixer returns a function of which each call gives the next number below its
// argument of a fixed sequence without visible order.
func mixer() func(below int) int {
	state := uint64(88172645463325252)
	return func(below int) int {
		state ^= state << 13
		state ^= state >> 7
		state ^= state << 17
		return int(state>>11) % below
	}
}

// smallGraphs calls a function with every graph of at most 5 vertices, and with
// its edges in the other direction and order, and doubled.
func smallGraphs(call func(n int, lines []api.Line)) {
	for n := 1; n <= 5; n++ {
		all := everyPair(n)
		for mask := range 1 << len(all) {
			lines := []api.Line{}
			for i, line := range all {
				if mask>>i&1 == 1 {
					lines = append(lines, line)
				}
			}
			call(n, lines)
			call(n, turned(lines))
			call(n, append(turned(lines), lines...))
		}
	}
}

// mixedGraphs calls a function with graphs of all numbers of vertices and of at most
// so many edges, which are in no order, go both ways and may be parallel. Many of
// the graphs have no trail.
func mixedGraphs(most int, call func(n int, lines []api.Line)) {
	below := mixer()
	for range 3000 {
		n := 2 + below(api.MaxPts-1)
		lines := []api.Line{}
		for range below(most + 1) {
			a := below(n)
			lines = append(lines, api.Line{A: a, B: (a + 1 + below(n-1)) % n})
		}
		call(n, lines)
	}
}

// walkedGraphs calls a function with the edges of walks of at most so many steps, in
// no order and both ways, so that each of the graphs has a trail; every second walk
// ends where it has started, if it may.
func walkedGraphs(most int, call func(n int, lines []api.Line)) {
	below := mixer()
	for round := range 3000 {
		n := 2 + below(api.MaxPts-1)
		first := below(n)
		lines := []api.Line{}
		at := first
		walked := func(next int) {
			line := api.Line{A: at, B: next}
			if below(2) == 1 {
				line = api.Line{A: next, B: at}
			}
			lines = slices.Insert(lines, below(len(lines)+1), line)
			at = next
		}
		for range 1 + below(most-1) {
			walked((at + 1 + below(n-1)) % n)
		}
		if round%2 == 0 && at != first {
			walked(first)
		}
		call(n, lines)
	}
}

// endsOf is the definition: it counts the edges of each vertex.
func endsOf(n int, lines []api.Line) []int {
	ends := []int{}
	for v := range n {
		count := 0
		for _, line := range lines {
			if line.A == v || line.B == v {
				count++
			}
		}
		if count%2 == 1 {
			ends = append(ends, v)
		}
	}
	return ends
}

// startOf is the vertex at which the trail over some edges has to start.
func startOf(n int, lines []api.Line) int {
	if ends := endsOf(n, lines); len(ends) > 0 {
		return ends[0]
	}
	for v := range n {
		for _, line := range lines {
			if line.A == v || line.B == v {
				return v
			}
		}
	}
	return -1
}

// place is how far a walk has come: where it is, and how many edges are left
// between each two vertices.
type place struct {
	at   int
	left [api.MaxPts][api.MaxPts]int
}

// trailOf is the definition: it tries all walks from the start in lexicographic
// order, until one has used all edges. It does not try a place twice, since from
// there the walk could not be completed the first time.
func trailOf(n int, lines []api.Line) []int {
	if len(lines) == 0 {
		return nil
	}
	here := place{at: startOf(n, lines)}
	for _, line := range lines {
		here.left[line.A][line.B]++
		here.left[line.B][line.A]++
	}
	hopeless := map[place]bool{}
	var complete func(here place, walked []int) []int
	complete = func(here place, walked []int) []int {
		if len(walked) == len(lines)+1 {
			return walked
		}
		if hopeless[here] {
			return nil
		}
		for next := range n {
			if here.left[here.at][next] == 0 {
				continue
			}
			there := here
			there.at = next
			there.left[here.at][next]--
			there.left[next][here.at]--
			if all := complete(there, append(walked, next)); all != nil {
				return all
			}
		}
		hopeless[here] = true
		return nil
	}
	return complete(here, []int{here.at})
}

// startsTrail tells, by Euler's theorem, whether a trail over all edges starts at a
// vertex; one over no edges starts anywhere.
func startsTrail(n int, lines []api.Line, from int) bool {
	if ends := endsOf(n, lines); len(ends) > 2 || len(ends) == 2 && !slices.Contains(ends, from) {
		return false
	}
	var reached [api.MaxPts]bool
	reached[from] = true
	for range lines {
		for _, line := range lines {
			both := reached[line.A] || reached[line.B]
			reached[line.A], reached[line.B] = both, both
		}
	}
	// By now both ends of an edge are reached, or none.
	for _, line := range lines {
		if !reached[line.A] {
			return false
		}
	}
	return true
}

// used returns the edges without one that joins two vertices, and whether there is
// such an edge.
func used(lines []api.Line, a, b int) ([]api.Line, bool) {
	for i, line := range lines {
		if line.A == a && line.B == b || line.A == b && line.B == a {
			return slices.Delete(slices.Clone(lines), i, i+1), true
		}
	}
	return lines, false
}

// expectEnds compares Ends with vertices, or with an error and none.
func expectEnds(t *testing.T, n int, lines []api.Line, want []int, wantErr api.Errno) {
	t.Helper()
	got, err := trail.Ends(n, lines)
	if plain.Told(err) != wantErr || !slices.Equal(got, want) {
		t.Errorf("Ends(%d, %v) = %v, %v, want %v, %v", n, lines, got, err, want, wantErr)
	}
}

// expectFind compares Find with a trail, or with an error and none.
func expectFind(t *testing.T, n int, lines []api.Line, want []int, wantErr api.Errno) {
	t.Helper()
	got, err := trail.Find(n, lines)
	if plain.Told(err) != wantErr || !slices.Equal(got, want) {
		t.Errorf("Find(%d, %v) = %v, %v, want %v, %v", n, lines, got, err, want, wantErr)
	}
}

// expectTrail compares Find with all walks over the edges, and returns whether one
// of them is a trail.
func expectTrail(t *testing.T, n int, lines []api.Line) bool {
	t.Helper()
	want := trailOf(n, lines)
	if want == nil {
		expectFind(t, n, lines, nil, api.ErrNone)
		return false
	}
	expectFind(t, n, lines, want, api.OK)
	return true
}

// expectSteps checks what Find returns by Euler's theorem, step by step, where there
// are too many walks to try them all: the walk starts where it has to, each step
// uses an edge that is left, and no step to a smaller vertex would leave a trail.
func expectSteps(t *testing.T, n int, lines []api.Line) {
	t.Helper()
	if len(lines) == 0 || !startsTrail(n, lines, startOf(n, lines)) {
		expectFind(t, n, lines, nil, api.ErrNone)
		return
	}
	got, err := trail.Find(n, lines)
	if err != nil || len(got) != len(lines)+1 || got[0] != startOf(n, lines) {
		t.Errorf("Find(%d, %v) = %v, %v, not a walk over all edges from the start", n, lines, got, err)
		return
	}
	left := lines
	for i, at := range got[:len(lines)] {
		for smaller := range min(max(got[i+1], 0), n) {
			if rest, joined := used(left, at, smaller); joined && startsTrail(n, rest, smaller) {
				t.Errorf("Find(%d, %v) = %v: step %d could go to %d", n, lines, got, i, smaller)
			}
		}
		rest, joined := used(left, at, got[i+1])
		if !joined {
			t.Errorf("Find(%d, %v) = %v: no edge is left for step %d", n, lines, got, i)
			return
		}
		left = rest
	}
}

// TestEnds covers R9.1: parallel edges count each, in either direction.
func TestEnds(t *testing.T) {
	for _, c := range []struct {
		n     int
		lines []api.Line
		want  []int
	}{
		{1, nil, nil},
		{1, edges(), nil},
		{8, nil, nil},
		{2, edges(0, 1), []int{0, 1}},
		{2, edges(1, 0), []int{0, 1}},
		{2, edges(0, 1, 0, 1), nil},
		{2, edges(0, 1, 1, 0), nil},
		{2, edges(0, 1, 1, 0, 0, 1), []int{0, 1}},
		{2, slices.Repeat(edges(1, 0), 23), []int{0, 1}},
		{2, slices.Repeat(edges(1, 0), 24), nil},
		{3, path(0, 1, 2), []int{0, 2}},
		{3, path(2, 0, 1), []int{1, 2}},
		{3, ring(0, 1, 2), nil},
		{3, append(ring(0, 1, 2), edges(2, 1)...), []int{1, 2}},
		{4, edges(3, 2, 1, 0), []int{0, 1, 2, 3}},
		{4, edges(0, 3, 0, 1, 0, 2), []int{0, 1, 2, 3}},
		{4, everyPair(4), []int{0, 1, 2, 3}},
		{5, everyPair(5), nil},
		{8, edges(7, 5), []int{5, 7}},
		{8, path(6, 1, 4, 3), []int{3, 6}},
		{8, edges(7, 6, 5, 4, 3, 2, 1, 0), []int{0, 1, 2, 3, 4, 5, 6, 7}},
		{8, everyPair(8)[:24], []int{0, 1, 2, 3, 5, 6}},
	} {
		expectEnds(t, c.n, c.lines, c.want, api.OK)
	}
	check := func(n int, lines []api.Line) {
		expectEnds(t, n, lines, endsOf(n, lines), api.OK)
	}
	smallGraphs(check)
	mixedGraphs(api.MaxLines, check)
	walkedGraphs(api.MaxLines, check)
}

// TestFind covers R9.2: the start, the smallest of all trails, the parallel edges,
// and the graphs without a trail.
func TestFind(t *testing.T) {
	for _, c := range []struct {
		n     int
		lines []api.Line
		want  []int
	}{
		{2, edges(0, 1), []int{0, 1}},
		{2, edges(1, 0), []int{0, 1}},
		{2, edges(0, 1, 0, 1), []int{0, 1, 0}},
		{2, edges(0, 1, 1, 0), []int{0, 1, 0}},
		{2, edges(0, 1, 1, 0, 1, 0), []int{0, 1, 0, 1}},
		{2, slices.Repeat(edges(1, 0), 24), append(slices.Repeat([]int{0, 1}, 12), 0)},
		{3, path(0, 1, 2), []int{0, 1, 2}},
		{3, path(2, 1, 0), []int{0, 1, 2}},
		{3, path(2, 0, 1), []int{1, 0, 2}},
		{3, ring(0, 1, 2), []int{0, 1, 2, 0}},
		{3, ring(2, 1, 0), []int{0, 1, 2, 0}},
		// The smallest vertex has no odd number of edges, or no edge at all.
		{4, append(ring(0, 2, 3), edges(1, 3)...), []int{1, 3, 0, 2, 3}},
		{4, ring(3, 2, 1), []int{1, 2, 3, 1}},
		{8, edges(7, 6), []int{6, 7}},
		{8, ring(7, 6, 5), []int{5, 6, 7, 5}},
		// The edge to the smallest vertex has to wait: it is the only way there.
		{4, append(ring(1, 2, 3), edges(0, 1)...), []int{0, 1, 2, 3, 1}},
		{4, edges(1, 0, 1, 2, 2, 3, 3, 1), []int{0, 1, 2, 3, 1}},
		{4, append(ring(1, 2, 3), edges(3, 0)...), []int{0, 3, 1, 2, 3}},
		{5, append(ring(2, 3, 4), path(2, 0, 1)...), []int{1, 0, 2, 3, 4, 2}},
		{4, append(ring(0, 1, 2), edges(2, 3)...), []int{2, 0, 1, 2, 3}},
		{5, append(ring(1, 3, 4), path(0, 1, 2)...), []int{0, 1, 3, 4, 1, 2}},
		// It may go back at once over a parallel edge.
		{3, edges(0, 1, 0, 1, 0, 2, 0, 2), []int{0, 1, 0, 2, 0}},
		{3, edges(0, 1, 1, 0, 1, 2, 1, 2), []int{0, 1, 2, 1, 0}},
		{3, edges(0, 1, 1, 0, 0, 1, 1, 2, 2, 1), []int{0, 1, 0, 1, 2, 1}},
		// Two rings that share a vertex.
		{5, append(ring(0, 1, 2), ring(2, 3, 4)...), []int{0, 1, 2, 3, 4, 2, 0}},
		{5, append(ring(0, 3, 4), ring(0, 1, 2)...), []int{0, 1, 2, 0, 3, 4, 0}},
		{5, everyPair(5), []int{0, 1, 2, 0, 3, 1, 4, 2, 3, 4, 0}},
		{8, ring(0, 7, 1, 6, 2, 5, 3, 4), []int{0, 4, 3, 5, 2, 6, 1, 7, 0}},
	} {
		expectFind(t, c.n, c.lines, c.want, api.OK)
		expectFind(t, c.n, turned(c.lines), c.want, api.OK)
	}
}

// TestFindNone covers the ErrNone of R9.2.
func TestFindNone(t *testing.T) {
	for _, c := range []struct {
		n     int
		lines []api.Line
	}{
		{1, nil},
		{1, edges()},
		{2, nil},
		{8, nil},
		// The edges do not hang together, with any number of odd vertices.
		{4, edges(0, 1, 2, 3)},
		{4, edges(0, 1, 0, 1, 2, 3, 2, 3)},
		{4, edges(0, 1, 2, 3, 2, 3)},
		{4, edges(0, 1, 0, 1, 2, 3)},
		{6, append(ring(0, 1, 2), ring(3, 4, 5)...)},
		{8, append(ring(0, 1, 2), edges(6, 7)...)},
		{8, append(path(0, 1, 2), ring(5, 6, 7)...)},
		// More than two odd vertices.
		{4, edges(0, 1, 0, 2, 0, 3)},
		{4, edges(3, 1, 3, 2, 3, 0)},
		{4, everyPair(4)},
		{5, append(ring(0, 1, 2), edges(1, 3, 2, 4, 0, 3)...)},
		{6, append(ring(0, 1, 2), edges(0, 3, 1, 4, 2, 5)...)},
		{8, everyPair(8)[:24]},
	} {
		expectFind(t, c.n, c.lines, nil, api.ErrNone)
		expectFind(t, c.n, turned(c.lines), nil, api.ErrNone)
	}
}

// TestFindOfAllWalks covers R9.2: the smallest of all walks over the edges.
func TestFindOfAllWalks(t *testing.T) {
	with, without := 0, 0
	check := func(n int, lines []api.Line) {
		if expectTrail(t, n, lines) {
			with++
		} else {
			without++
		}
	}
	smallGraphs(check)
	mixedGraphs(9, check)
	walkedGraphs(11, check)
	if with < 1500 || without < 1500 {
		t.Errorf("%d graphs with a trail and %d without one: too few of a kind", with, without)
	}
}

// TestFindStepByStep covers R9.2 for graphs with up to MaxLines edges.
func TestFindStepByStep(t *testing.T) {
	check := func(n int, lines []api.Line) { expectSteps(t, n, lines) }
	smallGraphs(check)
	mixedGraphs(api.MaxLines, check)
	walkedGraphs(api.MaxLines, check)
}

// TestErrors covers the errors of graph.Check in R9.1 and R9.2, and their order;
// they come before ErrNone.
func TestErrors(t *testing.T) {
	for _, c := range []struct {
		n     int
		lines []api.Line
		want  api.Errno
	}{
		{0, nil, api.ErrRange},
		{-1, nil, api.ErrRange},
		{9, nil, api.ErrRange},
		{1<<32 + 1, nil, api.ErrRange},
		{math.MinInt, nil, api.ErrRange},
		{math.MaxInt, nil, api.ErrRange},
		{0, slices.Repeat(edges(0, 1), 25), api.ErrRange},
		{9, edges(1, 1), api.ErrRange},
		{2, slices.Repeat(edges(0, 1), 25), api.ErrFull},
		{8, everyPair(8), api.ErrFull},
		{3, slices.Repeat(edges(1, 1), 25), api.ErrFull},
		{3, slices.Repeat(edges(0, 3), 25), api.ErrFull},
		{3, edges(0, 3), api.ErrRange},
		{3, edges(3, 0), api.ErrRange},
		{3, edges(0, -1), api.ErrRange},
		{3, edges(-1, 0), api.ErrRange},
		{3, edges(3, 3), api.ErrRange},
		{8, edges(0, math.MaxInt), api.ErrRange},
		{8, edges(math.MinInt, 0), api.ErrRange},
		{1, edges(0, 0), api.ErrShape},
		{3, edges(0, 1, 1, 2, 2, 2), api.ErrShape},
		{3, edges(0, 1, 1, 1, 0, 3), api.ErrShape},
		{3, edges(0, 1, 0, 3, 1, 1), api.ErrRange},
		{4, edges(0, 1, 2, 3, 2, 2), api.ErrShape},
		{4, edges(0, 1, 0, 2, 0, 3, 0, 4), api.ErrRange},
	} {
		if err := graph.Check(c.n, c.lines); plain.Told(err) != c.want {
			t.Errorf("Check(%d, %v) = %v, want %v", c.n, c.lines, err, c.want)
		}
		expectEnds(t, c.n, c.lines, nil, c.want)
		expectFind(t, c.n, c.lines, nil, c.want)
	}
}

// overwritten fills a slice and its spare capacity, and returns what it held.
func overwritten(list []int) []int {
	held := slices.Clone(list)
	whole := list[:cap(list)]
	for i := range whole {
		whole[i] = 99
	}
	return held
}

// TestNoAliasing covers Z2: the edges and the memory behind them stay as they are,
// with an error too, and a later result does not depend on what became of an earlier
// one.
func TestNoAliasing(t *testing.T) {
	calls := map[string]func(n int, lines []api.Line) ([]int, error){"Ends": trail.Ends, "Find": trail.Find}
	for _, lines := range [][]api.Line{
		{}, edges(3, 1), path(0, 1, 2, 3), path(3, 1, 2, 0), append(ring(3, 1, 2), edges(0, 2)...),
		ring(3, 2, 1, 0), everyPair(4), edges(3, 2, 1, 0), slices.Repeat(edges(2, 3), 24),
		edges(1, 0, 1, 1), edges(1, 0, 0, 4), slices.Repeat(edges(2, 1), 25),
	} {
		for name, call := range calls {
			memory := append(slices.Clone(lines), edges(7, 7, 7, 7, 7, 7, 7, 7)...)
			argument := memory[:len(lines)]
			kept := slices.Clone(memory)
			first, firstErr := call(4, argument)
			want := overwritten(first)
			second, err := call(4, argument)
			if !slices.Equal(second, want) || plain.Told(err) != plain.Told(firstErr) {
				t.Errorf("%s of %v: first %v, %v, then %v, %v", name, lines, want, firstErr, second, err)
			}
			if !slices.Equal(memory, kept) {
				t.Errorf("%s of %v changes its argument", name, lines)
			}
		}
	}
}
