package halves_test

import (
	"math"
	"slices"
	"testing"

	"brambleweir/api"
	"brambleweir/graph"
	"brambleweir/halves"
	"brambleweir/plain"
)

// edges returns the edges between the given pairs of vertices.
func edges(ends ...int) []api.Line {
	lines := []api.Line{}
	for i := 0; i+1 < len(ends); i += 2 {
		lines = append(lines, api.Line{A: ends[i], B: ends[i+1]})
	}
	return lines
}

// path returns the edges between the vertices that follow each other.
func path(vertices ...int) []api.Line {
	lines := []api.Line{}
	for i := 1; i < len(vertices); i++ {
		lines = append(lines, api.Line{A: vertices[i-1], B: vertices[i]})
	}
	return lines
}

// ring returns the edges of the cycle of the vertices.
func ring(vertices ...int) []api.Line {
	return append(path(vertices...), api.Line{A: vertices[len(vertices)-1], B: vertices[0]})
}

// everyPair returns the edges of the complete graph, ordered by A and then by B.
func everyPair(n int) []api.Line {
	lines := []api.Line{}
	for a := range n {
		for b := a + 1; b < n; b++ {
			lines = append(lines, api.Line{A: a, B: b})
		}
	}
	return lines
}

// across returns the edges between every vertex of one list and every one of another.
func across(some, others []int) []api.Line {
	lines := []api.Line{}
	for _, a := range some {
		for _, b := range others {
			lines = append(lines, api.Line{A: a, B: b})
		}
	}
	return lines
}

// turned returns the edges in the opposite order, with their ends swapped.
func turned(lines []api.Line) []api.Line {
	out := []api.Line{}
	for _, line := range slices.Backward(lines) {
		out = append(out, api.Line{A: line.B, B: line.A})
	}
	return out
}

// mixer returns a function of which each call gives the next number below its
// argument of a fixed sequence without visible order.
func mixer() func(below int) int {
	state := uint64(88172645463325252)
	return func(below int) int {
		state ^= state << 13
		state ^= state >> 7
		state ^= state << 17
		return int(state>>11) % below
	}
}

// shuffled returns the vertices of the largest graphs in no order.
func shuffled(below func(int) int) []int {
	vertices := []int{}
	for v := range api.MaxPts {
		vertices = slices.Insert(vertices, below(v+1), v)
	}
	return vertices
}

// anyEdge returns an edge between two of n vertices.
func anyEdge(below func(int) int, n int) api.Line {
	a := below(n)
	return api.Line{A: a, B: (a + 1 + below(n-1)) % n}
}

// smallGraphs calls a function with every graph of at most 5 vertices, and with
// its edges in the other direction and order, and doubled.
func smallGraphs(call func(n int, lines []api.Line)) {
	for n := 1; n <= 5; n++ {
		all := everyPair(n)
		for mask := range 1 << len(all) {
			lines := []api.Line{}
			for i, line := range all {
				if mask>>i&1 == 1 {
					lines = append(lines, line)
				}
			}
			call(n, lines)
			call(n, turned(lines))
			call(n, append(turned(lines), lines...))
		}
	}
}

// mixedGraphs calls a function with graphs of all sizes, whose edges are in no
// order, go both ways and may be parallel; many of them have few edges.
func mixedGraphs(call func(n int, lines []api.Line)) {
	below := mixer()
	for range 6000 {
		n := 2 + below(api.MaxPts-1)
		lines := []api.Line{}
		for range below(1 + min(api.MaxLines, n+below(api.MaxLines))) {
			lines = append(lines, anyEdge(below, n))
		}
		call(n, lines)
	}
}

// splitGraphs calls a function with graphs of MaxPts vertices whose edges go between
// two sets of vertices, except for at most two edges.
func splitGraphs(call func(n int, lines []api.Line)) {
	below := mixer()
	for range 6000 {
		vertices := shuffled(below)
		first := 1 + below(api.MaxPts-1)
		lines := []api.Line{}
		for range below(api.MaxLines - 2) {
			line := api.Line{A: vertices[below(first)], B: vertices[first+below(api.MaxPts-first)]}
			if below(2) == 1 {
				line.A, line.B = line.B, line.A
			}
			lines = append(lines, line)
		}
		for range below(3) {
			lines = slices.Insert(lines, below(len(lines)+1), anyEdge(below, api.MaxPts))
		}
		call(api.MaxPts, lines)
	}
}

// ringGraphs calls a function with cycles of all lengths, whose vertices are
// renumbered, with a few more edges.
func ringGraphs(call func(n int, lines []api.Line)) {
	below := mixer()
	for length := 3; length <= api.MaxPts; length++ {
		for range 300 {
			lines := ring(shuffled(below)[:length]...)
			for range below(4) {
				lines = append(lines, anyEdge(below, api.MaxPts))
			}
			call(api.MaxPts, lines)
			call(api.MaxPts, turned(lines))
		}
	}
}

// twinGraphs calls a function with cycles of all lengths, with one more vertex that
// is adjacent to two vertices next but one in the cycle, so that the graph has an even
// cycle too. The rest of the vertices may be joined to it.
func twinGraphs(call func(n int, lines []api.Line)) {
	below := mixer()
	for length := 4; length < api.MaxPts; length++ {
		for range 100 {
			vertices := shuffled(below)
			lines := ring(vertices[:length]...)
			twin := vertices[length]
			lines = append(lines, edges(vertices[0], twin, twin, vertices[2])...)
			for _, v := range vertices[length+1:] {
				if below(2) == 1 {
					lines = slices.Insert(lines, below(len(lines)+1), api.Line{A: twin, B: v})
				}
			}
			call(api.MaxPts, lines)
			call(api.MaxPts, turned(lines))
		}
	}
}

// everyGraph calls a function with all the graphs above.
func everyGraph(call func(n int, lines []api.Line)) {
	smallGraphs(call)
	mixedGraphs(call)
	splitGraphs(call)
	ringGraphs(call)
	twinGraphs(call)
}

// leastOf returns for each vertex the smallest one that is connected to it: it
// joins the components at the ends of each edge, under the smaller name.
func leastOf(n int, lines []api.Line) []int {
	least := make([]int, n)
	for v := range least {
		least[v] = v
	}
	for _, line := range lines {
		a, b := least[line.A], least[line.B]
		for v := range least {
			if least[v] == a || least[v] == b {
				least[v] = min(a, b)
			}
		}
	}
	return least
}

// coloringsOf is the definition: of all lists of the colors 0 and 1, those that are
// proper and give the smallest vertex of each component the color 0.
func coloringsOf(n int, lines []api.Line) [][]int {
	least := leastOf(n, lines)
	colorings := [][]int{}
	for mask := range 1 << n {
		colors := make([]int, n)
		for v := range colors {
			colors[v] = mask >> v & 1
		}
		fits := true
		for v := range colors {
			fits = fits && colors[least[v]] == 0
		}
		for _, line := range lines {
			fits = fits && colors[line.A] != colors[line.B]
		}
		if fits {
			colorings = append(colorings, colors)
		}
	}
	return colorings
}

// cyclesOf is the definition of a cycle: it tries all lists of different vertices,
// each adjacent to the next one, and tells for each number of at least three
// vertices whether a list has adjacent ends.
func cyclesOf(n int, lines []api.Line) (has [api.MaxPts + 1]bool) {
	var adjacent [api.MaxPts][api.MaxPts]bool
	for _, line := range lines {
		adjacent[line.A][line.B] = true
		adjacent[line.B][line.A] = true
	}
	var used [api.MaxPts]bool
	var extend func(first, last, count int)
	extend = func(first, last, count int) {
		used[last] = true
		if count >= 3 && adjacent[last][first] {
			has[count] = true
		}
		// The first vertex is the smallest, so that a cycle is tried only twice.
		for v := first + 1; v < n; v++ {
			if adjacent[last][v] && !used[v] {
				extend(first, v, count+1)
			}
		}
		used[last] = false
	}
	for v := range n {
		extend(v, v, 1)
	}
	return has
}

// oddOf is the definition of the result of Odd.
func oddOf(n int, lines []api.Line) int {
	has := cyclesOf(n, lines)
	for count := 3; count <= api.MaxPts; count += 2 {
		if has[count] {
			return count
		}
	}
	return 0
}

// expectPart compares Part with colors, or with an error and none.
func expectPart(t *testing.T, n int, lines []api.Line, want []int, wantErr api.Errno) {
	t.Helper()
	got, err := halves.Part(n, lines)
	if plain.Told(err) != wantErr || !slices.Equal(got, want) {
		t.Errorf("Part(%d, %v) = %v, %v, want %v, %v", n, lines, got, err, want, wantErr)
	}
}

// expectOdd compares Odd with a number of vertices, or with an error and 0.
func expectOdd(t *testing.T, n int, lines []api.Line, want int, wantErr api.Errno) {
	t.Helper()
	got, err := halves.Odd(n, lines)
	if plain.Told(err) != wantErr || got != want {
		t.Errorf("Odd(%d, %v) = %v, %v, want %v, %v", n, lines, got, err, want, wantErr)
	}
}

// TestPart covers R10.1: the smallest vertex of every component has color 0, also if
// it is alone, and parallel edges change nothing. There is no odd cycle.
func TestPart(t *testing.T) {
	for _, c := range []struct {
		n     int
		lines []api.Line
		want  []int
	}{
		{1, nil, []int{0}},
		{1, edges(), []int{0}},
		{2, nil, []int{0, 0}},
		{8, nil, []int{0, 0, 0, 0, 0, 0, 0, 0}},
		{2, edges(0, 1), []int{0, 1}},
		{2, edges(1, 0), []int{0, 1}},
		{2, edges(0, 1, 0, 1), []int{0, 1}},
		{2, edges(0, 1, 1, 0), []int{0, 1}},
		{2, slices.Repeat(edges(1, 0), 24), []int{0, 1}},
		{3, path(0, 1, 2), []int{0, 1, 0}},
		{3, path(2, 1, 0), []int{0, 1, 0}},
		{3, path(1, 0, 2), []int{0, 1, 1}},
		{3, path(0, 2, 1), []int{0, 0, 1}},
		{3, edges(1, 2), []int{0, 0, 1}},
		{3, edges(0, 2), []int{0, 0, 1}},
		{4, edges(3, 2, 1, 0), []int{0, 1, 0, 1}},
		{4, edges(0, 3, 1, 2), []int{0, 0, 1, 1}},
		{4, path(3, 1, 2), []int{0, 0, 1, 1}},
		{4, path(1, 3, 2), []int{0, 0, 0, 1}},
		{4, ring(0, 1, 2, 3), []int{0, 1, 0, 1}},
		{4, ring(0, 2, 1, 3), []int{0, 0, 1, 1}},
		{4, edges(3, 0, 3, 1, 3, 2), []int{0, 0, 0, 1}},
		{4, edges(0, 1, 0, 2, 0, 3), []int{0, 1, 1, 1}},
		{6, across([]int{0, 4, 5}, []int{1, 2, 3}), []int{0, 1, 1, 1, 0, 0}},
		// The vertex with color 0 is the smallest of its component, not of its edge.
		{5, path(4, 3, 2, 1), []int{0, 0, 1, 0, 1}},
		{8, path(7, 6, 5, 4, 3, 2, 1, 0), []int{0, 1, 0, 1, 0, 1, 0, 1}},
		{8, path(3, 5, 0, 7, 2, 6, 4, 1), []int{0, 1, 0, 0, 0, 1, 1, 1}},
		{8, ring(0, 1, 2, 3, 4, 5, 6, 7), []int{0, 1, 0, 1, 0, 1, 0, 1}},
		{8, append(ring(7, 4, 6, 5), path(3, 1, 2)...), []int{0, 0, 1, 1, 0, 0, 1, 1}},
		{8, edges(7, 0, 6, 1, 5, 2, 4, 3), []int{0, 0, 0, 0, 1, 1, 1, 1}},
		{8, across([]int{0, 1, 2, 3}, []int{7, 6, 5, 4}), []int{0, 0, 0, 0, 1, 1, 1, 1}},
	} {
		expectPart(t, c.n, c.lines, c.want, api.OK)
		expectPart(t, c.n, turned(c.lines), c.want, api.OK)
		expectOdd(t, c.n, c.lines, 0, api.OK)
	}
}

// TestOdd covers R10.2, and the ErrNone of R10.1: of several cycles the shortest of
// those of odd length counts, whatever its component and the even cycles.
func TestOdd(t *testing.T) {
	for _, c := range []struct {
		n     int
		lines []api.Line
		want  int
	}{
		{3, ring(0, 1, 2), 3},
		{3, edges(2, 0, 1, 0, 2, 1), 3},
		{3, append(ring(0, 1, 2), ring(2, 1, 0)...), 3},
		{4, ring(1, 3, 2), 3},
		{8, ring(7, 6, 5), 3},
		{4, append(ring(0, 1, 2), edges(2, 3)...), 3},
		{4, append(ring(0, 1, 2, 3), edges(0, 2)...), 3},
		{4, everyPair(4), 3},
		{5, ring(0, 1, 2, 3, 4), 5},
		{5, ring(0, 3, 1, 4, 2), 5},
		{5, everyPair(5), 3},
		// A shorter cycle is even.
		{5, append(across([]int{0, 1}, []int{2, 3}), path(0, 4, 1)...), 0},
		{6, append(ring(0, 1, 2, 3), path(0, 4, 5, 2)...), 5},
		{6, append(ring(0, 1, 2, 3, 4), path(0, 5, 3)...), 5},
		{7, append(ring(0, 1, 2, 3), path(0, 4, 5, 6, 1)...), 5},
		{8, append(ring(0, 1, 2, 3, 4, 5, 6), edges(0, 7, 2, 7)...), 7},
		{8, append(ring(0, 1, 2, 3, 4, 5, 6), edges(0, 3)...), 5},
		{8, append(ring(0, 1, 2, 3, 4, 5, 6), edges(0, 2)...), 3},
		// The odd cycle is far from the smallest vertex, or in another component.
		{8, append(ring(5, 6, 7), path(0, 1, 2, 3, 4, 5)...), 3},
		{8, append(ring(3, 4, 5, 6, 7), path(0, 1, 2, 3)...), 5},
		{7, append(ring(0, 1, 2, 3), ring(4, 5, 6)...), 3},
		{8, append(ring(0, 1, 2, 3, 4), ring(5, 6, 7)...), 3},
		{8, append(ring(0, 1, 2), ring(3, 4, 5, 6, 7)...), 3},
		{8, append(ring(0, 1, 2, 3, 4), edges(5, 6, 6, 7)...), 5},
		// Two odd cycles that share a vertex, an edge, or more.
		{7, append(ring(0, 1, 2), ring(2, 3, 4, 5, 6)...), 3},
		{8, append(ring(0, 1, 2, 3, 4), path(0, 5, 6, 7, 1)...), 5},
		{8, ring(0, 1, 2, 3, 4, 5, 6), 7},
		{8, ring(6, 1, 4, 7, 0, 3, 5), 7},
		{8, append(ring(0, 1, 2, 3, 4, 5, 6), edges(7, 3)...), 7},
		{8, everyPair(8)[:24], 3},
	} {
		expectOdd(t, c.n, c.lines, c.want, api.OK)
		expectOdd(t, c.n, turned(c.lines), c.want, api.OK)
		if c.want > 0 {
			expectPart(t, c.n, c.lines, nil, api.ErrNone)
		}
	}
}

// TestPartOfAllColorings covers R10.1: the one coloring that fits.
func TestPartOfAllColorings(t *testing.T) {
	with, without := 0, 0
	everyGraph(func(n int, lines []api.Line) {
		switch want := coloringsOf(n, lines); len(want) {
		case 0:
			without++
			expectPart(t, n, lines, nil, api.ErrNone)
		case 1:
			with++
			expectPart(t, n, lines, want[0], api.OK)
		default:
			t.Errorf("%d, %v: several colorings %v fit", n, lines, want)
		}
	})
	if with < 3000 || without < 3000 {
		t.Errorf("%d bipartite graphs and %d others: too few of a kind", with, without)
	}
}

// TestOddOfAllCycles covers R10.2: the shortest of all cycles of odd length, among
// graphs with each possible length, without and with a cycle of four vertices.
func TestOddOfAllCycles(t *testing.T) {
	type kind struct {
		odd  int
		four bool
	}
	found := map[kind]int{}
	everyGraph(func(n int, lines []api.Line) {
		want := oddOf(n, lines)
		found[kind{want, cyclesOf(n, lines)[4]}]++
		expectOdd(t, n, lines, want, api.OK)
	})
	for _, odd := range []int{0, 3, 5, 7} {
		for _, four := range []bool{false, true} {
			if count := found[kind{odd, four}]; count < 100 {
				t.Errorf("%d graphs of the kind %v, %v: too few", count, odd, four)
			}
		}
	}
}

// TestErrors covers the errors of graph.Check in R10.1 and R10.2, and their order;
// they come before ErrNone.
func TestErrors(t *testing.T) {
	for _, c := range []struct {
		n     int
		lines []api.Line
		want  api.Errno
	}{
		{0, nil, api.ErrRange},
		{-1, nil, api.ErrRange},
		{9, nil, api.ErrRange},
		{1<<32 + 1, nil, api.ErrRange},
		{math.MinInt, nil, api.ErrRange},
		{math.MaxInt, nil, api.ErrRange},
		{0, slices.Repeat(edges(0, 1), 25), api.ErrRange},
		{9, edges(1, 1), api.ErrRange},
		{9, ring(0, 1, 2), api.ErrRange},
		{2, slices.Repeat(edges(0, 1), 25), api.ErrFull},
		{8, everyPair(8), api.ErrFull},
		{3, slices.Repeat(edges(1, 1), 25), api.ErrFull},
		{3, slices.Repeat(edges(0, 3), 25), api.ErrFull},
		{3, edges(0, 3), api.ErrRange},
		{3, edges(3, 0), api.ErrRange},
		{3, edges(0, -1), api.ErrRange},
		{3, edges(-1, 0), api.ErrRange},
		{3, edges(3, 3), api.ErrRange},
		{8, edges(0, math.MaxInt), api.ErrRange},
		{8, edges(math.MinInt, 0), api.ErrRange},
		{1, edges(0, 0), api.ErrShape},
		{3, edges(0, 1, 1, 2, 2, 2), api.ErrShape},
		{3, edges(0, 1, 1, 1, 0, 3), api.ErrShape},
		{3, edges(0, 1, 0, 3, 1, 1), api.ErrRange},
		{3, append(ring(0, 1, 2), edges(0, 3)...), api.ErrRange},
		{3, append(ring(0, 1, 2), edges(2, 2)...), api.ErrShape},
	} {
		if err := graph.Check(c.n, c.lines); plain.Told(err) != c.want {
			t.Errorf("Check(%d, %v) = %v, want %v", c.n, c.lines, err, c.want)
		}
		expectPart(t, c.n, c.lines, nil, c.want)
		expectOdd(t, c.n, c.lines, 0, c.want)
	}
}

// overwritten fills a slice and its spare capacity, and returns what it held.
func overwritten(list []int) []int {
	held := slices.Clone(list)
	whole := list[:cap(list)]
	for i := range whole {
		whole[i] = 99
	}
	return held
}

// TestNoAliasing covers Z2: the edges and the memory behind them stay as they are,
// with an error too, and a later result does not depend on what became of an earlier
// one.
func TestNoAliasing(t *testing.T) {
	calls := map[string]func(n int, lines []api.Line) ([]int, error){
		"Part": halves.Part,
		"Odd": func(n int, lines []api.Line) ([]int, error) {
			count, err := halves.Odd(n, lines)
			return []int{count}, err
		},
	}
	for _, lines := range [][]api.Line{
		{}, edges(3, 1), path(0, 1, 2, 3), path(3, 1, 2, 0), append(ring(3, 1, 2), edges(0, 2)...),
		ring(3, 2, 1, 0), everyPair(4), edges(3, 2, 1, 0), slices.Repeat(edges(2, 3), 24),
		edges(1, 0, 1, 1), edges(1, 0, 0, 4), slices.Repeat(edges(2, 1), 25),
	} {
		for name, call := range calls {
			memory := append(slices.Clone(lines), edges(7, 7, 7, 7, 7, 7, 7, 7)...)
			argument := memory[:len(lines)]
			kept := slices.Clone(memory)
			first, firstErr := call(4, argument)
			want := overwritten(first)
			second, err := call(4, argument)
			if !slices.Equal(second, want) || plain.Told(err) != plain.Told(firstErr) {
				t.Errorf("%s of %v: first %v, %v, then %v, %v", name, lines, want, firstErr, second, err)
			}
			if !slices.Equal(memory, kept) {
				t.Errorf("%s of %v changes its argument", name, lines)
			}
		}
	}
}
