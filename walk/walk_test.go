package walk_test

import (
	"math"
	"slices"
	"testing"

	"brambleweir/api"
	"brambleweir/graph"
	"brambleweir/plain"
	"brambleweir/walk"
)

// edges returns the edges between the given pairs of vertices.
func edges(ends ...int) []api.Line {
	lines := []api.Line{}
	for i := 0; i+1 < len(ends); i += 2 {
		lines = append(lines, api.Line{A: ends[i], B: ends[i+1]})
	}
	return lines
}

// path returns the edges between the vertices that follow each other.
func path(vertices ...int) []api.Line {
	lines := []api.Line{}
	for i := 1; i < len(vertices); i++ {
		lines = append(lines, api.Line{A: vertices[i-1], B: vertices[i]})
	}
	return lines
}

// ring returns the edges of the cycle of the vertices.
func ring(vertices ...int) []api.Line {
	return append(path(vertices...), api.Line{A: vertices[len(vertices)-1], B: vertices[0]})
}

// everyPair returns the edges of the complete graph, ordered by A and then by B.
func everyPair(n int) []api.Line {
	lines := []api.Line{}
	for a := range n {
		for b := a + 1; b < n; b++ {
			lines = append(lines, api.Line{A: a, B: b})
		}
	}
	return lines
}

// turned returns the edges in the opposite order, with their ends swapped.
func turned(lines []api.Line) []api.Line {
	out := []api.Line{}
	for _, line := range slices.Backward(lines) {
		out = append(out, api.Line{A: line.B, B: line.A})
	}
	return out
}

// mixer returns a function of which each call gives the next number below its
// argument of a fixed sequence without visible order.
func mixer() func(below int) int {
	state := uint64(88172645463325252)
	return func(below int) int {
		state ^= state << 13
		state ^= state >> 7
		state ^= state << 17
		return int(state>>11) % below
	}
}

// smallGraphs calls a function with every graph of at most 5 vertices, and with
// its edges in the other direction and order.
func smallGraphs(call func(n int, lines []api.Line)) {
	for n := 1; n <= 5; n++ {
		all := everyPair(n)
		for mask := range 1 << len(all) {
			lines := []api.Line{}
			for i, line := range all {
				if mask>>i&1 == 1 {
					lines = append(lines, line)
				}
			}
			call(n, lines)
			call(n, turned(lines))
		}
	}
}

// mixedGraphs calls a function with graphs of all sizes, whose edges are in no
// order, go both ways and may be parallel; many of them have few edges.
func mixedGraphs(call func(n int, lines []api.Line)) {
	below := mixer()
	for range 6000 {
		n := 2 + below(api.MaxPts-1)
		lines := []api.Line{}
		for range below(1 + min(api.MaxLines, n+below(api.MaxLines))) {
			a := below(n)
			lines = append(lines, api.Line{A: a, B: (a + 1 + below(n-1)) % n})
		}
		call(n, lines)
	}
}

// ringGraphs calls a function with cycles of all lengths, whose vertices are
// renumbered, with a few more edges.
func ringGraphs(call func(n int, lines []api.Line)) {
	below := mixer()
	for length := 3; length <= api.MaxPts; length++ {
		for range 200 {
			vertices := []int{}
			for v := range api.MaxPts {
				vertices = slices.Insert(vertices, below(v+1), v)
			}
			lines := ring(vertices[:length]...)
			for range below(3) {
				a := below(api.MaxPts)
				lines = append(lines, api.Line{A: a, B: (a + 1 + below(api.MaxPts-1)) % api.MaxPts})
			}
			call(api.MaxPts, lines)
			call(api.MaxPts, turned(lines))
		}
	}
}

// everyGraph calls a function with all the graphs above.
func everyGraph(call func(n int, lines []api.Line)) {
	smallGraphs(call)
	mixedGraphs(call)
	ringGraphs(call)
}

// distancesOf returns the distances of all pairs of vertices, -1 where there is no
// path: they are shortened edge by edge until no edge shortens one.
func distancesOf(n int, lines []api.Line) [][]int {
	const far = 100
	table := make([][]int, n)
	for v := range table {
		table[v] = slices.Repeat([]int{far}, n)
		table[v][v] = 0
	}
	for range n {
		for _, row := range table {
			for _, line := range lines {
				row[line.A] = min(row[line.A], row[line.B]+1)
				row[line.B] = min(row[line.B], row[line.A]+1)
			}
		}
	}
	for _, row := range table {
		for v := range row {
			if row[v] >= far {
				row[v] = -1
			}
		}
	}
	return table
}

// partsOf joins the parts at the ends of each edge, under the smaller name.
func partsOf(n int, lines []api.Line) []int {
	parts := make([]int, n)
	for v := range parts {
		parts[v] = v
	}
	for _, line := range lines {
		a, b := parts[line.A], parts[line.B]
		for v := range parts {
			if parts[v] == a || parts[v] == b {
				parts[v] = min(a, b)
			}
		}
	}
	return parts
}

// ringOf is the definition of the girth: it tries all lists of different vertices,
// each adjacent to the next one, and takes those whose ends are adjacent.
func ringOf(n int, lines []api.Line) int {
	var adjacent [api.MaxPts][api.MaxPts]bool
	for _, line := range lines {
		adjacent[line.A][line.B] = true
		adjacent[line.B][line.A] = true
	}
	girth := 0
	var extend func(list []int)
	extend = func(list []int) {
		last := list[len(list)-1]
		if len(list) >= 3 && adjacent[last][list[0]] && (girth == 0 || len(list) < girth) {
			girth = len(list)
		}
		for v := range n {
			if adjacent[last][v] && !slices.Contains(list, v) {
				extend(append(slices.Clone(list), v))
			}
		}
	}
	for v := range n {
		extend([]int{v})
	}
	return girth
}

// expectFrom compares From with distances, or with an error and no distances.
func expectFrom(t *testing.T, n int, lines []api.Line, from int, want []int, wantErr api.Errno) {
	t.Helper()
	got, err := walk.From(n, lines, from)
	if plain.Told(err) != wantErr || !slices.Equal(got, want) {
		t.Errorf("From(%d, %v, %d) = %v, %v, want %v, %v", n, lines, from, got, err, want, wantErr)
	}
}

// expectParts compares Parts with vertices, or with an error and no vertices.
func expectParts(t *testing.T, n int, lines []api.Line, want []int, wantErr api.Errno) {
	t.Helper()
	got, err := walk.Parts(n, lines)
	if plain.Told(err) != wantErr || !slices.Equal(got, want) {
		t.Errorf("Parts(%d, %v) = %v, %v, want %v, %v", n, lines, got, err, want, wantErr)
	}
}

// expectRing compares Ring with a girth, or with an error and 0.
func expectRing(t *testing.T, n int, lines []api.Line, want int, wantErr api.Errno) {
	t.Helper()
	got, err := walk.Ring(n, lines)
	if plain.Told(err) != wantErr || got != want {
		t.Errorf("Ring(%d, %v) = %v, %v, want %v, %v", n, lines, got, err, want, wantErr)
	}
}

// TestFrom covers R6.1.
func TestFrom(t *testing.T) {
	for _, c := range []struct {
		n     int
		lines []api.Line
		from  int
		want  []int
	}{
		{1, nil, 0, []int{0}},
		{1, edges(), 0, []int{0}},
		{2, nil, 0, []int{0, -1}},
		{2, nil, 1, []int{-1, 0}},
		{2, edges(0, 1), 0, []int{0, 1}},
		{2, edges(0, 1), 1, []int{1, 0}}, // edges go both ways
		{3, edges(0, 1, 1, 2), 0, []int{0, 1, 2}},
		{3, edges(0, 1, 1, 2), 1, []int{1, 0, 1}},
		{3, edges(0, 1, 1, 2), 2, []int{2, 1, 0}},
		{3, edges(0, 1, 1, 2, 2, 0), 0, []int{0, 1, 1}},
		{3, edges(0, 1, 1, 0, 0, 1), 1, []int{1, 0, -1}},
		{4, edges(2, 3), 0, []int{0, -1, -1, -1}},
		{4, edges(2, 3), 3, []int{-1, -1, 1, 0}},
		{5, path(0, 1, 2, 3, 0, 4), 2, []int{2, 1, 0, 1, 3}},
		{5, path(4, 3, 2, 1, 0, 4), 0, []int{0, 1, 2, 2, 1}},
		{8, path(7, 6, 5, 4, 3, 2, 1, 0), 7, []int{7, 6, 5, 4, 3, 2, 1, 0}},
		{8, path(3, 1, 7, 0, 5, 2, 6, 4), 3, []int{3, 1, 5, 0, 7, 4, 6, 2}},
		{8, ring(0, 1, 2, 3, 4, 5, 6, 7), 6, []int{2, 3, 4, 3, 2, 1, 0, 1}},
		{8, everyPair(8)[:24], 7, []int{1, 1, 1, 1, 2, 2, 2, 0}},
		{2, slices.Repeat(edges(1, 0), 24), 0, []int{0, 1}},
	} {
		expectFrom(t, c.n, c.lines, c.from, c.want, api.OK)
	}
	everyGraph(func(n int, lines []api.Line) {
		for from, want := range distancesOf(n, lines) {
			expectFrom(t, n, lines, from, want, api.OK)
		}
		expectFrom(t, n, lines, -1, nil, api.ErrRange)
		expectFrom(t, n, lines, n, nil, api.ErrRange)
	})
}

// TestFromErrors covers the errors of R6.1 beside those of graph.Check, which come
// first.
func TestFromErrors(t *testing.T) {
	for _, c := range []struct {
		n     int
		lines []api.Line
		from  int
		want  api.Errno
	}{
		{3, edges(0, 1, 1, 2), 3, api.ErrRange},
		{3, edges(0, 1, 1, 2), -1, api.ErrRange},
		{1, nil, 1, api.ErrRange},
		{8, nil, 8, api.ErrRange},
		{8, nil, math.MinInt, api.ErrRange},
		{8, nil, math.MaxInt, api.ErrRange},
		{8, nil, 1 << 32, api.ErrRange},
		{3, edges(1, 1), 3, api.ErrShape},
		{3, edges(1, 1), -1, api.ErrShape},
		{3, edges(1, 1), 0, api.ErrShape},
		{3, edges(0, 3), 3, api.ErrRange},
		{3, slices.Repeat(edges(0, 1), 25), 3, api.ErrFull},
		{3, slices.Repeat(edges(0, 1), 25), 0, api.ErrFull},
		{0, nil, 0, api.ErrRange},
		{0, edges(1, 1), 1, api.ErrRange},
	} {
		expectFrom(t, c.n, c.lines, c.from, nil, c.want)
	}
}

// TestParts covers R6.2.
func TestParts(t *testing.T) {
	for _, c := range []struct {
		n     int
		lines []api.Line
		want  []int
	}{
		{1, nil, []int{0}},
		{1, edges(), []int{0}},
		{3, nil, []int{0, 1, 2}},
		{8, nil, []int{0, 1, 2, 3, 4, 5, 6, 7}},
		{3, edges(1, 2), []int{0, 1, 1}},
		{3, edges(2, 1), []int{0, 1, 1}},
		{3, edges(2, 0), []int{0, 1, 0}},
		{3, edges(2, 1, 2, 0), []int{0, 0, 0}},
		{4, edges(3, 0, 2, 1), []int{0, 1, 1, 0}},
		{5, edges(4, 2, 3, 1, 4, 3), []int{0, 1, 1, 1, 1}},
		{8, edges(7, 6, 5, 4, 3, 2, 1, 0), []int{0, 0, 2, 2, 4, 4, 6, 6}},
		{8, path(7, 5, 3, 1), []int{0, 1, 2, 1, 4, 1, 6, 1}},
		{8, path(1, 7, 2, 6, 3, 5, 4, 0), []int{0, 0, 0, 0, 0, 0, 0, 0}},
		{3, slices.Repeat(edges(2, 1), 24), []int{0, 1, 1}},
	} {
		expectParts(t, c.n, c.lines, c.want, api.OK)
	}
	everyGraph(func(n int, lines []api.Line) {
		expectParts(t, n, lines, partsOf(n, lines), api.OK)
	})
}

// TestRing covers R6.3: parallel edges are no cycle, and of several cycles the
// shortest counts.
func TestRing(t *testing.T) {
	for _, c := range []struct {
		n     int
		lines []api.Line
		want  int
	}{
		{1, nil, 0},
		{8, edges(), 0},
		{2, edges(0, 1), 0},
		{2, edges(0, 1, 0, 1), 0},
		{2, edges(0, 1, 1, 0), 0},
		{2, slices.Repeat(edges(0, 1), 24), 0},
		{3, edges(0, 1, 1, 2), 0},
		{3, edges(0, 1, 1, 2, 2, 1, 1, 0), 0},
		{3, ring(0, 1, 2), 3},
		{3, edges(2, 0, 1, 0, 2, 1), 3},
		{3, append(ring(0, 1, 2), ring(2, 1, 0)...), 3},
		{4, ring(0, 1, 2, 3), 4},
		{4, append(ring(0, 1, 2, 3), edges(1, 0, 3, 2)...), 4},
		{4, append(ring(0, 1, 2, 3), edges(2, 0)...), 3},
		{4, everyPair(4), 3},
		{5, ring(0, 3, 1, 4, 2), 5},
		{6, edges(0, 3, 0, 4, 0, 5, 1, 3, 1, 4, 1, 5, 2, 3, 2, 4, 2, 5), 4},
		{6, append(ring(0, 1, 2, 3, 4, 5), edges(0, 3)...), 4},
		{7, append(ring(0, 1, 2), ring(3, 4, 5, 6)...), 3},
		{7, append(ring(0, 1, 2, 3), ring(4, 5, 6)...), 3},
		{7, append(ring(0, 1, 2, 3, 4), path(0, 5, 6)...), 5},
		{8, append(ring(2, 3, 4, 5, 6, 7), path(0, 1, 2)...), 6},
		{8, append(ring(0, 1, 2, 3, 4, 5, 6, 7), edges(0, 4)...), 5},
		{8, path(0, 1, 2, 3, 4, 5, 6, 7), 0},
		{8, ring(0, 1, 2, 3, 4, 5, 6), 7},
		{8, ring(0, 1, 2, 3, 4, 5, 6, 7), 8},
		{8, everyPair(8)[:24], 3},
	} {
		expectRing(t, c.n, c.lines, c.want, api.OK)
	}
	found := map[int]bool{}
	everyGraph(func(n int, lines []api.Line) {
		want := ringOf(n, lines)
		found[want] = true
		expectRing(t, n, lines, want, api.OK)
	})
	if len(found) != 7 {
		t.Errorf("the girths found are %v, not 0 and 3 to 8", found)
	}
}

// expectErrors compares the errors of all functions, and that of graph.Check, with
// one error; that of From for every vertex from which to start.
func expectErrors(t *testing.T, n int, lines []api.Line, want api.Errno) {
	t.Helper()
	if err := graph.Check(n, lines); plain.Told(err) != want {
		t.Errorf("Check(%d, %v) = %v, want %v", n, lines, err, want)
	}
	for _, from := range []int{math.MinInt, -1, 0, 1, n - 1, n, 8, math.MaxInt} {
		expectFrom(t, n, lines, from, nil, want)
	}
	expectParts(t, n, lines, nil, want)
	expectRing(t, n, lines, 0, want)
}

// TestErrors covers the errors of graph.Check in R6.1 to R6.3, and their order.
func TestErrors(t *testing.T) {
	for _, c := range []struct {
		n     int
		lines []api.Line
		want  api.Errno
	}{
		{0, nil, api.ErrRange},
		{-1, nil, api.ErrRange},
		{9, nil, api.ErrRange},
		{1<<32 + 1, nil, api.ErrRange},
		{math.MinInt, nil, api.ErrRange},
		{math.MaxInt, nil, api.ErrRange},
		{0, slices.Repeat(edges(0, 1), 25), api.ErrRange},
		{9, edges(1, 1), api.ErrRange},
		{2, slices.Repeat(edges(0, 1), 25), api.ErrFull},
		{8, everyPair(8), api.ErrFull},
		{3, slices.Repeat(edges(1, 1), 25), api.ErrFull},
		{3, slices.Repeat(edges(0, 3), 25), api.ErrFull},
		{3, edges(0, 3), api.ErrRange},
		{3, edges(3, 0), api.ErrRange},
		{3, edges(0, -1), api.ErrRange},
		{3, edges(-1, 0), api.ErrRange},
		{3, edges(3, 3), api.ErrRange},
		{8, edges(0, math.MaxInt), api.ErrRange},
		{8, edges(math.MinInt, 0), api.ErrRange},
		{1, edges(0, 0), api.ErrShape},
		{3, edges(0, 1, 1, 2, 2, 2), api.ErrShape},
		{3, edges(0, 1, 1, 1, 0, 3), api.ErrShape},
		{3, edges(0, 1, 0, 3, 1, 1), api.ErrRange},
	} {
		expectErrors(t, c.n, c.lines, c.want)
	}
}

// TestNoAliasing covers Z2: the edges and the memory behind them stay as they are,
// and a later result does not depend on what became of an earlier one.
func TestNoAliasing(t *testing.T) {
	calls := map[string]func(lines []api.Line) ([]int, error){
		"From":  func(lines []api.Line) ([]int, error) { return walk.From(4, lines, 1) },
		"Parts": func(lines []api.Line) ([]int, error) { return walk.Parts(4, lines) },
		"Ring": func(lines []api.Line) ([]int, error) {
			girth, err := walk.Ring(4, lines)
			return []int{girth}, err
		},
	}
	for _, lines := range [][]api.Line{
		{}, edges(3, 1), ring(3, 1, 2), ring(0, 1, 2, 3), everyPair(4), slices.Repeat(edges(2, 3), 24),
		edges(1, 1), edges(0, 4), slices.Repeat(edges(2, 3), 25),
	} {
		for name, call := range calls {
			memory := append(slices.Clone(lines), edges(7, 7, 7, 7, 7, 7, 7, 7)...)
			argument := memory[:len(lines)]
			kept := slices.Clone(memory)
			first, firstErr := call(argument)
			if !slices.Equal(memory, kept) {
				t.Errorf("%s of %v changes its argument", name, lines)
			}
			want := slices.Clone(first)
			for i := range first {
				first[i] = 9
			}
			second, err := call(argument)
			if !slices.Equal(second, want) || plain.Told(err) != plain.Told(firstErr) {
				t.Errorf("%s of %v: first %v, %v, then %v, %v", name, lines, want, firstErr, second, err)
			}
		}
	}
}
