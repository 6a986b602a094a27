package span_test

import (
	"math"
	"slices"
	"testing"

	"brambleweir/api"
	"brambleweir/plain"
	"brambleweir/span"
)

// costs returns the edges of the given ends and costs.
func costs(numbers ...int) []api.Cost {
	lines := []api.Cost{}
	for i := 0; i+2 < len(numbers); i += 3 {
		lines = append(lines, api.Cost{A: numbers[i], B: numbers[i+1], Cost: numbers[i+2]})
	}
	return lines
}

// path returns edges of one cost between the vertices that follow each other.
func path(cost int, vertices ...int) []api.Cost {
	lines := []api.Cost{}
	for i := 1; i < len(vertices); i++ {
		lines = append(lines, api.Cost{A: vertices[i-1], B: vertices[i], Cost: cost})
	}
	return lines
}

// ring returns edges of one cost that form the cycle of the vertices.
func ring(cost int, vertices ...int) []api.Cost {
	return append(path(cost, vertices...), costs(vertices[len(vertices)-1], vertices[0], cost)...)
}

// joined returns all the edges of the lists.
func joined(lists ...[]api.Cost) []api.Cost {
	return slices.Concat(lists...)
}

// swapped returns the edges in the same order, with their ends swapped.
func swapped(lines []api.Cost) []api.Cost {
	out := []api.Cost{}
	for _, line := range lines {
		out = append(out, api.Cost{A: line.B, B: line.A, Cost: line.Cost})
	}
	return out
}

// mixer returns a function of which each call gives the next number below its
// argument of a fixed sequence without visible order.
func mixer() func(below int) int {
	state := uint64(88172645463325252)
	return func(below int) int {
		state ^= state << 13
		state ^= state >> 7
		state ^= state << 17
		return int(state>>11) % below
	}
}

// drawn returns edges between vertices of no order, with costs up to the given one.
func drawn(below func(int) int, n, count, most int) []api.Cost {
	lines := []api.Cost{}
	for range count {
		a := below(n)
		b := (a + 1 + below(n-1)) % n
		lines = append(lines, api.Cost{A: a, B: b, Cost: below(most + 1)})
	}
	return lines
}

// everyList calls a function with every list of at most the given number of edges that
// can be formed of the choices.
func everyList(choices []api.Cost, most int, call func(lines []api.Cost)) {
	var grow func(lines []api.Cost)
	grow = func(lines []api.Cost) {
		call(slices.Clone(lines))
		if len(lines) == most {
			return
		}
		for _, line := range choices {
			grow(append(lines, line))
		}
	}
	grow(nil)
}

// everyEdge returns each possible edge with each cost up to the given one.
func everyEdge(n, most int) []api.Cost {
	lines := []api.Cost{}
	for a := range n {
		for b := range n {
			for cost := 0; cost <= most && a != b; cost++ {
				lines = append(lines, api.Cost{A: a, B: b, Cost: cost})
			}
		}
	}
	return lines
}

// reachOf tells which vertices are connected by the edges that are used: each vertex in
// turn may be passed on the way.
func reachOf(n int, lines []api.Cost, used func(i int) bool) [][]bool {
	reach := make([][]bool, n)
	for v := range reach {
		reach[v] = make([]bool, n)
		reach[v][v] = true
	}
	for i, line := range lines {
		if used(i) {
			reach[line.A][line.B], reach[line.B][line.A] = true, true
		}
	}
	for by := range n {
		for a := range n {
			for b := range n {
				reach[a][b] = reach[a][b] || reach[a][by] && reach[by][b]
			}
		}
	}
	return reach
}

// isWhole tells whether all vertices are connected with vertex 0.
func isWhole(reach [][]bool) bool {
	return !slices.Contains(reach[0], false)
}

// leastOf is the definition of Least: an edge is taken if no edges that are considered
// before it connect its vertices.
func leastOf(n int, lines []api.Cost) ([]bool, int, api.Errno) {
	taken, total := []bool{}, 0
	for i, line := range lines {
		before := func(j int) bool {
			return lines[j].Cost < line.Cost || lines[j].Cost == line.Cost && j < i
		}
		is := !reachOf(n, lines, before)[line.A][line.B]
		taken = append(taken, is)
		if is {
			total += line.Cost
		}
	}
	if !isWhole(reachOf(n, lines, func(int) bool { return true })) {
		return nil, 0, api.ErrNone
	}
	return taken, total, api.OK
}

// neckOf is the definition of Neck.
func neckOf(n int, lines []api.Cost, a, b int) (int, api.Errno) {
	if a == b {
		return 0, api.OK
	}
	for c := 0; c <= api.MaxCost; c++ {
		if reachOf(n, lines, func(i int) bool { return lines[i].Cost <= c })[a][b] {
			return c, api.OK
		}
	}
	return 0, api.ErrNone
}

// cheapestOf returns the least cost of any choice of edges that connects all vertices.
func cheapestOf(n int, lines []api.Cost) int {
	cheapest := math.MaxInt
	for choice := range 1 << len(lines) {
		chosen := func(i int) bool { return choice>>i&1 == 1 }
		total := 0
		for i, line := range lines {
			if chosen(i) {
				total += line.Cost
			}
		}
		if total < cheapest && isWhole(reachOf(n, lines, chosen)) {
			cheapest = total
		}
	}
	return cheapest
}

// expectCheck compares Check with an error, or with none.
func expectCheck(t *testing.T, n int, lines []api.Cost, want api.Errno) {
	t.Helper()
	if err := span.Check(n, lines); plain.Told(err) != want {
		t.Errorf("Check(%d, %v) = %v, want %v", n, lines, err, want)
	}
}

// expectLeast compares Least with the edges that are taken and their cost, or with an
// error and none.
func expectLeast(t *testing.T, n int, lines []api.Cost, want []bool, wantTotal int, wantErr api.Errno) {
	t.Helper()
	got, total, err := span.Least(n, lines)
	if plain.Told(err) != wantErr || !slices.Equal(got, want) || total != wantTotal {
		t.Errorf("Least(%d, %v) = %v, %d, %v, want %v, %d, %v",
			n, lines, got, total, err, want, wantTotal, wantErr)
	}
}

// expectNeck compares Neck with a cost, or with an error and 0.
func expectNeck(t *testing.T, n int, lines []api.Cost, a, b int, want int, wantErr api.Errno) {
	t.Helper()
	got, err := span.Neck(n, lines, a, b)
	if plain.Told(err) != wantErr || got != want {
		t.Errorf("Neck(%d, %v, %d, %d) = %d, %v, want %d, %v", n, lines, a, b, got, err, want, wantErr)
	}
}

// expectErrors compares the errors of all functions for a graph that has one itself.
func expectErrors(t *testing.T, n int, lines []api.Cost, want api.Errno) {
	t.Helper()
	expectCheck(t, n, lines, want)
	expectLeast(t, n, lines, nil, 0, want)
	// Numbers that are no vertices are found later, and so is that there is no path.
	for _, v := range []int{0, 1, -1, n, math.MinInt, math.MaxInt} {
		expectNeck(t, n, lines, v, 0, 0, want)
		expectNeck(t, n, lines, 0, v, 0, want)
		expectNeck(t, n, lines, v, v, 0, want)
	}
}

// marked returns the choice of edges for a text of a dot for each edge that is not
// taken and another sign for each that is.
func marked(text string) []bool {
	taken := []bool{}
	for _, sign := range []byte(text) {
		taken = append(taken, sign != '.')
	}
	return taken
}

// TestCheck covers R22.1 for graphs without errors.
func TestCheck(t *testing.T) {
	for _, c := range []struct {
		n     int
		lines []api.Cost
	}{
		{1, nil},
		{1, costs()},
		{2, nil},
		{8, nil},
		{2, costs(0, 1, 0)},
		{2, costs(1, 0, 20)},
		{2, costs(0, 1, 3, 0, 1, 3, 1, 0, 3)},
		{3, costs(2, 0, 20, 0, 1, 0)},
		{8, costs(7, 0, 20, 0, 7, 0)},
		{2, slices.Repeat(costs(0, 1, 20), 24)},
		{8, slices.Repeat(costs(7, 6, 0), 24)},
		{8, joined(ring(0, 0, 1, 2, 3, 4, 5, 6, 7), ring(10, 0, 2, 4, 6, 1, 3, 5, 7), path(20, 0, 3, 6, 4, 2, 7, 1, 5, 0))},
	} {
		expectCheck(t, c.n, c.lines, api.OK)
	}
}

// TestErrors covers the errors of R22.1 and their order, and that R22.2 and R22.3 have
// them before their own.
func TestErrors(t *testing.T) {
	for _, c := range []struct {
		n     int
		lines []api.Cost
		want  api.Errno
	}{
		{0, nil, api.ErrRange},
		{-1, nil, api.ErrRange},
		{9, nil, api.ErrRange},
		{9, path(1, 0, 1, 2, 3, 4, 5, 6, 7, 8), api.ErrRange},
		{1<<32 + 1, nil, api.ErrRange},
		{1<<32 + 2, costs(0, 1, 1), api.ErrRange},
		{math.MinInt, nil, api.ErrRange},
		{math.MaxInt, nil, api.ErrRange},
		{0, slices.Repeat(costs(0, 1, 1), 25), api.ErrRange},
		{9, slices.Repeat(costs(0, 1, 1), 25), api.ErrRange},
		{9, costs(1, 1, 1), api.ErrRange},
		// The number of edges comes before each of them.
		{2, slices.Repeat(costs(0, 1, 1), 25), api.ErrFull},
		{1, slices.Repeat(costs(0, 0, 1), 25), api.ErrFull},
		{2, slices.Repeat(costs(0, 1, 21), 25), api.ErrFull},
		{2, slices.Repeat(costs(0, 2, 1), 25), api.ErrFull},
		{8, slices.Repeat(costs(0, 1, 1), 100), api.ErrFull},
		// An end is not a vertex.
		{1, costs(0, 1, 1), api.ErrRange},
		{1, costs(1, 0, 1), api.ErrRange},
		{2, costs(0, 2, 1), api.ErrRange},
		{2, costs(2, 0, 1), api.ErrRange},
		{2, costs(0, -1, 1), api.ErrRange},
		{2, costs(-1, 0, 1), api.ErrRange},
		{8, costs(0, 8, 1), api.ErrRange},
		{8, costs(8, 0, 1), api.ErrRange},
		{2, costs(0, math.MaxInt, 1), api.ErrRange},
		{2, costs(math.MinInt, 1, 1), api.ErrRange},
		{2, costs(0, 1<<32+1, 1), api.ErrRange},
		// The cost is out of its range.
		{2, costs(0, 1, 21), api.ErrRange},
		{2, costs(0, 1, -1), api.ErrRange},
		{2, costs(0, 1, math.MaxInt), api.ErrRange},
		{2, costs(0, 1, math.MinInt), api.ErrRange},
		{2, costs(0, 1, 1<<32), api.ErrRange},
		// The ends are the same vertex.
		{1, costs(0, 0, 0), api.ErrShape},
		{2, costs(1, 1, 20), api.ErrShape},
		{8, costs(7, 7, 1), api.ErrShape},
		// The range is checked before the shape of the same edge.
		{2, costs(2, 2, 1), api.ErrRange},
		{2, costs(-1, -1, 1), api.ErrRange},
		{2, costs(1, 1, 21), api.ErrRange},
		{2, costs(1, 1, -1), api.ErrRange},
		// The first wrong edge decides.
		{3, costs(1, 1, 1, 0, 3, 1), api.ErrShape},
		{3, costs(1, 1, 1, 0, 1, 21), api.ErrShape},
		{3, costs(0, 3, 1, 1, 1, 1), api.ErrRange},
		{3, costs(0, 1, -1, 1, 1, 1), api.ErrRange},
		{3, joined(path(1, 0, 1, 2), costs(2, 2, 1)), api.ErrShape},
		{3, joined(path(1, 0, 1, 2), costs(2, 0, 21)), api.ErrRange},
		{8, joined(slices.Repeat(costs(0, 1, 1), 23), costs(0, 0, 1)), api.ErrShape},
		{8, joined(slices.Repeat(costs(0, 1, 1), 23), costs(0, 8, 1)), api.ErrRange},
	} {
		expectErrors(t, c.n, c.lines, c.want)
	}
}

// TestLeast covers R22.2; an x stands for an edge that is taken.
func TestLeast(t *testing.T) {
	for _, c := range []struct {
		n     int
		lines []api.Cost
		want  string
		total int
	}{
		// The example of the document.
		{2, costs(0, 1, 2, 0, 1, 1), ".x", 1},
		{1, nil, "", 0},
		{2, costs(0, 1, 7), "x", 7},
		{2, costs(0, 1, 0), "x", 0},
		{2, costs(0, 1, 20), "x", 20},
		// Of parallel edges of equal cost, the first one is taken, whatever its direction.
		{2, costs(0, 1, 1, 0, 1, 1), "x.", 1},
		{2, costs(0, 1, 1, 1, 0, 1), "x.", 1},
		{2, costs(0, 1, 1, 1, 0, 0), ".x", 0},
		{2, costs(0, 1, 3, 0, 1, 2, 0, 1, 2, 0, 1, 4), ".x..", 2},
		{2, slices.Repeat(costs(0, 1, 20), 24), "x.......................", 20},
		{3, costs(0, 1, 3, 1, 2, 4, 2, 0, 5), "xx.", 7},
		{3, costs(0, 1, 5, 1, 2, 4, 2, 0, 3), ".xx", 7},
		{3, costs(0, 1, 3, 1, 2, 5, 2, 0, 4), "x.x", 7},
		// Equal costs are considered in the given order.
		{3, ring(2, 0, 1, 2), "xx.", 4},
		{3, ring(2, 2, 1, 0), "xx.", 4},
		{3, costs(0, 1, 2, 1, 2, 1, 2, 0, 2), "xx.", 3},
		{3, costs(0, 1, 2, 1, 2, 2, 2, 0, 1), "x.x", 3},
		{4, ring(0, 3, 1, 0, 2), "xxx.", 0},
		{8, joined(ring(9, 0, 1, 2, 3, 4, 5, 6, 7), ring(9, 0, 2, 4, 6, 1, 3, 5, 7)), "xxxxxxx.........", 63},
		// A cheap edge is not taken if cheaper ones connect its vertices already.
		{4, costs(0, 1, 1, 1, 2, 1, 0, 2, 2, 2, 3, 20), "xx.x", 22},
		// Two components of more vertices are joined.
		{4, costs(0, 1, 1, 2, 3, 1, 1, 2, 5, 3, 0, 4), "xx.x", 6},
		{6, joined(ring(1, 0, 2, 4), ring(2, 1, 3, 5), costs(4, 5, 8, 0, 1, 7, 2, 3, 9)), "xx.xx..x.", 13},
		{8, path(20, 0, 1, 2, 3, 4, 5, 6, 7), "xxxxxxx", 140},
		{8, joined(path(20, 0, 1, 2, 3, 4, 5, 6, 7), path(0, 7, 6, 5, 4, 3, 2, 1, 0)), ".......xxxxxxx", 0},
	} {
		expectLeast(t, c.n, c.lines, marked(c.want), c.total, api.OK)
		expectLeast(t, c.n, swapped(c.lines), marked(c.want), c.total, api.OK)
	}
}

// TestLeastNone covers the ErrNone of R22.2.
func TestLeastNone(t *testing.T) {
	for _, c := range []struct {
		n     int
		lines []api.Cost
	}{
		{2, nil},
		{8, nil},
		{3, costs(0, 1, 1)},
		{3, costs(2, 1, 0)},
		// There are as many edges as a tree has, and more.
		{3, costs(0, 1, 1, 0, 1, 2)},
		{3, slices.Repeat(costs(0, 2, 0), 24)},
		{4, ring(1, 0, 1, 2)},
		{4, ring(1, 1, 2, 3)},
		{4, costs(0, 1, 1, 2, 3, 1)},
		{8, ring(3, 0, 1, 2, 3, 4, 5, 6)},
		{8, ring(3, 1, 2, 3, 4, 5, 6, 7)},
		{8, joined(ring(3, 0, 2, 4, 6), ring(3, 1, 3, 5, 7))},
	} {
		expectLeast(t, c.n, c.lines, nil, 0, api.ErrNone)
	}
}

// TestNeck covers R22.3 from a to b and back.
func TestNeck(t *testing.T) {
	apart := joined(ring(3, 0, 2, 4, 6), path(5, 1, 3, 5))
	bridged := joined(ring(1, 0, 1, 2), costs(2, 3, 9), ring(2, 3, 4, 5), costs(5, 6, 0))
	for _, c := range []struct {
		n       int
		lines   []api.Cost
		a, b    int
		want    int
		wantErr api.Errno
	}{
		{2, costs(0, 1, 2, 0, 1, 1), 0, 1, 1, api.OK},
		{2, costs(0, 1, 0), 0, 1, 0, api.OK},
		{2, costs(0, 1, 20), 0, 1, 20, api.OK},
		// There is no way, and none is needed.
		{2, nil, 0, 1, 0, api.ErrNone},
		{2, nil, 0, 0, 0, api.OK},
		{2, nil, 1, 1, 0, api.OK},
		{1, nil, 0, 0, 0, api.OK},
		{2, costs(0, 1, 5), 0, 0, 0, api.OK},
		{2, costs(0, 1, 5), 1, 1, 0, api.OK},
		{8, apart, 7, 7, 0, api.OK},
		{8, apart, 7, 0, 0, api.ErrNone},
		{8, apart, 0, 1, 0, api.ErrNone},
		{8, apart, 0, 4, 3, api.OK},
		{8, apart, 1, 5, 5, api.OK},
		// A detour of cheap edges is better than one edge that costs more than each.
		{3, costs(0, 1, 3, 1, 2, 4, 2, 0, 5), 0, 2, 4, api.OK},
		{3, costs(0, 1, 3, 1, 2, 4, 2, 0, 5), 0, 1, 3, api.OK},
		{8, append(path(19, 0, 1, 2, 3, 4, 5, 6, 7), costs(0, 7, 20)...), 0, 7, 19, api.OK},
		// One edge is better than a detour with one that costs more.
		{4, costs(0, 1, 1, 1, 2, 6, 2, 3, 1, 0, 3, 5), 0, 3, 5, api.OK},
		{4, costs(0, 1, 1, 1, 2, 6, 2, 3, 1, 0, 3, 5), 1, 2, 5, api.OK},
		// Only the edges on the way matter.
		{7, bridged, 0, 2, 1, api.OK},
		{7, bridged, 3, 5, 2, api.OK},
		{7, bridged, 3, 6, 2, api.OK},
		{7, bridged, 5, 6, 0, api.OK},
		{7, bridged, 1, 4, 9, api.OK},
		{7, bridged, 0, 6, 9, api.OK},
	} {
		expectNeck(t, c.n, c.lines, c.a, c.b, c.want, c.wantErr)
		expectNeck(t, c.n, c.lines, c.b, c.a, c.want, c.wantErr)
		turned := swapped(c.lines)
		slices.Reverse(turned)
		expectNeck(t, c.n, turned, c.a, c.b, c.want, c.wantErr)
	}
}

// TestVertexErrors covers the ErrRange of R22.3 for a and b that are not vertices, also
// if they are equal.
func TestVertexErrors(t *testing.T) {
	vertices := []int{0, 1, 2, 3, 4, 5, 6, 7}
	for n := 1; n <= api.MaxPts; n++ {
		for _, lines := range [][]api.Cost{nil, path(3, vertices[:n]...)} {
			for _, v := range []int{-1, n, n + 1, 8, math.MinInt, math.MaxInt, -1 << 32, 1 << 32} {
				expectNeck(t, n, lines, v, 0, 0, api.ErrRange)
				expectNeck(t, n, lines, 0, v, 0, api.ErrRange)
				expectNeck(t, n, lines, n-1, v, 0, api.ErrRange)
				expectNeck(t, n, lines, v, v, 0, api.ErrRange)
			}
		}
	}
}

// expectDefinitions compares all results for a graph with their definitions, and tells
// whether the graph is connected.
func expectDefinitions(t *testing.T, n int, lines []api.Cost) bool {
	t.Helper()
	expectCheck(t, n, lines, api.OK)
	taken, total, wantErr := leastOf(n, lines)
	expectLeast(t, n, lines, taken, total, wantErr)
	for a := range n {
		for b := range n {
			want, wantErr := neckOf(n, lines, a, b)
			expectNeck(t, n, lines, a, b, want, wantErr)
		}
	}
	return wantErr == api.OK
}

// TestSmallGraphs covers R22.1 to R22.3 with their definitions, for every list of a few
// edges on at most 4 vertices.
func TestSmallGraphs(t *testing.T) {
	for _, c := range []struct{ n, cost, edges int }{{1, 2, 2}, {2, 2, 3}, {3, 2, 3}, {4, 0, 4}} {
		everyList(everyEdge(c.n, c.cost), c.edges, func(lines []api.Cost) {
			expectDefinitions(t, c.n, lines)
		})
	}
}

// TestLargeGraphs covers R22.1 to R22.3 with their definitions, for graphs of more
// vertices and edges with few and with many different costs.
func TestLargeGraphs(t *testing.T) {
	below := mixer()
	whole, torn := 0, 0
	for n := 3; n <= api.MaxPts; n++ {
		for count := n - 1; count <= api.MaxLines; count++ {
			for _, most := range []int{0, 1, 2, 4, 9, api.MaxCost} {
				if expectDefinitions(t, n, drawn(below, n, count, most)) {
					whole++
				} else {
					torn++
				}
			}
		}
	}
	if min(whole, torn) < 50 {
		t.Errorf("%d graphs are connected, %d are not: too few of a kind", whole, torn)
	}
}

// TestLeastIsCheapest covers that the total cost of R22.2 is that of a minimum spanning
// tree.
func TestLeastIsCheapest(t *testing.T) {
	below := mixer()
	for n := 2; n <= 6; n++ {
		for range 30 {
			lines := drawn(below, n, 10, api.MaxCost)
			_, total, err := span.Least(n, lines)
			if err == nil && total != cheapestOf(n, lines) {
				t.Errorf("Least(%d, %v) takes edges of cost %d, want %d", n, lines, total, cheapestOf(n, lines))
			}
		}
	}
}

// TestNoAliasing covers Z2: the edges and the memory behind them stay as they are, with
// an error too, and a later result does not depend on what became of an earlier one.
func TestNoAliasing(t *testing.T) {
	for _, lines := range [][]api.Cost{
		{}, costs(0, 1, 3, 1, 2, 2, 2, 3, 1), ring(1, 3, 1, 0, 2), costs(3, 2, 9, 1, 0, 8),
		costs(3, 2, 9, 1, 0, 8, 2, 1, 7, 3, 0, 6), slices.Repeat(costs(3, 2, 1), 24),
		costs(3, 2, 9, 1, 1, 8), costs(3, 2, 9, 1, 4, 8), costs(3, 2, 9, 1, 0, 21),
		slices.Repeat(costs(3, 2, 1), 25),
	} {
		memory := joined(lines, costs(7, 7, 7, 7, 7, 7, 7, 7, 7))
		argument := memory[:len(lines)]
		kept := slices.Clone(memory)
		checked := plain.Told(span.Check(4, argument))
		taken, total, err := span.Least(4, argument)
		wantTaken := slices.Clone(taken)
		taken = taken[:cap(taken)]
		for i := range taken {
			taken[i] = !taken[i]
		}
		neck, neckErr := span.Neck(4, argument, 3, 1)
		if !slices.Equal(memory, kept) {
			t.Errorf("a call with %v changes its argument", lines)
		}
		expectCheck(t, 4, argument, checked)
		expectLeast(t, 4, argument, wantTaken, total, plain.Told(err))
		expectNeck(t, 4, argument, 3, 1, neck, plain.Told(neckErr))
	}
}
