package havel_test

import (
	"math"
	"slices"
	"testing"

	"brambleweir/api"
	"brambleweir/degree"
	"brambleweir/havel"
	"brambleweir/plain"
)

// edges returns the edges between the given pairs of vertices.
func edges(ends ...int) []api.Line {
	lines := []api.Line{}
	for i := 0; i+1 < len(ends); i += 2 {
		lines = append(lines, api.Line{A: ends[i], B: ends[i+1]})
	}
	return lines
}

// everyPair returns the edges of the complete graph, ordered by A and then by B.
func everyPair(n int) []api.Line {
	lines := []api.Line{}
	for a := range n {
		for b := a + 1; b < n; b++ {
			lines = append(lines, api.Line{A: a, B: b})
		}
	}
	return lines
}

// mixer returns a function of which each call gives the next number below its
// argument of a fixed sequence without visible order.
func mixer() func(below int) int {
	state := uint64(88172645463325252)
	return func(below int) int {
		state ^= state << 13
		state ^= state >> 7
		state ^= state << 17
		return int(state>>11) % below
	}
}

// everyList calls a function with every list of the given length of numbers up to most.
func everyList(length, most int, call func(l []int)) {
	l := make([]int, length)
	for {
		call(l)
		i := 0
		for i < length && l[i] == most {
			l[i] = 0
			i++
		}
		if i == length {
			return
		}
		l[i]++
	}
}

// neediest returns the first of the vertices with the largest demand among those
// that are not passed over, or -1 if none of them has a positive demand.
func neediest(demands []int, passed map[int]bool) int {
	found := -1
	for v, d := range demands {
		if !passed[v] && d > 0 && (found < 0 || d > demands[found]) {
			found = v
		}
	}
	return found
}

// construct follows the text of R5.1 vertex by vertex, and tells whether it comes
// to the end.
func construct(l []int) ([]api.Line, bool) {
	demands := slices.Clone(l)
	lines := []api.Line{}
	for {
		v := neediest(demands, nil)
		if v < 0 {
			return lines, true
		}
		passed := map[int]bool{v: true}
		for range demands[v] {
			w := neediest(demands, passed)
			if w < 0 {
				return nil, false
			}
			passed[w] = true
			lines = append(lines, api.Line{A: min(v, w), B: max(v, w)})
		}
		for w := range passed {
			demands[w]--
		}
		demands[v] = 0
	}
}

// expectMake compares Make with edges, or with an error and no edges.
func expectMake(t *testing.T, l []int, want []api.Line, wantErr api.Errno) {
	t.Helper()
	got, err := havel.Make(l)
	if plain.Told(err) != wantErr || !slices.Equal(got, want) {
		t.Errorf("Make(%v) = %v, %v, want %v, %v", l, got, err, want, wantErr)
	}
}

// TestMake covers R5.1: the edges, their order, and the ties.
func TestMake(t *testing.T) {
	for _, c := range []struct {
		l    []int
		want []api.Line
	}{
		{[]int{1, 1}, edges(0, 1)},
		{[]int{0}, nil},
		{[]int{0, 0}, nil},
		{slices.Repeat([]int{0}, 8), nil},
		{[]int{0, 1, 0, 1}, edges(1, 3)},
		{[]int{1, 1, 1, 1}, edges(0, 1, 2, 3)},
		{[]int{2, 2, 2}, edges(0, 1, 0, 2, 1, 2)},
		{[]int{2, 1, 1}, edges(0, 1, 0, 2)},
		{[]int{1, 2, 1}, edges(0, 1, 1, 2)},
		{[]int{1, 1, 2}, edges(0, 2, 1, 2)},
		{[]int{1, 1, 2, 2}, edges(2, 3, 0, 2, 1, 3)},
		{[]int{1, 2, 2, 3}, edges(1, 3, 2, 3, 0, 3, 1, 2)},
		{[]int{2, 2, 2, 2}, edges(0, 1, 0, 2, 1, 3, 2, 3)},
		{slices.Repeat([]int{2}, 5), edges(0, 1, 0, 2, 3, 4, 1, 3, 2, 4)},
		{[]int{3, 3, 2, 2, 2}, edges(0, 1, 0, 2, 0, 3, 1, 4, 1, 2, 3, 4)},
		{[]int{4, 1, 2, 3, 4, 5, 6, 7}, edges(6, 7, 5, 7, 0, 7, 4, 7, 3, 7, 2, 7, 1, 7,
			5, 6, 0, 6, 4, 6, 3, 6, 2, 6, 0, 5, 4, 5, 3, 5, 0, 4)},
		{[]int{7, 1, 1, 1, 1, 1, 1, 1}, edges(0, 1, 0, 2, 0, 3, 0, 4, 0, 5, 0, 6, 0, 7)},
		{[]int{1, 1, 1, 1, 1, 1, 1, 7}, edges(0, 7, 1, 7, 2, 7, 3, 7, 4, 7, 5, 7, 6, 7)},
		{slices.Repeat([]int{6}, 7), everyPair(7)},
		{slices.Repeat([]int{7}, 8), everyPair(8)}, // 28 edges: MaxLines is no limit of this section
	} {
		expectMake(t, c.l, c.want, api.OK)
	}
}

// TestMakeErrors covers the errors of R5.1 and their order.
func TestMakeErrors(t *testing.T) {
	for _, c := range []struct {
		l    []int
		want api.Errno
	}{
		{nil, api.ErrNone},
		{[]int{}, api.ErrNone},
		{make([]int, 0, 9), api.ErrNone},
		{slices.Repeat([]int{0}, 9), api.ErrFull},
		{slices.Repeat([]int{1}, 10), api.ErrFull},
		{make([]int, 100_000), api.ErrFull},
		{slices.Repeat([]int{8}, 9), api.ErrFull},
		{slices.Repeat([]int{-1}, 9), api.ErrFull},
		{[]int{-1}, api.ErrRange},
		{[]int{8}, api.ErrRange},
		{[]int{8, 8}, api.ErrRange},
		{[]int{1, 1, -1}, api.ErrRange},
		{[]int{1, -1}, api.ErrRange},
		{[]int{0, 0, 0, 0, 0, 0, 0, 8}, api.ErrRange},
		{[]int{1, 0, 8}, api.ErrRange}, // not graphical either
		{[]int{math.MinInt}, api.ErrRange},
		{[]int{math.MaxInt, math.MaxInt}, api.ErrRange},
		{[]int{1<<32 + 1, 1}, api.ErrRange},
		{[]int{1}, api.ErrNone},
		{[]int{7}, api.ErrNone},
		{[]int{1, 0}, api.ErrNone},
		{[]int{0, 1}, api.ErrNone},
		{[]int{2, 2}, api.ErrNone},
		{[]int{3, 1, 1}, api.ErrNone},
		{[]int{2, 1, 0}, api.ErrNone},
		{[]int{1, 1, 1}, api.ErrNone},    // at the second step
		{[]int{3, 3, 1, 1}, api.ErrNone}, // at the second step
		{[]int{0, 1, 2, 3, 4, 5, 6, 7}, api.ErrNone},
		{slices.Repeat([]int{7}, 7), api.ErrNone},
		{slices.Repeat([]int{3}, 7), api.ErrNone}, // at the last step
	} {
		expectMake(t, c.l, nil, c.want)
	}
}

// compare compares Make with the text of R5.1 and with what the degrees promise: a
// graph without parallel edges that has them, if there is one.
func compare(t *testing.T, l []int) {
	t.Helper()
	want, ends := construct(l)
	if can, err := degree.Can(l); can != ends || err != nil {
		t.Errorf("Can(%v) = %v, %v, but whether the construction ends: %v", l, can, err, ends)
	}
	if !ends {
		expectMake(t, l, nil, api.ErrNone)
		return
	}
	expectMake(t, l, want, api.OK)
	degrees := make([]int, len(l))
	joined := map[api.Line]bool{}
	for _, line := range want {
		degrees[line.A]++
		degrees[line.B]++
		if joined[line] || line.A >= line.B {
			t.Errorf("Make(%v) has the edge %v twice or the wrong way", l, line)
		}
		joined[line] = true
	}
	if !slices.Equal(degrees, l) {
		t.Errorf("Make(%v) has the degrees %v", l, degrees)
	}
}

// TestMakeEveryList covers R5.1 for every valid list of at most 4 elements and every
// list of 5 or 6 whose elements can be degrees.
func TestMakeEveryList(t *testing.T) {
	for length := 1; length <= 6; length++ {
		most := api.MaxDeg
		if length > 4 {
			most = length - 1
		}
		everyList(length, most, func(l []int) { compare(t, l) })
	}
}

// TestMakeMixed covers R5.1 for longer lists: the degrees of graphs, and lists that
// differ from them in one element.
func TestMakeMixed(t *testing.T) {
	below := mixer()
	for range 8000 {
		n := 5 + below(api.MaxPts-4)
		l := make([]int, n)
		density := 1 + below(6)
		for _, line := range everyPair(n) {
			if below(7) < density {
				l[line.A]++
				l[line.B]++
			}
		}
		compare(t, l)
		l[below(n)] = below(api.MaxDeg + 1)
		compare(t, l)
	}
}

// TestNoAliasing covers Z2: the argument and the memory behind it stay as they are,
// and a later result does not depend on what became of an earlier one.
func TestNoAliasing(t *testing.T) {
	for _, l := range [][]int{
		{}, {0}, {1, 1}, {1, 2, 2, 3}, {4, 1, 2, 3, 4, 5, 6, 7}, {7, 7, 7, 7, 7, 7, 7, 7},
		{1, 1, 1}, {3, 3, 1, 1}, {2, 8, 1}, {8, 7, 6, 5, 4, 3, 2, 1, 0},
	} {
		memory := append(slices.Clone(l), 5, 5, 5, 5)
		argument := memory[:len(l)]
		kept := slices.Clone(memory)
		first, err := havel.Make(argument)
		if !slices.Equal(memory, kept) {
			t.Errorf("Make(%v) changes its argument", l)
		}
		want := slices.Clone(first)
		for i := range first {
			first[i] = api.Line{A: 9, B: 9}
		}
		expectMake(t, argument, want, plain.Told(err))
	}
}
