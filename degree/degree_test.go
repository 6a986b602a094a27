package degree_test

import (
	"fmt"
	"math"
	"slices"
	"testing"

	"brambleweir/api"
	"brambleweir/degree"
	"brambleweir/graph"
	"brambleweir/plain"
)

// edges returns the edges between the given pairs of vertices.
func edges(ends ...int) []api.Line {
	lines := []api.Line{}
	for i := 0; i+1 < len(ends); i += 2 {
		lines = append(lines, api.Line{A: ends[i], B: ends[i+1]})
	}
	return lines
}

// everyPair returns the edges of the complete graph.
func everyPair(n int) []api.Line {
	lines := []api.Line{}
	for b := range n {
		for a := range b {
			lines = append(lines, api.Line{A: a, B: b})
		}
	}
	return lines
}

// mixer returns a function of which each call gives the next number below its
// argument of a fixed sequence without visible order.
func mixer() func(below int) int {
	state := uint64(88172645463325252)
	return func(below int) int {
		state ^= state << 13
		state ^= state >> 7
		state ^= state << 17
		return int(state>>11) % below
	}
}

// mixedGraphs calls a function with graphs of all sizes, whose edges are in no
// order, go both ways and may be parallel.
func mixedGraphs(call func(n int, lines []api.Line)) {
	below := mixer()
	for range 4000 {
		n := 2 + below(api.MaxPts-1)
		lines := []api.Line{}
		for range below(api.MaxLines + 1) {
			a := below(n)
			lines = append(lines, api.Line{A: a, B: (a + 1 + below(n-1)) % n})
		}
		call(n, lines)
	}
}

// smallGraphs calls a function with every graph of at most 5 vertices.
func smallGraphs(call func(n int, lines []api.Line)) {
	for n := 1; n <= 5; n++ {
		all := everyPair(n)
		for mask := range 1 << len(all) {
			lines := []api.Line{}
			for i, line := range all {
				if mask>>i&1 == 1 {
					lines = append(lines, line)
				}
			}
			call(n, lines)
		}
	}
}

// degreesOf is the definition of the degrees: how many vertices some edge joins to
// each one, in either direction.
func degreesOf(n int, lines []api.Line) []int {
	joined := map[api.Line]bool{}
	for _, line := range lines {
		joined[line] = true
		joined[api.Line{A: line.B, B: line.A}] = true
	}
	degrees := make([]int, n)
	for ends := range joined {
		degrees[ends.A]++
	}
	return degrees
}

// expectOf compares Of with degrees, or with an error and no degrees.
func expectOf(t *testing.T, n int, lines []api.Line, want []int, wantErr api.Errno) {
	t.Helper()
	got, err := degree.Of(n, lines)
	if plain.Told(err) != wantErr || !slices.Equal(got, want) {
		t.Errorf("Of(%d, %v) = %v, %v, want %v, %v", n, lines, got, err, want, wantErr)
	}
}

// TestOf covers R4.1.
func TestOf(t *testing.T) {
	for _, c := range []struct {
		n     int
		lines []api.Line
		want  []int
	}{
		{1, nil, []int{0}},
		{1, edges(), []int{0}},
		{8, nil, []int{0, 0, 0, 0, 0, 0, 0, 0}},
		{2, edges(0, 1), []int{1, 1}},
		{2, edges(1, 0), []int{1, 1}},
		{3, edges(0, 1, 1, 2), []int{1, 2, 1}},
		{3, edges(0, 1, 0, 1), []int{1, 1, 0}},
		{3, edges(0, 1, 1, 0), []int{1, 1, 0}},
		{3, edges(2, 1, 1, 2, 2, 0, 2, 1), []int{1, 1, 2}},
		{2, slices.Repeat(edges(1, 0), 24), []int{1, 1}},
		{7, everyPair(7), []int{6, 6, 6, 6, 6, 6, 6}},
		{8, edges(7, 0, 7, 1, 7, 2, 3, 7, 4, 7, 5, 7, 6, 7), []int{1, 1, 1, 1, 1, 1, 1, 7}},
	} {
		expectOf(t, c.n, c.lines, c.want, api.OK)
	}
	compare := func(n int, lines []api.Line) { expectOf(t, n, lines, degreesOf(n, lines), api.OK) }
	smallGraphs(compare)
	mixedGraphs(compare)
}

// TestOfErrors covers the errors of R4.1 and their order.
func TestOfErrors(t *testing.T) {
	for _, c := range []struct {
		n     int
		lines []api.Line
		want  api.Errno
	}{
		{0, nil, api.ErrRange},
		{-1, nil, api.ErrRange},
		{9, nil, api.ErrRange},
		{math.MinInt, nil, api.ErrRange},
		{math.MaxInt, nil, api.ErrRange},
		{1<<32 + 1, nil, api.ErrRange},
		{8, everyPair(8), api.ErrFull},
		{2, slices.Repeat(edges(0, 1), 25), api.ErrFull},
		{3, edges(0, 3), api.ErrRange},
		{3, edges(3, 0), api.ErrRange},
		{3, edges(-1, 0), api.ErrRange},
		{3, edges(0, math.MinInt), api.ErrRange},
		{3, edges(math.MaxInt, 0), api.ErrRange},
		{1, edges(0, 0), api.ErrShape},
		{3, edges(0, 1, 2, 2), api.ErrShape},
		{0, slices.Repeat(edges(0, 0), 25), api.ErrRange},
		{3, slices.Repeat(edges(0, 0), 25), api.ErrFull},
		{3, slices.Repeat(edges(0, 3), 25), api.ErrFull},
		{3, edges(3, 3), api.ErrRange},
		{3, edges(1, 1, 0, 3), api.ErrShape},
		{3, edges(0, 3, 1, 1), api.ErrRange},
	} {
		expectOf(t, c.n, c.lines, nil, c.want)
	}
	for n := -1; n <= 10; n++ {
		for a := -2; a <= 10; a++ {
			for b := -2; b <= 10; b++ {
				lines := edges(1, 0, a, b)
				if err := graph.Check(n, lines); err != nil {
					expectOf(t, n, lines, nil, plain.Told(err))
				}
			}
		}
	}
}

// TestCheck covers R4.2, the order of its errors, and that they are those of R4.3.
func TestCheck(t *testing.T) {
	for _, c := range []struct {
		l    []int
		want api.Errno
	}{
		{[]int{0}, api.OK},
		{[]int{7}, api.OK},
		{[]int{3, 1, 1}, api.OK},
		{[]int{0, 1, 2, 3, 4, 5, 6, 7}, api.OK},
		{slices.Repeat([]int{0}, 8), api.OK},
		{slices.Repeat([]int{7}, 8), api.OK},
		{nil, api.ErrNone},
		{[]int{}, api.ErrNone},
		{make([]int, 0, 9), api.ErrNone},
		{slices.Repeat([]int{0}, 9), api.ErrFull},
		{slices.Repeat([]int{1}, 10), api.ErrFull},
		{make([]int, 100_000), api.ErrFull},
		{slices.Repeat([]int{8}, 9), api.ErrFull},
		{slices.Repeat([]int{-1}, 9), api.ErrFull},
		{[]int{0, 0, 0, 0, 0, 0, 0, 0, 8}, api.ErrFull},
		{[]int{-1, 0, 0, 0, 0, 0, 0, 0, 0}, api.ErrFull},
		{[]int{8}, api.ErrRange},
		{[]int{-1}, api.ErrRange},
		{[]int{8, 8}, api.ErrRange},
		{[]int{1, 1, -1}, api.ErrRange},
		{[]int{1, 8, 1}, api.ErrRange},
		{[]int{0, 0, 0, 0, 0, 0, 0, 8}, api.ErrRange},
		{[]int{0, 0, 0, 0, 0, 0, 0, -1}, api.ErrRange},
		{[]int{-1, 8}, api.ErrRange},
		{[]int{math.MinInt}, api.ErrRange},
		{[]int{math.MaxInt, math.MaxInt}, api.ErrRange},
		{[]int{1 << 32, 0}, api.ErrRange},
		{[]int{1<<32 + 1, 1}, api.ErrRange},
	} {
		if err := degree.Check(c.l); plain.Told(err) != c.want {
			t.Errorf("Check(%v) = %v, want %v", c.l, err, c.want)
		}
		is, err := degree.Can(c.l)
		if plain.Told(err) != c.want || is && c.want != api.OK {
			t.Errorf("Can(%v) = %v, %v, want the error %v", c.l, is, err, c.want)
		}
	}
}

// expectCan compares Can with what it has to report of a valid list.
func expectCan(t *testing.T, l []int, want bool) {
	t.Helper()
	is, err := degree.Can(l)
	if is != want || err != nil {
		t.Errorf("Can(%v) = %v, %v, want %v", l, is, err, want)
	}
}

// TestCan covers R4.3.
func TestCan(t *testing.T) {
	for _, c := range []struct {
		l    []int
		want bool
	}{
		{[]int{0}, true},
		{[]int{1}, false},
		{[]int{2}, false},
		{[]int{7}, false},
		{[]int{0, 0}, true},
		{[]int{1, 1}, true},
		{[]int{1, 0}, false},
		{[]int{2, 2}, false},
		{[]int{2, 0}, false},
		{[]int{3, 1, 1}, false},
		{[]int{1, 2, 1}, true},
		{[]int{1, 1, 2}, true},
		{[]int{2, 2, 2}, true},
		{[]int{1, 1, 1}, false},
		{[]int{3, 3, 1, 1}, false},
		{[]int{1, 3, 1, 3}, false},
		{[]int{3, 2, 2, 1}, true},
		{[]int{4, 4, 4, 1, 1}, false},
		{[]int{0, 1, 2, 3, 4, 5, 6, 7}, false},
		{[]int{4, 1, 2, 3, 4, 5, 6, 7}, true},
		{[]int{7, 1, 1, 1, 1, 1, 1, 1}, true},
		{slices.Repeat([]int{0}, 8), true},
		{slices.Repeat([]int{3}, 8), true},
		{slices.Repeat([]int{3}, 7), false},
		{slices.Repeat([]int{7}, 8), true}, // 28 edges: MaxLines is no limit of this section
		{slices.Repeat([]int{7}, 7), false},
		{slices.Repeat([]int{6}, 7), true},
	} {
		expectCan(t, c.l, c.want)
	}
	compare := func(n int, lines []api.Line) { expectCan(t, degreesOf(n, lines), true) }
	smallGraphs(compare)
	mixedGraphs(compare)
}

// sequence is a nondecreasing list of degrees of as many vertices as its length.
type sequence string

// sequenceOf returns the degrees in nondecreasing order.
func sequenceOf(degrees []int) sequence {
	return sequence(fmt.Sprint(slices.Sorted(slices.Values(degrees))))
}

// graphical returns the degrees of all graphs of at most MaxPts vertices: every
// graph comes from one with a vertex less, by joining a new vertex to some others.
func graphical() map[sequence]bool {
	found := map[sequence]bool{}
	last := [][]int{{}}
	for n := 1; n <= api.MaxPts; n++ {
		var next [][]int
		for _, degrees := range last {
			for mask := range 1 << len(degrees) {
				grown := grow(degrees, mask)
				if s := sequenceOf(grown); !found[s] {
					found[s] = true
					next = append(next, grown)
				}
			}
		}
		last = next
	}
	return found
}

// grow returns the degrees after a new vertex was joined to those vertices whose
// binary digits in mask are 1.
func grow(degrees []int, mask int) []int {
	grown := append(slices.Clone(degrees), 0)
	for i := range degrees {
		if mask>>i&1 == 1 {
			grown[i]++
			grown[len(degrees)]++
		}
	}
	return grown
}

// risingLists calls a function with every nondecreasing valid list that begins
// with the given one.
func risingLists(l []int, call func(l []int)) {
	from := 0
	if len(l) > 0 {
		call(l)
		from = l[len(l)-1]
	}
	if len(l) == api.MaxPts {
		return
	}
	for d := from; d <= api.MaxDeg; d++ {
		risingLists(append(slices.Clone(l), d), call)
	}
}

// shuffle returns the numbers in another order.
func shuffle(l []int, below func(int) int) []int {
	mixed := slices.Clone(l)
	for i := range mixed {
		j := i + below(len(mixed)-i)
		mixed[i], mixed[j] = mixed[j], mixed[i]
	}
	return mixed
}

// TestCanEverySequence covers R4.3 for every valid list, in several orders,
// against the degrees of all graphs of at most MaxPts vertices.
func TestCanEverySequence(t *testing.T) {
	isGraphical := graphical()
	below := mixer()
	counts := make([]int, api.MaxPts+1)
	risingLists(nil, func(l []int) {
		want := isGraphical[sequenceOf(l)]
		if want {
			counts[len(l)]++
		}
		expectCan(t, l, want)
		for range 4 {
			expectCan(t, shuffle(l, below), want)
		}
		falling := slices.Clone(l)
		slices.Reverse(falling)
		expectCan(t, falling, want)
	})
	// The known numbers of degree sequences guard the enumeration above.
	if known := []int{0, 1, 2, 4, 11, 31, 102, 342, 1213}; !slices.Equal(counts, known) {
		t.Errorf("numbers of graphical sequences by length: %v, want %v", counts, known)
	}
}

// spare returns the list with spare capacity behind it that holds the value, and
// all of that memory.
func spare[E any](list []E, value E) (argument, memory []E) {
	memory = append(slices.Clone(list), value, value, value, value)
	return memory[:len(list)], memory
}

// TestNoAliasingOfOf covers Z2 for Of: neither its argument nor its result is
// touched by, or shared with, another call.
func TestNoAliasingOfOf(t *testing.T) {
	for _, lines := range [][]api.Line{
		edges(), edges(0, 1), edges(3, 1, 2, 3, 1, 2), edges(3, 2, 2, 3), everyPair(4),
		edges(1, 1), edges(0, 4), slices.Repeat(edges(2, 3), 25),
	} {
		argument, memory := spare(lines, api.Line{A: 7, B: 7})
		kept := slices.Clone(memory)
		first, firstErr := degree.Of(4, argument)
		if !slices.Equal(memory, kept) {
			t.Errorf("Of(4, %v) changes its argument", lines)
		}
		want := slices.Clone(first)
		for i := range first {
			first[i] = 9
		}
		expectOf(t, 4, argument, want, plain.Told(firstErr))
	}
}

// TestNoAliasingOfLists covers Z2 for Check and Can.
func TestNoAliasingOfLists(t *testing.T) {
	for _, l := range [][]int{
		{}, {0}, {1, 2, 1}, {1, 2, 3, 2}, {3, 2, 1, 2}, {1, 0, 2}, {1, 3, 1, 3}, {4, 1, 2, 3, 4, 5, 6, 7},
		{2, 8, 1}, {1, -1, 0}, {8, 7, 6, 5, 4, 3, 2, 1, 0},
	} {
		argument, memory := spare(l, 5)
		kept := slices.Clone(memory)
		degree.Check(argument)
		is, err := degree.Can(argument)
		if !slices.Equal(memory, kept) {
			t.Errorf("Check or Can changes its argument %v", l)
		}
		again, errAgain := degree.Can(argument)
		if again != is || plain.Told(errAgain) != plain.Told(err) {
			t.Errorf("Can(%v) = %v, %v, then %v, %v", l, is, err, again, errAgain)
		}
	}
}
