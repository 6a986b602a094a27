package stable_test

import (
	"math"
	"slices"
	"testing"

	"brambleweir/api"
	"brambleweir/plain"
	"brambleweir/stable"
)

// orders returns all orders of the numbers below count.
func orders(count int) [][]int {
	if count == 0 {
		return [][]int{{}}
	}
	all := [][]int{}
	for _, order := range orders(count - 1) {
		for place := range count {
			all = append(all, slices.Insert(slices.Clone(order), place, count-1))
		}
	}
	return all
}

// alike returns the rankings of a side of which all have the same one.
func alike(ranking ...int) [][]int {
	return slices.Repeat([][]int{ranking}, len(ranking))
}

// plainSide returns rankings 0, 1, 2 .. of a side.
func plainSide(count int) [][]int {
	ranking := []int{}
	for j := range count {
		ranking = append(ranking, j)
	}
	return alike(ranking...)
}

// turning returns rankings of which each begins one later than the one before, the
// first one at start, and goes around.
func turning(count, start int) [][]int {
	side := [][]int{}
	for i := range count {
		ranking := []int{}
		for place := range count {
			ranking = append(ranking, (start+i+place)%count)
		}
		side = append(side, ranking)
	}
	return side
}

// with returns the rankings with another one in a place.
func with(side [][]int, i int, ranking ...int) [][]int {
	out := slices.Clone(side)
	out[i] = ranking
	return out
}

// mixer returns a function of which each call gives the next number below its
// argument of a fixed sequence without visible order.
func mixer() func(below int) int {
	state := uint64(88172645463325252)
	return func(below int) int {
		state ^= state << 13
		state ^= state >> 7
		state ^= state << 17
		return int(state>>11) % below
	}
}

// shuffled returns the numbers below count in no order.
func shuffled(below func(int) int, count int) []int {
	numbers := []int{}
	for v := range count {
		numbers = slices.Insert(numbers, below(v+1), v)
	}
	return numbers
}

// smallSides calls a function with all rankings of at most 3 and 3 participants.
func smallSides(call func(left, right [][]int)) {
	for count := range 4 {
		all := orders(count)
		side := make([][]int, 2*count)
		var fill func(i int)
		fill = func(i int) {
			if i == len(side) {
				call(side[:count], side[count:])
				return
			}
			for _, ranking := range all {
				side[i] = ranking
				fill(i + 1)
			}
		}
		fill(0)
	}
}

// mixedSides calls a function with rankings of up to MaxSide and MaxSide participants
// without order.
func mixedSides(call func(left, right [][]int)) {
	below := mixer()
	for count := 4; count <= api.MaxSide; count++ {
		for range 400 {
			left, right := [][]int{}, [][]int{}
			for range count {
				left = append(left, shuffled(below, count))
				right = append(right, shuffled(below, count))
			}
			call(left, right)
			call(right, left)
			// Where all agree, many have to go far down their rankings.
			call(slices.Repeat(left[:1], count), right)
			call(left, slices.Repeat(right[:1], count))
		}
	}
}

// turningSides calls a function with rankings that have many stable pairings.
func turningSides(call func(left, right [][]int)) {
	for count := 1; count <= api.MaxSide; count++ {
		for start := range count {
			for other := range count {
				call(turning(count, start), turning(count, other))
			}
		}
	}
}

// everySides calls a function with all the rankings above.
func everySides(call func(left, right [][]int)) {
	smallSides(call)
	mixedSides(call)
	turningSides(call)
}

// prefers tells whether somebody of that ranking prefers the one to the other.
func prefers(ranking []int, one, other int) bool {
	return slices.Index(ranking, one) < slices.Index(ranking, other)
}

// isStable is the definition.
func isStable(left, right [][]int, pairs []int) bool {
	for i := range left {
		for j := range right {
			if prefers(left[i], j, pairs[i]) && prefers(right[j], i, slices.Index(pairs, j)) {
				return false
			}
		}
	}
	return true
}

// bestOf is the definition: of all stable pairings, each left participant takes the
// partner that it prefers. It also returns how many stable pairings there are.
func bestOf(left, right [][]int, pairings [][]int) (best []int, count int) {
	for _, pairs := range pairings {
		if !isStable(left, right, pairs) {
			continue
		}
		count++
		if best == nil {
			best = slices.Clone(pairs)
		}
		for i, j := range pairs {
			if prefers(left[i], j, best[i]) {
				best[i] = j
			}
		}
	}
	return best, count
}

// expectPairs compares Pairs with a pairing, or with an error and none.
func expectPairs(t *testing.T, left, right [][]int, want []int, wantErr api.Errno) {
	t.Helper()
	got, err := stable.Pairs(left, right)
	if plain.Told(err) != wantErr || !slices.Equal(got, want) {
		t.Errorf("Pairs(%v, %v) = %v, %v, want %v, %v", left, right, got, err, want, wantErr)
	}
}

// expectIs compares Is with an answer, or with an error and false.
func expectIs(t *testing.T, left, right [][]int, pairs []int, want bool, wantErr api.Errno) {
	t.Helper()
	got, err := stable.Is(left, right, pairs)
	if plain.Told(err) != wantErr || got != want {
		t.Errorf("Is(%v, %v, %v) = %v, %v, want %v, %v", left, right, pairs, got, err, want, wantErr)
	}
}

// TestCheckOfGood covers R12.1: sides without participants, the largest ones, and all
// the others that are valid.
func TestCheckOfGood(t *testing.T) {
	check := func(left, right [][]int) {
		if err := stable.Check(left, right); err != nil {
			t.Errorf("Check(%v, %v) = %v, want nil", left, right, err)
		}
	}
	check(nil, nil)
	check([][]int{}, nil)
	check(nil, [][]int{})
	check(plainSide(6), plainSide(6))
	everySides(check)
}

// TestPairs covers R12.2: no participants, one on each side, sides that agree, sides
// whose wishes fit, sides whose wishes do not, and partners that are lost again.
func TestPairs(t *testing.T) {
	for _, c := range []struct {
		left, right [][]int
		want        []int
	}{
		{nil, nil, nil},
		{[][]int{}, nil, nil},
		// The example of the document.
		{alike(0), alike(0), []int{0}},
		{alike(0, 1), alike(0, 1), []int{0, 1}},
		{alike(0, 1), alike(1, 0), []int{1, 0}},
		{alike(1, 0), alike(0, 1), []int{1, 0}},
		{alike(1, 0), alike(1, 0), []int{0, 1}},
		// Two stable pairings, of which the left side and the right side each prefer one.
		{[][]int{{0, 1}, {1, 0}}, [][]int{{1, 0}, {0, 1}}, []int{0, 1}},
		{[][]int{{1, 0}, {0, 1}}, [][]int{{0, 1}, {1, 0}}, []int{1, 0}},
		{turning(3, 0), turning(3, 1), []int{0, 1, 2}},
		{turning(3, 2), turning(3, 0), []int{2, 0, 1}},
		{turning(6, 0), turning(6, 1), []int{0, 1, 2, 3, 4, 5}},
		// Every new proposal displaces the one before.
		{alike(0, 1, 2, 3, 4, 5), alike(5, 4, 3, 2, 1, 0), []int{5, 4, 3, 2, 1, 0}},
		{alike(0, 1, 2, 3, 4, 5), alike(0, 1, 2, 3, 4, 5), []int{0, 1, 2, 3, 4, 5}},
		{alike(5, 3, 1, 0, 2, 4), alike(2, 0, 1, 5, 4, 3), []int{3, 1, 5, 4, 2, 0}},
		{[][]int{{0, 1, 2}, {0, 2, 1}, {1, 0, 2}}, [][]int{{1, 2, 0}, {0, 2, 1}, {2, 1, 0}}, []int{1, 0, 2}},
		// One proposal sets off refusals of all three.
		{[][]int{{1, 0, 2}, {0, 1, 2}, {0, 1, 2}}, [][]int{{0, 2, 1}, {1, 0, 2}, {0, 1, 2}}, []int{0, 1, 2}},
	} {
		expectPairs(t, c.left, c.right, c.want, api.OK)
	}
}

// TestPairsOfAllPairings covers R12.2, among sides with one and with several stable
// pairings.
func TestPairsOfAllPairings(t *testing.T) {
	found := map[int]int{}
	pairings := [][][]int{}
	for count := range api.MaxSide + 1 {
		pairings = append(pairings, orders(count))
	}
	everySides(func(left, right [][]int) {
		want, count := bestOf(left, right, pairings[len(left)])
		found[min(count, 4)]++
		expectPairs(t, left, right, want, api.OK)
	})
	if found[0] > 0 {
		t.Errorf("%d sides without a stable pairing", found[0])
	}
	for count := 1; count <= 4; count++ {
		if found[count] < 50 {
			t.Errorf("%d sides with %d stable pairings: too few", found[count], count)
		}
	}
}

// TestIs covers R12.3: no participants, and pairings with and without a left and a
// right participant who prefer each other.
func TestIs(t *testing.T) {
	fits, clashes := [][]int{{0, 1}, {1, 0}}, [][]int{{1, 0}, {0, 1}}
	for _, c := range []struct {
		left, right [][]int
		pairs       []int
		want        bool
	}{
		{nil, nil, nil, true},
		{[][]int{}, nil, []int{}, true},
		{alike(0), alike(0), []int{0}, true},
		{alike(0, 1), alike(0, 1), []int{0, 1}, true},
		{alike(0, 1), alike(0, 1), []int{1, 0}, false},
		{fits, clashes, []int{0, 1}, true},
		{fits, clashes, []int{1, 0}, true},
		{fits, fits, []int{0, 1}, true},
		{fits, fits, []int{1, 0}, false},
		{turning(3, 0), turning(3, 1), []int{0, 1, 2}, true},
		{turning(3, 0), turning(3, 1), []int{1, 2, 0}, true},
		{turning(3, 0), turning(3, 1), []int{2, 0, 1}, true},
		{turning(3, 0), turning(3, 1), []int{0, 2, 1}, false},
		{plainSide(6), plainSide(6), []int{0, 1, 2, 3, 4, 5}, true},
		{plainSide(6), plainSide(6), []int{0, 1, 2, 3, 5, 4}, false},
		{plainSide(6), plainSide(6), []int{1, 0, 2, 3, 4, 5}, false},
	} {
		expectIs(t, c.left, c.right, c.pairs, c.want, api.OK)
	}
}

// TestIsOfAllPairings covers R12.3 with every pairing.
func TestIsOfAllPairings(t *testing.T) {
	found := map[bool]int{}
	pairings := [][][]int{}
	for count := range api.MaxSide + 1 {
		pairings = append(pairings, orders(count))
	}
	everySides(func(left, right [][]int) {
		for _, pairs := range pairings[len(left)] {
			want := isStable(left, right, pairs)
			found[want]++
			expectIs(t, left, right, pairs, want, api.OK)
		}
	})
	if found[true] < 1000 || found[false] < 1000 {
		t.Errorf("%d stable and %d other pairings: too few", found[true], found[false])
	}
}

// TestErrors covers the errors of R12.1, their order, and that Pairs and Is have the
// same ones, Is also where the pairing is not valid either.
func TestErrors(t *testing.T) {
	two, three := plainSide(2), plainSide(3)
	for _, c := range []struct {
		left, right [][]int
		want        api.Errno
	}{
		{plainSide(7), plainSide(7), api.ErrFull},
		{plainSide(7), plainSide(6), api.ErrFull},
		{plainSide(6), plainSide(7), api.ErrFull},
		{plainSide(7), nil, api.ErrFull},
		{nil, plainSide(7), api.ErrFull},
		{make([][]int, 7), make([][]int, 7), api.ErrFull},
		{make([][]int, 100), make([][]int, 2), api.ErrFull},
		{two, make([][]int, 100), api.ErrFull},
		{nil, alike(0), api.ErrShape},
		{alike(0), nil, api.ErrShape},
		{two, three, api.ErrShape},
		{three, two, api.ErrShape},
		{plainSide(6), plainSide(5), api.ErrShape},
		// The sizes go before the rankings.
		{with(two, 0, 0, 5), three, api.ErrShape},
		{with(two, 0, 0, 0), three, api.ErrShape},
		{two, with(three, 0, 0, 9, 1), api.ErrShape},
		{with(two, 0), two, api.ErrShape},
		{with(two, 1), two, api.ErrShape},
		{two, with(two, 0), api.ErrShape},
		{two, with(two, 1), api.ErrShape},
		{with(two, 1, 0), two, api.ErrShape},
		{with(two, 1, 0, 1, 2), two, api.ErrShape},
		{two, with(two, 1, 1), api.ErrShape},
		{two, with(two, 1, 0, 1, 2), api.ErrShape},
		{make([][]int, 2), make([][]int, 2), api.ErrShape},
		{with(two, 0, slices.Repeat([]int{0}, 1000)...), two, api.ErrShape},
		{plainSide(6), with(plainSide(6), 5, 0, 1, 2, 3, 4, 5, 0), api.ErrShape},
		{with(two, 0, 0, 2), two, api.ErrRange},
		{with(two, 1, -1, 0), two, api.ErrRange},
		{two, with(two, 0, 2, 1), api.ErrRange},
		{two, with(two, 1, 1, -1), api.ErrRange},
		{alike(1), alike(0), api.ErrRange},
		{alike(0), alike(-1), api.ErrRange},
		{with(two, 0, math.MinInt, 0), two, api.ErrRange},
		{two, with(two, 1, math.MaxInt, 0), api.ErrRange},
		{two, with(two, 1, 0, 1<<32+1), api.ErrRange},
		{plainSide(6), with(plainSide(6), 5, 0, 1, 2, 3, 4, 6), api.ErrRange},
		{with(plainSide(6), 5, 6, 0, 1, 2, 3, 4), plainSide(6), api.ErrRange},
		{with(two, 0, 0, 0), two, api.ErrClash},
		{with(two, 1, 1, 1), two, api.ErrClash},
		{two, with(two, 0, 1, 1), api.ErrClash},
		{two, with(two, 1, 0, 0), api.ErrClash},
		{with(three, 2, 0, 1, 0), three, api.ErrClash},
		{plainSide(6), with(plainSide(6), 5, 5, 1, 2, 3, 4, 5), api.ErrClash},
		// In one ranking the size goes first, and then a number that is none.
		{with(two, 0, 0, 0, 9), two, api.ErrShape},
		{with(two, 0, 9), two, api.ErrShape},
		{with(three, 1, 0, 0), three, api.ErrShape},
		{with(three, 0, 0, 0, 9), three, api.ErrRange},
		{with(three, 0, 9, 9, 0), three, api.ErrRange},
		{three, with(three, 2, 1, 1, -1), api.ErrRange},
		// The first ranking that is not valid decides, and the left ones go first.
		{with(with(two, 0, 0, 0), 1), two, api.ErrClash},
		{with(with(two, 0, 0, 0), 1, 0, 9), two, api.ErrClash},
		{with(with(two, 0, 0, 9), 1, 0), two, api.ErrRange},
		{with(with(two, 0, 0, 9), 1, 0, 0), two, api.ErrRange},
		{with(with(two, 0), 1, 0, 9), two, api.ErrShape},
		{two, with(with(two, 0, 1, 1), 1), api.ErrClash},
		{two, with(with(two, 0, 1, 1), 1, 0, 9), api.ErrClash},
		{two, with(with(two, 0, 1, 9), 1), api.ErrRange},
		{with(two, 1, 0, 0), with(two, 0), api.ErrClash},
		{with(two, 1, 0, 0), with(two, 0, 0, 9), api.ErrClash},
		{with(two, 1, 0, 9), with(two, 0), api.ErrRange},
		{with(two, 1, 0, 9), with(two, 0, 0, 0), api.ErrRange},
		{with(two, 1), with(two, 0, 0, 9), api.ErrShape},
	} {
		if err := stable.Check(c.left, c.right); plain.Told(err) != c.want {
			t.Errorf("Check(%v, %v) = %v, want %v", c.left, c.right, err, c.want)
		}
		expectPairs(t, c.left, c.right, nil, c.want)
		for _, pairs := range [][]int{nil, {0}, {0, 1}, {0, 1, 2}, {0, 0}, {0, 9}, {0, 0, 0}, {0, -1, 0}} {
			expectIs(t, c.left, c.right, pairs, false, c.want)
		}
	}
}

// TestErrorsOfPairings covers the errors of R12.3 that its pairing has, and their order.
func TestErrorsOfPairings(t *testing.T) {
	for _, c := range []struct {
		count int
		pairs []int
		want  api.Errno
	}{
		{0, []int{0}, api.ErrShape},
		{0, []int{-1}, api.ErrShape},
		{1, nil, api.ErrShape},
		{1, []int{0, 0}, api.ErrShape},
		{2, []int{0}, api.ErrShape},
		{2, []int{0, 1, 2}, api.ErrShape},
		{2, []int{0, 1, 1}, api.ErrShape},
		{2, []int{9}, api.ErrShape},
		{6, []int{0, 1, 2, 3, 4, 5, 6}, api.ErrShape},
		{6, make([]int, 1000), api.ErrShape},
		{1, []int{1}, api.ErrRange},
		{1, []int{-1}, api.ErrRange},
		{2, []int{0, 2}, api.ErrRange},
		{2, []int{2, 0}, api.ErrRange},
		{2, []int{-1, 0}, api.ErrRange},
		{2, []int{2, 2}, api.ErrRange},
		{2, []int{math.MinInt, 0}, api.ErrRange},
		{2, []int{0, math.MaxInt}, api.ErrRange},
		{2, []int{1 << 32, 1}, api.ErrRange},
		{3, []int{0, 0, 3}, api.ErrRange},
		{3, []int{0, 0, -1}, api.ErrRange},
		{6, []int{0, 1, 2, 3, 4, 6}, api.ErrRange},
		{2, []int{0, 0}, api.ErrClash},
		{2, []int{1, 1}, api.ErrClash},
		{3, []int{0, 2, 0}, api.ErrClash},
		{3, []int{1, 2, 2}, api.ErrClash},
		{6, []int{5, 1, 2, 3, 4, 5}, api.ErrClash},
	} {
		expectIs(t, plainSide(c.count), turning(c.count, 0), c.pairs, false, c.want)
	}
}

// roomy returns rankings with spare capacity, behind the list and behind each ranking,
// and a function that returns a copy of all the memory they have.
func roomy(side [][]int) (out [][]int, whole func() [][]int) {
	spare := [][]int{{7, 7}, {8}}
	memory := [][]int{}
	for _, ranking := range side {
		memory = append(memory, append(slices.Clone(ranking), 7, 7, 7)[:len(ranking)])
	}
	memory = append(memory, spare...)
	whole = func() [][]int {
		all := [][]int{}
		for _, ranking := range memory {
			all = append(all, slices.Clone(ranking[:cap(ranking)]), []int{len(ranking)})
		}
		return all
	}
	return memory[:len(side)], whole
}

// TestNoAliasing covers Z2: the rankings, the pairing and the memory behind them stay
// as they are, with an error too, and a later result does not depend on what became of
// an earlier one.
func TestNoAliasing(t *testing.T) {
	calls := map[string]func(left, right [][]int, pairs []int) ([]int, error){
		"Check": func(left, right [][]int, pairs []int) ([]int, error) {
			return nil, stable.Check(left, right)
		},
		"Pairs": func(left, right [][]int, pairs []int) ([]int, error) {
			return stable.Pairs(left, right)
		},
		"Is": func(left, right [][]int, pairs []int) ([]int, error) {
			is, err := stable.Is(left, right, pairs)
			if is {
				return []int{1}, err
			}
			return []int{0}, err
		},
	}
	three := plainSide(3)
	for _, c := range []struct {
		left, right [][]int
		pairs       []int
	}{
		{nil, nil, nil},
		{three, three, []int{0, 1, 2}},
		{three, alike(2, 1, 0), []int{0, 1, 2}},
		{turning(3, 0), turning(3, 1), []int{1, 2, 0}},
		{turning(6, 3), turning(6, 1), []int{5, 4, 3, 2, 1, 0}},
		{three, three, []int{0, 1}},
		{three, three, []int{2, 1, 2}},
		{with(three, 2, 2, 0, 2), three, []int{2, 1, 0}},
		{three, with(three, 2, 2, 0, 9), []int{2, 1, 0}},
		{three, three[:2], []int{2, 1, 0}},
		{plainSide(7), plainSide(7), []int{2, 1, 0}},
	} {
		for name, call := range calls {
			left, wholeLeft := roomy(c.left)
			right, wholeRight := roomy(c.right)
			memory := append(slices.Clone(c.pairs), 7, 7, 7)
			pairs := memory[:len(c.pairs)]
			kept := slices.Concat(wholeLeft(), wholeRight(), [][]int{slices.Clone(memory)})
			first, firstErr := call(left, right, pairs)
			want := slices.Clone(first)
			for i := range first[:cap(first)] {
				first[:cap(first)][i] = 99
			}
			got, err := call(left, right, pairs)
			if !slices.Equal(got, want) || plain.Told(err) != plain.Told(firstErr) {
				t.Errorf("%s of %v: first %v, %v, then %v, %v", name, c, want, firstErr, got, err)
			}
			now := slices.Concat(wholeLeft(), wholeRight(), [][]int{memory})
			if !slices.EqualFunc(now, kept, slices.Equal[[]int]) {
				t.Errorf("%s of %v changes its arguments", name, c)
			}
		}
	}
}
