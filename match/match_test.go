package match_test

import (
	"math"
	"slices"
	"testing"

	"brambleweir/api"
	"brambleweir/match"
	"brambleweir/plain"
)

// edges returns the edges between the given pairs of a left and a right vertex.
func edges(ends ...int) []api.Line {
	lines := []api.Line{}
	for i := 0; i+1 < len(ends); i += 2 {
		lines = append(lines, api.Line{A: ends[i], B: ends[i+1]})
	}
	return lines
}

// everyPair returns the edges between every left and every right vertex.
func everyPair(left, right int) []api.Line {
	lines := []api.Line{}
	for a := range left {
		for b := range right {
			lines = append(lines, api.Line{A: a, B: b})
		}
	}
	return lines
}

// swapped returns the edges with the left and the right side exchanged.
func swapped(lines []api.Line) []api.Line {
	out := []api.Line{}
	for _, line := range lines {
		out = append(out, api.Line{A: line.B, B: line.A})
	}
	return out
}

// turned returns the edges in the opposite order.
func turned(lines []api.Line) []api.Line {
	out := slices.Clone(lines)
	slices.Reverse(out)
	return out
}

// mixer returns a function of which each call gives the next number below its
// argument of a fixed sequence without visible order.
func mixer() func(below int) int {
	state := uint64(88172645463325252)
	return func(below int) int {
		state ^= state << 13
		state ^= state >> 7
		state ^= state << 17
		return int(state>>11) % below
	}
}

// shuffled returns the numbers below count in no order.
func shuffled(below func(int) int, count int) []int {
	numbers := []int{}
	for v := range count {
		numbers = slices.Insert(numbers, below(v+1), v)
	}
	return numbers
}

// smallGraphs calls a function with every graph of at most 3 left and 3 right
// vertices, and with its edges in the other order, and doubled.
func smallGraphs(call func(left, right int, lines []api.Line)) {
	for left := range 4 {
		for right := range 4 {
			all := everyPair(left, right)
			for mask := range 1 << len(all) {
				lines := []api.Line{}
				for i, line := range all {
					if mask>>i&1 == 1 {
						lines = append(lines, line)
					}
				}
				call(left, right, lines)
				call(left, right, turned(lines))
				call(left, right, append(turned(lines), lines...))
			}
		}
	}
}

// mixedGraphs calls a function with graphs of all sizes, whose edges are in no order
// and may be parallel; many of them have few edges.
func mixedGraphs(call func(left, right int, lines []api.Line)) {
	below := mixer()
	for range 3000 {
		left, right := 1+below(api.MaxSide), 1+below(api.MaxSide)
		lines := []api.Line{}
		for range below(1 + min(api.MaxLines, left+below(api.MaxLines))) {
			lines = append(lines, api.Line{A: below(left), B: below(right)})
		}
		call(left, right, lines)
	}
}

// pathGraphs calls a function with paths of all lengths that take the vertices of both
// sides in turn, from either side, and with a few more edges, so that a long
// augmenting path may be the only one.
func pathGraphs(call func(left, right int, lines []api.Line)) {
	below := mixer()
	for length := 1; length < 2*api.MaxSide; length++ {
		for range 100 {
			lefts, rights := shuffled(below, api.MaxSide), shuffled(below, api.MaxSide)
			lines := []api.Line{}
			for i := range length {
				line := api.Line{A: lefts[i/2], B: rights[(i+1)/2]}
				lines = slices.Insert(lines, below(i+1), line)
			}
			call(api.MaxSide, api.MaxSide, lines)
			call(api.MaxSide, api.MaxSide, swapped(lines))
			for range below(4) {
				lines = append(lines, api.Line{A: below(api.MaxSide), B: below(api.MaxSide)})
			}
			call(api.MaxSide, api.MaxSide, lines)
			call(api.MaxSide, api.MaxSide, swapped(lines))
		}
	}
}

// everyGraph calls a function with all the graphs above.
func everyGraph(call func(left, right int, lines []api.Line)) {
	smallGraphs(call)
	mixedGraphs(call)
	pathGraphs(call)
}

// matchingsOf is the definition: of all matchings it returns the largest number of
// edges, and the left vertices that are covered by all those with that number.
func matchingsOf(left, right int, lines []api.Line) (most int, always []int) {
	var adjacent [api.MaxSide][api.MaxSide]bool
	for _, line := range lines {
		adjacent[line.A][line.B] = true
	}
	var covered, common [api.MaxSide]bool
	var used [api.MaxSide]bool
	most = -1
	var extend func(a, count int)
	extend = func(a, count int) {
		if a < left {
			extend(a+1, count)
			covered[a] = true
			for b := range right {
				if adjacent[a][b] && !used[b] {
					used[b] = true
					extend(a+1, count+1)
					used[b] = false
				}
			}
			covered[a] = false
			return
		}
		if count > most {
			most, common = count, covered
		} else if count == most {
			for v := range common {
				common[v] = common[v] && covered[v]
			}
		}
	}
	extend(0, 0)
	for a := range left {
		if common[a] {
			always = append(always, a)
		}
	}
	return most, always
}

// openOf is the definition of the right vertices that Cover gives, from its left ones.
func openOf(lines []api.Line, l []int) []int {
	found := []int{}
	for _, line := range lines {
		if !slices.Contains(l, line.A) {
			found = append(found, line.B)
		}
	}
	slices.Sort(found)
	return slices.Compact(found)
}

// isCover tells whether every edge has its left vertex in l or its right one in r.
func isCover(lines []api.Line, l, r []int) bool {
	for _, line := range lines {
		if !slices.Contains(l, line.A) && !slices.Contains(r, line.B) {
			return false
		}
	}
	return true
}

// leastCoverOf is the definition: it tries all sets of left vertices, each of which
// needs the right vertices that are joined with the other left ones.
func leastCoverOf(left int, lines []api.Line) int {
	least := math.MaxInt
	for mask := range 1 << left {
		l := []int{}
		for a := range left {
			if mask>>a&1 == 1 {
				l = append(l, a)
			}
		}
		least = min(least, len(l)+len(openOf(lines, l)))
	}
	return least
}

// expectMost compares Most with a size, or with an error and 0.
func expectMost(t *testing.T, left, right int, lines []api.Line, want int, wantErr api.Errno) {
	t.Helper()
	got, err := match.Most(left, right, lines)
	if plain.Told(err) != wantErr || got != want {
		t.Errorf("Most(%d, %d, %v) = %v, %v, want %v, %v", left, right, lines, got, err, want, wantErr)
	}
}

// expectCover compares Cover with two lists, or with an error and none.
func expectCover(t *testing.T, left, right int, lines []api.Line, wantL, wantR []int, wantErr api.Errno) {
	t.Helper()
	l, r, err := match.Cover(left, right, lines)
	if plain.Told(err) != wantErr || !slices.Equal(l, wantL) || !slices.Equal(r, wantR) {
		t.Errorf("Cover(%d, %d, %v) = %v, %v, %v, want %v, %v, %v",
			left, right, lines, l, r, err, wantL, wantR, wantErr)
	}
}

// TestCheckOfGood covers R11.1: sides without vertices, the largest ones, parallel
// edges, edges between vertices of the same number, and as many as there may be.
func TestCheckOfGood(t *testing.T) {
	for _, c := range []struct {
		left, right int
		lines       []api.Line
	}{
		{0, 0, nil},
		{0, 0, edges()},
		{0, 6, nil},
		{6, 0, nil},
		{6, 6, nil},
		{1, 1, edges(0, 0)},
		{6, 6, edges(5, 5, 0, 0, 5, 0, 0, 5)},
		{6, 1, edges(5, 0)},
		{1, 6, edges(0, 5)},
		{1, 1, slices.Repeat(edges(0, 0), 24)},
		{6, 4, everyPair(6, 4)},
		{4, 6, everyPair(4, 6)},
	} {
		if err := match.Check(c.left, c.right, c.lines); err != nil {
			t.Errorf("Check(%d, %d, %v) = %v, want nil", c.left, c.right, c.lines, err)
		}
	}
}

// TestSizeAndCover covers R11.2 and R11.3: graphs without vertices or edges, left
// vertices that some maximum matching leaves out, and those that none does.
func TestSizeAndCover(t *testing.T) {
	for _, c := range []struct {
		left, right int
		lines       []api.Line
		most        int
		l, r        []int
	}{
		{0, 0, nil, 0, nil, nil},
		{0, 6, nil, 0, nil, nil},
		{6, 0, edges(), 0, nil, nil},
		{6, 6, nil, 0, nil, nil},
		// The example of the document.
		{2, 1, edges(0, 0, 1, 0), 1, nil, []int{0}},
		{2, 1, edges(1, 0, 0, 0), 1, nil, []int{0}},
		{1, 1, edges(0, 0), 1, []int{0}, nil},
		{1, 1, slices.Repeat(edges(0, 0), 24), 1, []int{0}, nil},
		{1, 2, edges(0, 0, 0, 1), 1, []int{0}, nil},
		{2, 1, edges(1, 0), 1, []int{1}, nil},
		{2, 2, edges(0, 0, 1, 1), 2, []int{0, 1}, nil},
		{2, 2, edges(1, 0, 0, 1), 2, []int{0, 1}, nil},
		{2, 2, everyPair(2, 2), 2, []int{0, 1}, nil},
		// The first choice has to be undone.
		{2, 2, edges(0, 0, 0, 1, 1, 0), 2, []int{0, 1}, nil},
		{3, 3, edges(0, 0, 0, 1, 1, 0, 1, 2, 2, 0), 3, []int{0, 1, 2}, nil},
		{3, 3, edges(0, 0, 0, 1, 1, 1, 1, 2, 2, 0), 3, []int{0, 1, 2}, nil},
		{6, 6, edges(0, 0, 0, 1, 1, 1, 1, 2, 2, 2, 2, 3, 3, 3, 3, 4, 4, 4, 4, 5, 5, 0), 6, []int{0, 1, 2, 3, 4, 5}, nil},
		// One left vertex must stay out, but any of a few can.
		{3, 2, edges(0, 0, 0, 1, 1, 0, 1, 1, 2, 0, 2, 1), 2, nil, []int{0, 1}},
		{3, 2, edges(0, 0, 1, 0, 2, 1), 2, []int{2}, []int{0}},
		{3, 2, edges(0, 0, 1, 0, 1, 1, 2, 1), 2, nil, []int{0, 1}},
		{3, 3, edges(0, 0, 1, 0, 2, 0, 2, 1, 2, 2), 2, []int{2}, []int{0}},
		{3, 4, edges(0, 3, 1, 3, 2, 0, 2, 1), 2, []int{2}, []int{3}},
		{4, 4, edges(3, 0, 2, 0, 1, 1, 1, 2, 1, 3), 2, []int{1}, []int{0}},
		// A right vertex of r may be joined with a left vertex of l too.
		{4, 2, edges(0, 0, 1, 0, 2, 0, 3, 1, 3, 0), 2, []int{3}, []int{0}},
		// An isolated left vertex is covered by none, and adds nothing to r.
		{3, 3, edges(0, 1, 2, 2), 2, []int{0, 2}, nil},
		{6, 6, edges(5, 0), 1, []int{5}, nil},
		{6, 6, edges(0, 5, 1, 5, 2, 5, 3, 5, 4, 5, 5, 5), 1, nil, []int{5}},
		{6, 6, edges(5, 0, 5, 1, 5, 2, 5, 3, 5, 4, 5, 5), 1, []int{5}, nil},
		{6, 6, edges(5, 0, 5, 1, 5, 2, 0, 3, 1, 3, 2, 3), 2, []int{5}, []int{3}},
		{6, 4, everyPair(6, 4), 4, nil, []int{0, 1, 2, 3}},
		{4, 6, everyPair(4, 6), 4, []int{0, 1, 2, 3}, nil},
		{6, 6, edges(0, 5, 1, 4, 2, 3, 3, 2, 4, 1, 5, 0), 6, []int{0, 1, 2, 3, 4, 5}, nil},
		{6, 5, edges(0, 0, 1, 0, 1, 1, 2, 1, 2, 2, 3, 2, 3, 3, 4, 3, 4, 4, 5, 4), 5, nil, []int{0, 1, 2, 3, 4}},
	} {
		for _, lines := range [][]api.Line{c.lines, turned(c.lines)} {
			expectMost(t, c.left, c.right, lines, c.most, api.OK)
			expectMost(t, c.right, c.left, swapped(lines), c.most, api.OK)
			expectCover(t, c.left, c.right, lines, c.l, c.r, api.OK)
		}
	}
}

// TestMostOfAllMatchings covers R11.2, among graphs of every size of a maximum matching.
func TestMostOfAllMatchings(t *testing.T) {
	found := map[int]int{}
	everyGraph(func(left, right int, lines []api.Line) {
		want, _ := matchingsOf(left, right, lines)
		found[want]++
		expectMost(t, left, right, lines, want, api.OK)
	})
	for size := range api.MaxSide + 1 {
		if found[size] < 50 {
			t.Errorf("%d graphs with maximum matchings of size %d: too few", found[size], size)
		}
	}
}

// TestCoverOfAllMatchings covers R11.3: the two lists are as they are defined, and
// they are a cover, and no smaller one exists.
func TestCoverOfAllMatchings(t *testing.T) {
	type kind struct{ someL, someR bool }
	found := map[kind]int{}
	everyGraph(func(left, right int, lines []api.Line) {
		_, wantL := matchingsOf(left, right, lines)
		wantR := openOf(lines, wantL)
		found[kind{len(wantL) > 0, len(wantR) > 0}]++
		expectCover(t, left, right, lines, wantL, wantR, api.OK)
		l, r, _ := match.Cover(left, right, lines)
		if !isCover(lines, l, r) {
			t.Errorf("Cover(%d, %d, %v) = %v, %v: not a cover", left, right, lines, l, r)
		}
		if least := leastCoverOf(left, lines); len(l)+len(r) != least {
			t.Errorf("Cover(%d, %d, %v) = %v, %v: not of %d vertices", left, right, lines, l, r, least)
		}
	})
	for _, someL := range []bool{false, true} {
		for _, someR := range []bool{false, true} {
			if count := found[kind{someL, someR}]; count < 50 {
				t.Errorf("%d graphs of the kind %v, %v: too few", count, someL, someR)
			}
		}
	}
}

// TestErrors covers the errors of R11.1, their order, and that Most and Cover have
// the same ones.
func TestErrors(t *testing.T) {
	for _, c := range []struct {
		left, right int
		lines       []api.Line
		want        api.Errno
	}{
		{-1, 0, nil, api.ErrRange},
		{0, -1, nil, api.ErrRange},
		{7, 0, nil, api.ErrRange},
		{0, 7, nil, api.ErrRange},
		{7, 7, edges(0, 0), api.ErrRange},
		{6, 7, edges(5, 6), api.ErrRange},
		{7, 6, edges(6, 5), api.ErrRange},
		{1<<32 + 1, 1, nil, api.ErrRange},
		{1, 1<<32 + 1, nil, api.ErrRange},
		{math.MinInt, 1, nil, api.ErrRange},
		{1, math.MinInt, nil, api.ErrRange},
		{math.MaxInt, 1, nil, api.ErrRange},
		{1, math.MaxInt, nil, api.ErrRange},
		{7, 1, slices.Repeat(edges(0, 0), 25), api.ErrRange},
		{1, -1, slices.Repeat(edges(0, 0), 25), api.ErrRange},
		{1, 1, slices.Repeat(edges(0, 0), 25), api.ErrFull},
		{6, 6, everyPair(6, 6), api.ErrFull},
		{5, 5, everyPair(5, 5), api.ErrFull},
		{1, 1, slices.Repeat(edges(1, 0), 25), api.ErrFull},
		{0, 0, slices.Repeat(edges(-1, 0), 25), api.ErrFull},
		{0, 0, edges(0, 0), api.ErrRange},
		{0, 1, edges(0, 0), api.ErrRange},
		{1, 0, edges(0, 0), api.ErrRange},
		{1, 1, edges(1, 0), api.ErrRange},
		{1, 1, edges(0, 1), api.ErrRange},
		{1, 1, edges(-1, 0), api.ErrRange},
		{1, 1, edges(0, -1), api.ErrRange},
		// The number is a vertex of the other side only.
		{2, 5, edges(4, 1), api.ErrRange},
		{5, 2, edges(1, 4), api.ErrRange},
		{2, 3, edges(2, 0), api.ErrRange},
		{3, 2, edges(0, 2), api.ErrRange},
		{6, 6, edges(0, 0, 5, 5, 6, 0), api.ErrRange},
		{6, 6, edges(0, 0, 5, 5, 0, 6), api.ErrRange},
		{6, 6, append(everyPair(6, 4)[:23], api.Line{A: 0, B: 6}), api.ErrRange},
		{6, 6, edges(math.MinInt, 0), api.ErrRange},
		{6, 6, edges(0, math.MaxInt), api.ErrRange},
	} {
		if err := match.Check(c.left, c.right, c.lines); plain.Told(err) != c.want {
			t.Errorf("Check(%d, %d, %v) = %v, want %v", c.left, c.right, c.lines, err, c.want)
		}
		expectMost(t, c.left, c.right, c.lines, 0, c.want)
		expectCover(t, c.left, c.right, c.lines, nil, nil, c.want)
	}
}

// overwritten fills a slice and its spare capacity, and returns what it held.
func overwritten(list []int) []int {
	held := slices.Clone(list)
	whole := list[:cap(list)]
	for i := range whole {
		whole[i] = 99
	}
	return held
}

// TestNoAliasing covers Z2: the edges and the memory behind them stay as they are,
// with an error too, the two lists of Cover share no memory, and a later result does
// not depend on what became of an earlier one.
func TestNoAliasing(t *testing.T) {
	calls := map[string]func(left, right int, lines []api.Line) (l, r []int, err error){
		"Cover": match.Cover,
		"Check": func(left, right int, lines []api.Line) (l, r []int, err error) {
			return nil, nil, match.Check(left, right, lines)
		},
		"Most": func(left, right int, lines []api.Line) (l, r []int, err error) {
			size, err := match.Most(left, right, lines)
			return []int{size}, nil, err
		},
	}
	for _, lines := range [][]api.Line{
		{}, edges(3, 1), edges(0, 0, 1, 0, 2, 1, 2, 2, 3, 3), edges(3, 0, 2, 0, 1, 0, 0, 1),
		everyPair(4, 4), edges(3, 0, 2, 1, 1, 2, 0, 3), slices.Repeat(edges(2, 3), 24),
		edges(1, 0, 1, 4), edges(1, 0, 4, 0), slices.Repeat(edges(2, 1), 25),
	} {
		for name, call := range calls {
			memory := append(slices.Clone(lines), edges(7, 7, 7, 7, 7, 7, 7, 7)...)
			argument := memory[:len(lines)]
			kept := slices.Clone(memory)
			l, r, firstErr := call(4, 4, argument)
			wantL, wantR := slices.Clone(l), slices.Clone(r)
			overwritten(l)
			if held := overwritten(r); !slices.Equal(held, wantR) {
				t.Errorf("%s of %v: the results share memory", name, lines)
			}
			l, r, err := call(4, 4, argument)
			if !slices.Equal(l, wantL) || !slices.Equal(r, wantR) || plain.Told(err) != plain.Told(firstErr) {
				t.Errorf("%s of %v: first %v, %v, %v, then %v, %v, %v",
					name, lines, wantL, wantR, firstErr, l, r, err)
			}
			if !slices.Equal(memory, kept) {
				t.Errorf("%s of %v changes its argument", name, lines)
			}
		}
	}
}
