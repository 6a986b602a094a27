package gaps_test

import (
	"fmt"
	"math"
	"slices"
	"strconv"
	"strings"
	"testing"

	"brambleweir/api"
	"brambleweir/gaps"
	"brambleweir/plain"
)

// bitsOf turns a text of 0s and 1s, in which spaces mean nothing, into bits.
func bitsOf(text string) []int {
	bits := []int{}
	for _, c := range strings.ReplaceAll(text, " ", "") {
		bits = append(bits, int(c-'0'))
	}
	return bits
}

// gammaText is the definition of the gamma code, written with strings.
func gammaText(n int) string {
	digits := strconv.FormatInt(int64(n), 2)
	return strings.Repeat("0", len(digits)-1) + digits
}

// deltaText is the delta codes of the numbers, by their definition.
func deltaText(numbers ...int) string {
	text := ""
	for _, n := range numbers {
		digits := strconv.FormatInt(int64(n), 2)
		text += gammaText(len(digits)) + digits[1:]
	}
	return text
}

// writtenText is the definition of what Write returns, for a valid list.
func writtenText(l []int) string {
	text := deltaText(len(l) + 1)
	for i, n := range l {
		if i == 0 {
			text += deltaText(n + 1)
		} else {
			text += deltaText(n - l[i-1])
		}
	}
	return text
}

// rising returns count numbers from first on, each step larger than the one before.
func rising(first, step, count int) []int {
	list := make([]int, count)
	for i := range list {
		list[i] = first + i*step
	}
	return list
}

// subset returns the numbers whose binary digits in mask are 1.
func subset(mask int) []int {
	list := []int{}
	for n := 0; mask>>n > 0; n++ {
		if mask>>n&1 == 1 {
			list = append(list, n)
		}
	}
	return list
}

// expect compares the results of a call with a list, or with an error and no list.
func expect[E comparable](t *testing.T, call string, got []E, err error, want []E, wantErr api.Errno) {
	t.Helper()
	if wantErr != api.OK {
		want = nil
	}
	if plain.Told(err) != wantErr || !slices.Equal(got, want) {
		t.Errorf("%s: got %v, %v; want %v, %v", call, got, err, want, wantErr)
	}
}

// expectCheck compares the errors of the three functions that take a list, and
// that the results are empty if there is one.
func expectCheck(t *testing.T, l []int, want api.Errno) {
	t.Helper()
	if err := gaps.Check(l); plain.Told(err) != want {
		t.Errorf("Check(%v): got %v, want %v", l, err, want)
	}
	bits, err := gaps.Write(l)
	if plain.Told(err) != want || (want != api.OK && len(bits) > 0) {
		t.Errorf("Write(%v): got %v, %v; want %v", l, bits, err, want)
	}
	runs, err := gaps.Runs(l)
	if plain.Told(err) != want || (want != api.OK && len(runs) > 0) {
		t.Errorf("Runs(%v): got %v, %v; want %v", l, runs, err, want)
	}
}

// TestCheck covers R2.1, and the errors of R2.2 and R2.4, with single lists.
func TestCheck(t *testing.T) {
	for _, c := range []struct {
		list []int
		want api.Errno
	}{
		{nil, api.OK},
		{[]int{}, api.OK},
		{[]int{0}, api.OK},
		{[]int{999_999}, api.OK},
		{[]int{0, 999_999}, api.OK},
		{[]int{0, 1, 2, 3}, api.OK},
		{[]int{999_998, 999_999}, api.OK},
		{[]int{3, 3}, api.ErrShape},
		{[]int{0, 0}, api.ErrShape},
		{[]int{999_999, 999_999}, api.ErrShape},
		{[]int{1, 0}, api.ErrShape},
		{[]int{0, 5, 4}, api.ErrShape},
		{[]int{0, 5, 5}, api.ErrShape},
		{[]int{0, 5, 6, 3}, api.ErrShape},
		{[]int{-1}, api.ErrRange},
		{[]int{-2}, api.ErrRange},
		{[]int{1_000_000}, api.ErrRange},
		{[]int{1_000_001}, api.ErrRange},
		{[]int{1 << 32}, api.ErrRange},
		{[]int{math.MinInt}, api.ErrRange},
		{[]int{math.MaxInt}, api.ErrRange},
		{[]int{0, 1_000_000}, api.ErrRange},
		{[]int{0, math.MaxInt}, api.ErrRange},
	} {
		expectCheck(t, c.list, c.want)
	}
}

// TestCheckOrder covers the order of the errors of R2.1, R2.2 and R2.4: the length
// is first, then the first wrong number, and for one number its range.
func TestCheckOrder(t *testing.T) {
	for _, c := range []struct {
		list []int
		want api.Errno
	}{
		{[]int{5, -1}, api.ErrRange},
		{[]int{5, math.MinInt}, api.ErrRange},
		{[]int{-1, -1}, api.ErrRange},
		{[]int{-1, -2}, api.ErrRange},
		{[]int{1_000_000, 3}, api.ErrRange},
		{[]int{3, 3, -1}, api.ErrShape},
		{[]int{3, 2, 1_000_000}, api.ErrShape},
		{[]int{3, 1_000_000, 3}, api.ErrRange},
		{[]int{3, -1, 3}, api.ErrRange},
		{[]int{1, 2, 3, 3, math.MinInt, 1}, api.ErrShape},
		{rising(0, 1, 30), api.OK},
		{rising(0, 1, 31), api.ErrFull},
		{rising(0, 1, 1000), api.ErrFull},
		{rising(999_970, 1, 30), api.OK},
		{rising(999_971, 1, 30), api.ErrRange},
		{rising(999_971, 1, 31), api.ErrFull},
		{rising(4, 0, 30), api.ErrShape},
		{rising(4, 0, 31), api.ErrFull},
		{rising(40, -1, 30), api.ErrShape},
		{rising(-1, 1, 30), api.ErrRange},
		{rising(-1, -1, 31), api.ErrFull},
		{append(rising(0, 1, 29), 28), api.ErrShape},
		{append(rising(0, 1, 29), -1), api.ErrRange},
		{append(rising(0, 1, 30), 29), api.ErrFull},
		{append(rising(0, 1, 30), -1), api.ErrFull},
	} {
		expectCheck(t, c.list, c.want)
	}
}

// checkOf is the definition of the error of a list that is not too long.
func checkOf(l []int) api.Errno {
	for i := range l {
		if l[i] < 0 || l[i] > 999_999 {
			return api.ErrRange
		}
		if i > 0 && l[i-1] >= l[i] {
			return api.ErrShape
		}
	}
	return api.OK
}

// TestCheckEveryShortList covers R2.1, and the errors of R2.2 and R2.4, for all
// lists of at most four of the numbers at the ends of the range and inside it.
func TestCheckEveryShortList(t *testing.T) {
	values := []int{math.MinInt, -1, 0, 1, 2, 999_999, 1_000_000, math.MaxInt}
	lists := [][]int{{}}
	for range 4 {
		for _, list := range lists {
			for _, value := range values {
				lists = append(lists, append(slices.Clone(list), value))
			}
		}
		slices.SortFunc(lists, slices.Compare)
		lists = slices.CompactFunc(lists, slices.Equal)
	}
	for _, list := range lists {
		expectCheck(t, list, checkOf(list))
	}
}

// TestWriteExamples covers R2.2 and R2.3 with codes that are written out.
func TestWriteExamples(t *testing.T) {
	for _, c := range []struct {
		list []int
		bits string
	}{
		{nil, "1"},
		{[]int{}, "1"},
		{[]int{0}, "0100 1"},
		{[]int{1}, "0100 0100"},
		{[]int{2}, "0100 0101"},
		{[]int{0, 1}, "0101 1 1"},
		{[]int{0, 2}, "0101 1 0100"},
		{[]int{2, 5}, "0101 0101 0101"},
		{[]int{4, 5, 7}, "01100 01101 1 0100"},
		{[]int{999_999}, "0100 000010100 1110100001001000000"},
		{[]int{0, 999_999}, "0101 1 000010100 1110100001000111111"},
	} {
		bits, err := gaps.Write(c.list)
		expect(t, fmt.Sprintf("Write(%v)", c.list), bits, err, bitsOf(c.bits), api.OK)
		list, err := gaps.Read(bitsOf(c.bits))
		expect(t, "Read("+c.bits+")", list, err, c.list, api.OK)
	}
}

// TestWriteEverySubset covers R2.2 and R2.3: every list of numbers below 14 has
// the codes that the definition gives, and is read back from them.
func TestWriteEverySubset(t *testing.T) {
	for mask := range 1 << 14 {
		list := subset(mask)
		bits, err := gaps.Write(list)
		expect(t, fmt.Sprintf("Write(%v)", list), bits, err, bitsOf(writtenText(list)), api.OK)
		back, err := gaps.Read(bits)
		expect(t, fmt.Sprintf("Read(Write(%v))", list), back, err, list, api.OK)
	}
}

// TestWriteLists covers R2.2 and R2.3 for lists of all lengths with differences
// of all sizes, those among them whose codes are too many bits to be read.
func TestWriteLists(t *testing.T) {
	tooLong := 0
	for count := range api.MaxList + 1 {
		for _, step := range []int{1, 2, 3, 7, 100, 1023, 1024, 5000, 16384, 32768, 33000} {
			for _, first := range []int{0, 1, 6, 9999} {
				list := rising(first, step, count)
				want := bitsOf(writtenText(list))
				bits, err := gaps.Write(list)
				expect(t, fmt.Sprintf("Write(%v)", list), bits, err, want, api.OK)
				wantErr := api.OK
				if len(want) > api.MaxBits {
					tooLong++
					wantErr = api.ErrFull
				}
				back, err := gaps.Read(want)
				expect(t, fmt.Sprintf("Read of %v", list), back, err, list, wantErr)
			}
		}
	}
	if tooLong == 0 {
		t.Error("no list was too long to be read")
	}
}

// TestWriteMostBits covers R2.2 and R2.3 at MaxBits: Write has no limit of its
// own on the bits, and Read has that of elias.ReadDelta.
func TestWriteMostBits(t *testing.T) {
	// 9 bits for the length, 8 for each of three differences of 8, and 21 for each
	// of 27 differences of 16384; a difference of 16 instead of 8 takes one more.
	fits := append([]int{7, 15, 23}, rising(23+16384, 16384, 27)...)
	tooMany := append([]int{15, 23, 31}, rising(31+16384, 16384, 27)...)
	for _, c := range []struct {
		list []int
		size int
		want api.Errno
	}{{fits, api.MaxBits, api.OK}, {tooMany, api.MaxBits + 1, api.ErrFull}} {
		bits, err := gaps.Write(c.list)
		expect(t, fmt.Sprintf("Write(%v)", c.list), bits, err, bitsOf(writtenText(c.list)), api.OK)
		if len(bits) != c.size {
			t.Errorf("Write(%v): got %d bits, want %d", c.list, len(bits), c.size)
		}
		back, err := gaps.Read(bits)
		expect(t, fmt.Sprintf("Read of %v", c.list), back, err, c.list, c.want)
	}
}

// TestReadErrors covers the errors of R2.3 with encoded numbers, and their order.
func TestReadErrors(t *testing.T) {
	ones := func(first, count int) []int { return append([]int{first}, rising(1, 0, count-1)...) }
	for _, c := range []struct {
		numbers []int
		want    api.Errno
	}{
		{nil, api.ErrNone},
		{[]int{2}, api.ErrShape},
		{[]int{1_000_000}, api.ErrShape},
		{[]int{1, 1}, api.ErrShape},
		{[]int{3, 1}, api.ErrShape},
		{[]int{2, 1, 1}, api.ErrShape},
		{[]int{4, 1, 1}, api.ErrShape},
		{[]int{2, 1_000_000}, api.OK},
		{[]int{3, 1_000_000, 1}, api.ErrRange},
		{[]int{3, 1, 999_999}, api.OK},
		{[]int{3, 1, 1_000_000}, api.ErrRange},
		{[]int{3, 2, 999_999}, api.ErrRange},
		{[]int{3, 500_000, 500_000}, api.OK},
		{[]int{3, 500_000, 500_001}, api.ErrRange},
		{[]int{3, 1_000_000, 1_000_000}, api.ErrRange},
		{[]int{4, 1_000_000, 1, 1}, api.ErrRange},
		{[]int{4, 999_999, 1, 1}, api.ErrRange},
		{[]int{4, 999_998, 1, 1}, api.OK},
		{[]int{2, 1_000_000, 1}, api.ErrShape},
		{[]int{4, 1_000_000, 1_000_000}, api.ErrShape},
		{ones(30, 30), api.OK},
		{ones(31, 31), api.OK},
		{ones(30, 31), api.ErrShape},
		{ones(32, 31), api.ErrShape},
		{ones(32, 32), api.ErrFull},
		{ones(31, 32), api.ErrFull},
		{ones(1, 32), api.ErrFull},
		{ones(33, 33), api.ErrFull},
		{ones(1, 600), api.ErrFull},
		{append(ones(32, 30), 1_000_000, 1_000_000), api.ErrFull},
		{append(ones(31, 30), 999_971), api.OK},
		{append(ones(31, 30), 999_972), api.ErrRange},
		{append(ones(30, 30), 999_972), api.ErrShape},
	} {
		want := []int{}
		sum := -1
		for _, n := range c.numbers[min(1, len(c.numbers)):] {
			sum += n
			want = append(want, sum)
		}
		list, err := gaps.Read(bitsOf(deltaText(c.numbers...)))
		expect(t, fmt.Sprintf("Read of the codes of %v", c.numbers), list, err, want, c.want)
	}
	list, err := gaps.Read(nil)
	expect(t, "Read(nil)", list, err, nil, api.ErrNone)
}

// TestReadOtherBits covers that the errors of elias.ReadDelta are those of R2.3
// too, and come first.
func TestReadOtherBits(t *testing.T) {
	for _, c := range []struct {
		name string
		bits []int
		want api.Errno
	}{
		{"an incomplete code", bitsOf("0"), api.ErrSyntax},
		{"a missing bit", bitsOf("0100 0"), api.ErrSyntax},
		{"one bit more", bitsOf("0100 1 0"), api.ErrSyntax},
		{"a large number", bitsOf(deltaText(2, api.MaxNum+1)), api.ErrSyntax},
		{"a wrong first number and an incomplete code", bitsOf("1 1 0"), api.ErrSyntax},
		{"too many numbers and an incomplete code", append(rising(1, 0, 40), 0), api.ErrSyntax},
		{"a large number of the list and an incomplete code", bitsOf(deltaText(3, api.MaxNum, 1) + "0"), api.ErrSyntax},
		{"a two", []int{2}, api.ErrRange},
		{"a wrong element at the end", []int{0, 1, 0, 0, 1, -1}, api.ErrRange},
		{"a wrong element after a wrong first number", []int{1, 1, math.MinInt}, api.ErrRange},
		{"a wrong element after too many numbers", append(rising(1, 0, 40), math.MaxInt), api.ErrRange},
		{"601 ones", rising(1, 0, api.MaxBits+1), api.ErrFull},
		{"601 twos", rising(2, 0, api.MaxBits+1), api.ErrFull},
		{"601 zeros", make([]int, api.MaxBits+1), api.ErrFull},
		{"600 twos", rising(2, 0, api.MaxBits), api.ErrRange},
		{"600 zeros", make([]int, api.MaxBits), api.ErrSyntax},
	} {
		list, err := gaps.Read(c.bits)
		expect(t, "Read of "+c.name, list, err, nil, c.want)
	}
}

// TestReadEveryShortList covers R2.3 for all lists of at most 14 bits: those that
// Write returns for a list are read as it, and all others have an error.
func TestReadEveryShortList(t *testing.T) {
	const longest = 14
	written := map[string][]int{}
	for first := range 200 {
		written[writtenText([]int{first})] = []int{first}
	}
	for mask := range 1 << 12 {
		list := subset(mask)
		written[writtenText(list)] = list
	}
	for first := range 40 {
		for gap := range 40 {
			list := []int{first, first + gap + 1}
			written[writtenText(list)] = list
		}
	}
	for mark := 1; mark < 2<<longest; mark++ {
		text := strconv.FormatInt(int64(mark), 2)[1:]
		list, err := gaps.Read(bitsOf(text))
		if want, ok := written[text]; ok {
			expect(t, "Read("+text+")", list, err, want, api.OK)
			continue
		}
		if len(list) > 0 || err == nil {
			t.Errorf("Read(%s): got %v, %v; want an error, for no list has these codes", text, list, err)
		}
	}
}

// runsOf is the definition of the runs: a number starts one if the number before
// it is not in the list, and the run goes on as long as the next one is.
func runsOf(l []int) [][2]int {
	runs := [][2]int{}
	for _, n := range l {
		if slices.Contains(l, n-1) {
			continue
		}
		size := 1
		for slices.Contains(l, n+size) {
			size++
		}
		runs = append(runs, [2]int{n, size})
	}
	return runs
}

// TestRuns covers R2.4 with lists at the ends of the range and with all lists of
// numbers below 14; its errors are in the tests of Check.
func TestRuns(t *testing.T) {
	for _, c := range []struct {
		list []int
		want [][2]int
	}{
		{nil, nil},
		{[]int{}, nil},
		{[]int{0}, [][2]int{{0, 1}}},
		{[]int{999_999}, [][2]int{{999_999, 1}}},
		{[]int{2, 3, 7}, [][2]int{{2, 2}, {7, 1}}},
		{[]int{0, 2, 4}, [][2]int{{0, 1}, {2, 1}, {4, 1}}},
		{[]int{0, 1, 3, 4, 5, 9}, [][2]int{{0, 2}, {3, 3}, {9, 1}}},
		{[]int{0, 999_998, 999_999}, [][2]int{{0, 1}, {999_998, 2}}},
		{rising(0, 1, 30), [][2]int{{0, 30}}},
		{rising(999_970, 1, 30), [][2]int{{999_970, 30}}},
		{rising(5, 3, 30), runsOf(rising(5, 3, 30))},
	} {
		runs, err := gaps.Runs(c.list)
		expect(t, fmt.Sprintf("Runs(%v)", c.list), runs, err, c.want, api.OK)
	}
	for mask := range 1 << 14 {
		list := subset(mask)
		runs, err := gaps.Runs(list)
		expect(t, fmt.Sprintf("Runs(%v)", list), runs, err, runsOf(list), api.OK)
	}
}

// fill sets all elements of a list and of its spare capacity.
func fill[E any](list []E, value E) {
	list = list[:cap(list)]
	for i := range list {
		list[i] = value
	}
}

// expectSeparate calls a function twice with a list that has spare capacity, and
// checks Z2: the list and its spare capacity stay as they are, and overwriting
// the first result or the list changes nothing that the second call returned.
func expectSeparate[E comparable](t *testing.T, name string, call func([]int) ([]E, error), list []int, other E) {
	t.Helper()
	memory := append(slices.Clone(list), 7, 7, 7, 7)
	kept := slices.Clone(memory)
	argument := memory[:len(list)]
	first, firstErr := call(argument)
	want := slices.Clone(first)
	fill(first, other)
	if !slices.Equal(memory, kept) {
		t.Errorf("%s(%v) changes its argument, or shares its memory", name, list)
	}
	second, err := call(argument)
	expect(t, name+" again", second, err, want, plain.Told(firstErr))
	fill(memory, 5)
	expect(t, name+" kept", second, err, want, plain.Told(firstErr))
}

// TestNoAliasing covers Z2.
func TestNoAliasing(t *testing.T) {
	lists := [][]int{{}, {0}, {4}, {0, 1, 2}, {2, 3, 7}, {3, 3}, {-1}, rising(0, 2, 30), rising(0, 2, 31)}
	for _, list := range lists {
		memory := append(slices.Clone(list), 7, 7, 7, 7)
		kept := slices.Clone(memory)
		gaps.Check(memory[:len(list)])
		if !slices.Equal(memory, kept) {
			t.Errorf("Check(%v) changes its argument", list)
		}
		expectSeparate(t, "Write", gaps.Write, list, 9)
		expectSeparate(t, "Runs", gaps.Runs, list, [2]int{9, 9})
	}
	for _, text := range []string{"", "0", "1", "11", "0100 1", "0101 1 1", deltaText(3, 1_000_000, 1)} {
		expectSeparate(t, "Read", gaps.Read, bitsOf(text), 9)
	}
}
