package elias_test

import (
	"math"
	"slices"
	"strconv"
	"strings"
	"testing"

	"brambleweir/api"
	"brambleweir/elias"
	"brambleweir/plain"
)

// bitsOf turns a text of 0s and 1s, in which spaces mean nothing, into bits.
func bitsOf(text string) []int {
	bits := []int{}
	for _, c := range strings.ReplaceAll(text, " ", "") {
		bits = append(bits, int(c-'0'))
	}
	return bits
}

// gammaText is the definition of the gamma code, written with strings.
func gammaText(n int) string {
	digits := strconv.FormatInt(int64(n), 2)
	return strings.Repeat("0", len(digits)-1) + digits
}

// deltaText is the definition of the delta code, written with strings.
func deltaText(n int) string {
	digits := strconv.FormatInt(int64(n), 2)
	return gammaText(len(digits)) + digits[1:]
}

// A code is one of the two codes, with the definition that it is tested against.
type code struct {
	name  string
	write func(int) ([]int, error)
	read  func([]int) ([]int, error)
	text  func(int) string
}

func codes() []code {
	return []code{
		{"Gamma", elias.Gamma, elias.ReadGamma, gammaText},
		{"Delta", elias.Delta, elias.ReadDelta, deltaText},
	}
}

// expect compares the results of a call with a list, or with an error and no list.
func expect(t *testing.T, call string, got []int, err error, want []int, wantErr api.Errno) {
	t.Helper()
	if wantErr != api.OK {
		want = nil
	}
	if plain.Told(err) != wantErr || !slices.Equal(got, want) {
		t.Errorf("%s: got %v, %v; want %v, %v", call, got, err, want, wantErr)
	}
}

// TestWriteExamples covers R1.1 and R1.2 with codes that are written out.
func TestWriteExamples(t *testing.T) {
	for _, c := range []struct {
		n            int
		gamma, delta string
	}{
		{1, "1", "1"},
		{2, "0 10", "010 0"},
		{3, "0 11", "010 1"},
		{4, "00 100", "011 00"},
		{5, "00 101", "011 01"},
		{7, "00 111", "011 11"},
		{8, "000 1000", "00100 000"},
		{10, "000 1010", "00100 010"},
		{16, "0000 10000", "00101 0000"},
		{17, "0000 10001", "00101 0001"},
		{1_000_000, "0000000000000000000 11110100001001000000", "000010100 1110100001001000000"},
	} {
		call := "(" + strconv.Itoa(c.n) + ")"
		got, err := elias.Gamma(c.n)
		expect(t, "Gamma"+call, got, err, bitsOf(c.gamma), api.OK)
		got, err = elias.Delta(c.n)
		expect(t, "Delta"+call, got, err, bitsOf(c.delta), api.OK)
	}
}

// TestWriteRange covers the errors of R1.1 and R1.2.
func TestWriteRange(t *testing.T) {
	for _, n := range []int{0, -1, -5, math.MinInt, api.MaxNum + 1, 1<<20 - 1, 1 << 20, 1 << 32, math.MaxInt} {
		for _, c := range codes() {
			got, err := c.write(n)
			expect(t, c.name+"("+strconv.Itoa(n)+")", got, err, nil, api.ErrRange)
		}
	}
}

// TestEveryNumber covers R1.1 to R1.4 for single codes: every number has the code
// that the definition gives, and is read back from it.
func TestEveryNumber(t *testing.T) {
	for _, c := range codes() {
		for n := 1; n <= api.MaxNum; n++ {
			bits, err := c.write(n)
			if err != nil || !slices.Equal(bits, bitsOf(c.text(n))) {
				t.Fatalf("%s(%d): got %v, %v; want %s", c.name, n, bits, err, c.text(n))
			}
			numbers, err := c.read(bits)
			if err != nil || !slices.Equal(numbers, []int{n}) {
				t.Fatalf("Read%s(%v): got %v, %v; want [%d]", c.name, bits, numbers, err, n)
			}
		}
	}
}

// TestReadExamples covers R1.3 and R1.4 with lists of bits that are written out.
func TestReadExamples(t *testing.T) {
	for _, c := range []struct {
		bits         string
		gamma, delta []int // nil: ErrSyntax
	}{
		{"", []int{}, []int{}},
		{"1", []int{1}, []int{1}},
		{"111", []int{1, 1, 1}, []int{1, 1, 1}},
		{"1 010", []int{1, 2}, nil},
		{"0100", nil, []int{2}},
		{"0101", []int{2, 1}, []int{3}},
		{"1 0101 0100 1", nil, []int{1, 3, 2, 1}},
		{"00101 1 011", []int{5, 1, 3}, []int{27}},
		{"01100 1 01111", []int{3, 5, 1, 1, 1}, []int{4, 1, 7}},
		{"0", nil, nil},
		{"00000000", nil, nil},
		{"01", nil, nil},
		{"10", nil, nil},
		{"010", []int{2}, nil},
		{"0010", nil, nil},
		{"011 0", nil, nil},
		{"00100 00", nil, nil},
		{"1 1 1 0", nil, nil},
	} {
		for i, want := range [][]int{c.gamma, c.delta} {
			wantErr := api.OK
			if want == nil {
				wantErr = api.ErrSyntax
			}
			code := codes()[i]
			got, err := code.read(bitsOf(c.bits))
			expect(t, "Read"+code.name+"("+c.bits+")", got, err, want, wantErr)
		}
	}
	for _, c := range codes() {
		got, err := c.read(nil)
		expect(t, "Read"+c.name+"(nil)", got, err, nil, api.OK)
	}
}

// TestReadLargeNumbers covers the ErrSyntax of R1.3 and R1.4 for codes of numbers
// above MaxNum, among them numbers that are small modulo 2^64 or 2^32.
func TestReadLargeNumbers(t *testing.T) {
	gammaOf := func(digits string) string { return strings.Repeat("0", len(digits)-1) + digits }
	deltaOf := func(digits string) string { return gammaText(len(digits)) + digits[1:] }
	one := func(zeros int) string { return "1" + strings.Repeat("0", zeros-1) + "1" }
	for _, digits := range []string{
		strconv.FormatInt(api.MaxNum+1, 2),
		strings.Repeat("1", 20),
		"1" + strings.Repeat("0", 20),
		one(32), one(63), one(64), one(128), one(256),
		"1" + strings.Repeat("0", 64),
		strings.Repeat("1", 64),
		strings.Repeat("1", 300),
	} {
		for _, bits := range []string{gammaOf(digits), gammaOf(digits) + "1", "1" + gammaOf(digits)} {
			got, err := elias.ReadGamma(bitsOf(bits))
			want := api.ErrSyntax
			if len(bits) > api.MaxBits {
				want = api.ErrFull
			}
			expect(t, "ReadGamma("+bits+")", got, err, nil, want)
		}
		for _, bits := range []string{deltaOf(digits), deltaOf(digits) + "1", "1" + deltaOf(digits)} {
			got, err := elias.ReadDelta(bitsOf(bits))
			expect(t, "ReadDelta("+bits+")", got, err, nil, api.ErrSyntax)
		}
	}
	// Delta codes whose first part is the gamma code of a huge number of digits.
	for _, size := range []string{gammaText(21), gammaText(580), gammaText(api.MaxNum), gammaOf(one(64)), gammaOf("1" + strings.Repeat("0", 63))} {
		for _, rest := range []string{"", "1", strings.Repeat("0", 300), strings.Repeat("1", 300)} {
			got, err := elias.ReadDelta(bitsOf(size + rest))
			expect(t, "ReadDelta("+size+rest+")", got, err, nil, api.ErrSyntax)
		}
	}
}

// TestReadManyBits covers the ErrFull of R1.3 and R1.4, and that it comes first.
func TestReadManyBits(t *testing.T) {
	ones := slices.Repeat([]int{1}, api.MaxBits+1)
	zeros := make([]int, api.MaxBits+1)
	others := slices.Repeat([]int{2}, api.MaxBits+1)
	for _, c := range codes() {
		got, err := c.read(ones[:api.MaxBits])
		expect(t, "Read"+c.name+"(MaxBits ones)", got, err, ones[:api.MaxBits], api.OK)
		got, err = c.read(zeros[:api.MaxBits])
		expect(t, "Read"+c.name+"(MaxBits zeros)", got, err, nil, api.ErrSyntax)
		got, err = c.read(others[:api.MaxBits])
		expect(t, "Read"+c.name+"(MaxBits twos)", got, err, nil, api.ErrRange)
		for _, bits := range [][]int{ones, zeros, others} {
			got, err = c.read(bits)
			expect(t, "Read"+c.name+"(too many bits)", got, err, nil, api.ErrFull)
		}
	}
}

// TestReadOtherElements covers the ErrRange of R1.3 and R1.4, and that it comes
// before an ErrSyntax that stands further ahead in the list.
func TestReadOtherElements(t *testing.T) {
	for _, wrong := range []int{2, -1, 3, 10, 256, 1 << 32, 1<<32 + 1, math.MaxInt, math.MinInt} {
		for _, bits := range [][]int{
			{wrong},
			{1, wrong},
			{wrong, 1},
			{0, wrong},
			{0, 1, wrong},
			{0, 1, 0, wrong},
			{0, 0, 0, wrong},
			append(bitsOf(gammaText(1<<20)), wrong),
			append(make([]int, api.MaxBits-1), wrong),
		} {
			for _, c := range codes() {
				got, err := c.read(bits)
				expect(t, "Read"+c.name+"(a wrong element)", got, err, nil, api.ErrRange)
			}
		}
	}
}

// split reads a text as codes, by search instead of by counting zeros.
func split(text string, numbers map[string]int) ([]int, bool) {
	list := []int{}
	for start, end := 0, 1; start < len(text); end++ {
		if end > len(text) {
			return nil, false
		}
		if n, ok := numbers[text[start:end]]; ok {
			list = append(list, n)
			start = end
		}
	}
	return list, true
}

// TestReadEveryShortList covers R1.3 and R1.4 for all lists of at most 14 bits.
func TestReadEveryShortList(t *testing.T) {
	const longest = 14
	for _, c := range codes() {
		numbers := map[string]int{}
		for n := 1; n < 1<<longest; n++ {
			numbers[c.text(n)] = n
		}
		for mark := 1; mark < 2<<longest; mark++ {
			text := strconv.FormatInt(int64(mark), 2)[1:]
			want, ok := split(text, numbers)
			wantErr := api.OK
			if !ok {
				wantErr = api.ErrSyntax
			}
			got, err := c.read(bitsOf(text))
			expect(t, "Read"+c.name+"("+text+")", got, err, want, wantErr)
		}
	}
}

// TestReadConcatenations covers R1.3 and R1.4 for lists of several large codes.
func TestReadConcatenations(t *testing.T) {
	for _, c := range codes() {
		for step := 1; step < 2000; step++ {
			var want, bits []int
			for n := step; ; n = n*31%api.MaxNum + 1 {
				next := bitsOf(c.text(n))
				if len(bits)+len(next) > api.MaxBits {
					break
				}
				want = append(want, n)
				bits = append(bits, next...)
			}
			got, err := c.read(bits)
			expect(t, "Read"+c.name, got, err, want, api.OK)
			// Without its last bit, the last code is incomplete, unless it was the code of 1.
			if want[len(want)-1] != 1 {
				got, err = c.read(bits[:len(bits)-1])
				expect(t, "Read"+c.name+" without the last bit", got, err, nil, api.ErrSyntax)
			}
		}
	}
}

// fill sets all elements of a list and of its spare capacity.
func fill(list []int, value int) {
	list = list[:cap(list)]
	for i := range list {
		list[i] = value
	}
}

// TestNoAliasing covers Z2: arguments and their spare capacity stay as they are,
// and results share no memory with arguments or with later results.
func TestNoAliasing(t *testing.T) {
	for _, c := range codes() {
		for _, n := range []int{1, 2, 5, 900_001} {
			first, _ := c.write(n)
			fill(first, 7)
			second, err := c.write(n)
			expect(t, c.name+" again", second, err, bitsOf(c.text(n)), api.OK)
		}
		for _, text := range []string{"", "1", "11", "0101", "0", "01", c.text(900_001) + "1"} {
			memory := append(bitsOf(text), 7, 7, 7, 7)
			before := slices.Clone(memory)
			first, firstErr := c.read(memory[:len(text)])
			want := slices.Clone(first)
			fill(first, 9)
			if !slices.Equal(memory, before) {
				t.Errorf("Read%s(%s) changes its argument, or shares its memory", c.name, text)
			}
			second, err := c.read(memory[:len(text)])
			expect(t, "Read"+c.name+" again", second, err, want, plain.Told(firstErr))
			fill(memory, 5)
			expect(t, "Read"+c.name+" kept", second, err, want, plain.Told(firstErr))
		}
	}
}
