// Package elias encodes positive integers as self-delimiting bit strings: lists
// of 0s and 1s that need no separators to be read back.
package elias

import (
	"slices"

	"brambleweir/api"
)

// Gamma returns the Elias gamma code of n: if n has k+1 binary digits, k zeros
// followed by these digits.
func Gamma(n int) ([]int, error) {
	if !hasCode(n) {
		return nil, api.ErrRange
	}
	return gammaOf(digitsOf(n)), nil
}

// Delta returns the Elias delta code of n: the gamma code of its number of
// binary digits, followed by these digits without the most significant one.
func Delta(n int) ([]int, error) {
	if !hasCode(n) {
		return nil, api.ErrRange
	}
	digits := digitsOf(n)
	size := gammaOf(digitsOf(len(digits)))
	return append(size, digits[1:]...), nil
}

// ReadGamma returns the numbers of which bits is the concatenation of the gamma
// codes.
func ReadGamma(bits []int) ([]int, error) {
	return readAll(bits, cutGamma)
}

// ReadDelta returns the numbers of which bits is the concatenation of the delta
// codes.
func ReadDelta(bits []int) ([]int, error) {
	return readAll(bits, cutDelta)
}

// hasCode reports whether n is one of the numbers that can be encoded.
func hasCode(n int) bool {
	return n >= 1 && n <= api.MaxNum
}

// digitsOf returns the binary digits of a positive number, the most significant
// one first.
func digitsOf(n int) []int {
	var digits []int
	for ; n > 0; n /= 2 {
		digits = append(digits, n%2)
	}
	slices.Reverse(digits)
	return digits
}

// gammaOf returns the gamma code of the number with the given binary digits.
func gammaOf(digits []int) []int {
	zeros := make([]int, len(digits)-1)
	return append(zeros, digits...)
}

// readAll decodes bits with cut, which decodes the first code of a nonempty list
// and returns its number and the bits after it, or false if there is no such code.
func readAll(bits []int, cut func([]int) (int, []int, bool)) ([]int, error) {
	if err := check(bits); err != nil {
		return nil, err
	}
	var numbers []int
	for len(bits) > 0 {
		n, rest, ok := cut(bits)
		if !ok {
			return nil, api.ErrSyntax
		}
		numbers = append(numbers, n)
		bits = rest
	}
	return numbers, nil
}

// check returns the error of a list that is too long or has an element that is
// not a bit.
func check(bits []int) error {
	if len(bits) > api.MaxBits {
		return api.ErrFull
	}
	for _, bit := range bits {
		if bit != 0 && bit != 1 {
			return api.ErrRange
		}
	}
	return nil
}

// cutGamma decodes the gamma code at the start of bits.
func cutGamma(bits []int) (n int, rest []int, ok bool) {
	zeros := 0
	for zeros < len(bits) && bits[zeros] == 0 {
		zeros++
	}
	return cutDigits(0, bits[zeros:], zeros+1)
}

// cutDelta decodes the delta code at the start of bits.
func cutDelta(bits []int) (n int, rest []int, ok bool) {
	size, rest, ok := cutGamma(bits)
	if !ok {
		return 0, nil, false
	}
	// The code leaves out the most significant digit, which is always 1.
	return cutDigits(1, rest, size-1)
}

// cutDigits appends the first count bits to the binary digits of n. It returns
// false if there are fewer bits or the number has no code.
func cutDigits(n int, bits []int, count int) (number int, rest []int, ok bool) {
	if count > len(bits) {
		return 0, nil, false
	}
	for _, bit := range bits[:count] {
		n = 2*n + bit
		// Checked at every digit, because the complete number may overflow an int.
		if n > api.MaxNum {
			return 0, nil, false
		}
	}
	return n, bits[count:], true
}
