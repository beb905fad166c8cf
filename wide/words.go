package wide

import (
	"cmp"
	"math"
	"math/bits"
	"slices"
)

// The functions of this file compute with integers that are not negative, as lists of words: the least significant word stands first, and the last one is not 0.

// trim leaves out the zeros at the end.
func trim(words []uint32) []uint32 {
	n := len(words)
	for n > 0 && words[n-1] == 0 {
		n--
	}
	return words[:n]
}

// word returns a word as a number that a sum of words fits in; there are zeros behind the end.
func word(words []uint32, at int) uint64 {
	if at >= len(words) {
		return 0
	}
	return uint64(words[at])
}

// compareWords compares two integers.
func compareWords(x, y []uint32) int {
	if c := cmp.Compare(len(x), len(y)); c != 0 {
		return c
	}
	for i, w := range slices.Backward(x) {
		if c := cmp.Compare(w, y[i]); c != 0 {
			return c
		}
	}
	return 0
}

// carrier returns a function that makes a word of each sum that it is given, the least significant one first: it passes on to the next sum what does not fit in a word.
func carrier(carry uint64) func(sum uint64) uint32 {
	return func(sum uint64) uint32 {
		sum += carry
		carry = sum >> 32
		return uint32(sum)
	}
}

// borrower returns a function that takes words away from words, the least significant ones first, and passes on to the next ones what was missing.
func borrower() func(from, taken uint32) uint32 {
	borrow := uint32(0)
	return func(from, taken uint32) (left uint32) {
		left, borrow = bits.Sub32(from, taken, borrow)
		return left
	}
}

// sum returns x + y.
func sum(x, y []uint32) []uint32 {
	result := make([]uint32, max(len(x), len(y))+1)
	copy(result, x)
	pass := carrier(0)
	for i, w := range result {
		result[i] = pass(uint64(w) + word(y, i))
	}
	return trim(result)
}

// difference returns x - y, which is not negative.
func difference(x, y []uint32) []uint32 {
	result := make([]uint32, len(x))
	copy(result, x)
	take := borrower()
	for i, w := range result {
		result[i] = take(w, uint32(word(y, i)))
	}
	return trim(result)
}

// product returns x * y. A product of words, a word of the result and a carry have a sum of at most 64 bits.
func product(x, y []uint32) []uint32 {
	result := make([]uint32, len(x)+len(y))
	for i, factor := range x {
		pass, row := carrier(0), result[i:i+len(y)+1]
		for j, w := range y {
			row[j] = pass(uint64(factor)*uint64(w) + uint64(row[j]))
		}
		row[len(y)] = pass(0)
	}
	return trim(result)
}

// scale returns x * factor + more.
func scale(x []uint32, factor, more uint32) []uint32 {
	result := make([]uint32, len(x)+1)
	pass := carrier(uint64(more))
	for i := range result {
		result[i] = pass(word(x, i) * uint64(factor))
	}
	return trim(result)
}

// divide divides x by y, which is not 0.
func divide(x, y []uint32) (quotient, rest []uint32) {
	switch {
	case len(x) < len(y):
		return nil, slices.Clone(x)
	case len(y) == 1:
		q, r := divideShort(x, y[0])
		return q, trim([]uint32{r})
	}
	return divideLong(x, y)
}

// divideShort divides x by one word, which is not 0.
func divideShort(x []uint32, by uint32) (quotient []uint32, rest uint32) {
	quotient = make([]uint32, len(x))
	for i, w := range slices.Backward(x) {
		quotient[i], rest = bits.Div32(rest, w, by)
	}
	return trim(quotient), rest
}

// divideLong divides x by y, which has at least two words, and no more than x. Both are shifted to the left, as far as y fits in its words, because its first words tell enough of it then.
func divideLong(x, y []uint32) (quotient, rest []uint32) {
	shift := bits.LeadingZeros32(y[len(y)-1])
	by := scale(y, 1<<shift, 0)
	rest = make([]uint32, len(x)+1)
	copy(rest, scale(x, 1<<shift, 0))
	quotient = make([]uint32, len(x)-len(y)+1)
	left := make([]uint32, len(by)+1)
steps:
	for at := len(x) - len(y); at >= 0; at-- {
		part := rest[at : at+len(left)]
		for digit := guess(part, by); ; digit-- {
			if takeTimes(left, part, by, digit) {
				copy(part, left)
				quotient[at] = digit
				continue steps
			}
		}
	}
	rest, _ = divideShort(rest, 1<<shift)
	return trim(quotient), rest
}

// guess returns the word by which y goes into a part of x, or one more. It follows from the first three words of the part and the first two ones of y, the first bit of which is 1.
func guess(part, y []uint32) uint32 {
	n := len(y)
	low := uint64(part[n-1])<<32 | uint64(part[n-2])
	q, _ := bits.Div64(uint64(part[n]), low, uint64(y[n-1])<<32|uint64(y[n-2]))
	return uint32(min(q, math.MaxUint32))
}

// takeTimes sets left to x - y * times, for an x that is one word longer than y, and reports whether that is not negative.
func takeTimes(left, x, y []uint32, times uint32) bool {
	pass, take := carrier(0), borrower()
	for i, w := range x {
		left[i] = take(w, pass(word(y, i)*uint64(times)))
	}
	return take(0, 0) == 0
}
