// Package hash is layer 1: 64-bit hashes.
package hash

// multiplier is odd, so that multiplying by it modulo 2^64 can be undone: no two states are mixed into one.
const multiplier = 0x9E3779B97F4A7C15

// Sum returns the hash of a label and words.
func Sum(label string, words ...int) uint64 {
	var state uint64
	for w := range wordsOf(label) {
		state = mix(state, w)
	}
	state = mix(state, uint64(len(label)))
	state = mix(state, uint64(len(words)))
	for _, w := range words {
		state = mix(state, uint64(w))
	}
	return mix(state, 0)
}

// Bytes returns the hash of a label and bytes.
func Bytes(label string, b []byte) uint64 {
	words := make([]int, 0, len(b)/8+2)
	for w := range wordsOf(b) {
		words = append(words, int(w))
	}
	return Sum(label, append(words, len(b))...)
}

// Pair returns the hash of two hashes.
func Pair(a, b uint64) uint64 { return Sum("pair", int(a), int(b)) }

// mix returns the state after w was mixed in.
func mix(state, w uint64) uint64 {
	m := (state ^ w) * multiplier
	return m ^ m>>32
}

// wordsOf yields the words of a byte slice, or of the bytes of a string, which are not copied for it.
func wordsOf[B string | []byte](b B) func(yield func(uint64) bool) {
	return func(yield func(uint64) bool) {
		for at := 0; at < len(b); at += 8 {
			if !yield(word(b[at:min(at+8, len(b))])) {
				return
			}
		}
	}
}

// word reads a group of at most 8 bytes; those that are missing count as zero.
func word[B string | []byte](group B) uint64 {
	var w uint64
	for i := range len(group) {
		w |= uint64(group[i]) << (8 * i)
	}
	return w
}
