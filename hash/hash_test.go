package hash_test

import (
	"bytes"
	"math"
	"slices"
	"testing"

	"worldmint/hash"
)

// The numbers that these tests expect were computed by another program, written from the chapter alone.

// P1.1
func TestSum(t *testing.T) {
	for _, c := range []struct {
		label string
		words []int
		want  uint64
	}{
		{"", nil, 0},
		{"", []int{}, 0},
		{"", []int{0}, 0x9C60C22591400851},
		{"", []int{0, 0}, 0x10171EBB3D55B8EE},
		{"a", nil, 0x80B5F6F3A21F8298},
		{"a", []int{5}, 0xDBBE367E93B58544},
		{"a", []int{6}, 0x49FC8178B938ECAF},
		{"a\x00", []int{5}, 0x485EDC203660E8F0},
		{"n", []int{-1}, 0xE5EC5C8D4BDA2AFA},
		{"n", []int{math.MinInt}, 0x9DE6D3FD9162146C},
		{"n", []int{math.MaxInt}, 0xA6471E83887168F4},
		{"eightlen", []int{1, 2}, 0x385BC978127C04AA},
		{"eightlen", []int{2, 1}, 0xBA1A04C963466245},
		{"eightlen9", []int{1, 2}, 0x51D0113CB8D05E1E},
		{"\xc3\xa9\x00", []int{1}, 0x3FA8CB6B8A1309C5},
		{"\xff\xfe", []int{7}, 0xD0A174DF96094F1E},
	} {
		if got := hash.Sum(c.label, c.words...); got != c.want {
			t.Errorf("Sum(%q, %v) = %#x, want %#x", c.label, c.words, got, c.want)
		}
	}
}

// P1.2
func TestBytes(t *testing.T) {
	for _, c := range []struct {
		label string
		b     []byte
		words []int
		want  uint64
	}{
		{"", nil, []int{0}, 0x9C60C22591400851},
		{"a", nil, []int{0}, 0xAECCC2C435D70264},
		{"a", []byte{}, []int{0}, 0xAECCC2C435D70264},
		{"a", []byte{1, 2}, []int{513, 2}, 0x5CD85CBD93FD0838},
		{"a", []byte{1, 2, 0}, []int{513, 3}, 0x2D496053D3EE1DFD},
		{"b", []byte{0, 1, 2, 3, 4, 5, 6, 7}, []int{0x0706050403020100, 8}, 0x890CCFEEBD60A7C4},
		{"b", []byte{0, 1, 2, 3, 4, 5, 6, 7, 8}, []int{0x0706050403020100, 8, 9}, 0xB16843C2DD351188},
		{"b", bytes.Repeat([]byte{255}, 17), []int{-1, -1, 255, 17}, 0xC04970AFD01C7B15},
	} {
		if got := hash.Bytes(c.label, c.b); got != c.want {
			t.Errorf("Bytes(%q, %v) = %#x, want %#x", c.label, c.b, got, c.want)
		}
		if got := hash.Sum(c.label, c.words...); got != c.want {
			t.Errorf("Sum(%q, %v) = %#x, want %#x", c.label, c.words, got, c.want)
		}
	}
}

// P1.2
func TestPair(t *testing.T) {
	for _, c := range []struct{ a, b, want uint64 }{
		{0, 0, 0xA37203A6CD944451},
		{1, 2, 0xD5E6A2A3A39A5DF8},
		{2, 1, 0x9A705C9DF9B46602},
		{1 << 63, 5, 0xD2E16B299FBC35D0},
		{math.MaxUint64, math.MaxUint64, 0x7D494B93E5939A5F},
	} {
		if got := hash.Pair(c.a, c.b); got != c.want {
			t.Errorf("Pair(%d, %d) = %#x, want %#x", c.a, c.b, got, c.want)
		}
		if got := hash.Sum("pair", int(c.a), int(c.b)); got != c.want {
			t.Errorf("Sum(pair, %d, %d) = %#x, want %#x", c.a, c.b, got, c.want)
		}
	}
}

// Arguments are not changed, not even behind the end of a slice.
func TestArgumentsStay(t *testing.T) {
	b := []byte("0123456789abcdefXYZ")
	hash.Bytes("b", b[:11])
	if string(b) != "0123456789abcdefXYZ" {
		t.Errorf("Bytes has changed its argument to %q", b)
	}
	words := []int{1, 2, 3}
	hash.Sum("s", words[:1]...)
	if !slices.Equal(words, []int{1, 2, 3}) {
		t.Errorf("Sum has changed its argument to %v", words)
	}
}

// patterns returns numbers of some bytes that differ in a few bits, or lie near the ends of the range.
func patterns(size int) []uint64 {
	all := uint64(math.MaxUint64) >> (64 - 8*size)
	var l []uint64
	for i := range 8 * size {
		for j := range i + 1 {
			few := uint64(1)<<i ^ uint64(1)<<j
			l = append(l, few, all^few, (1<<i+1<<j)&all, uint64(i)<<(4*size)+uint64(j))
		}
	}
	slices.Sort(l)
	return slices.Compact(l)
}

// distinct fails if f has one hash for two of some numbers.
func distinct(t *testing.T, numbers []uint64, f func(uint64) uint64) {
	t.Helper()
	seen := map[uint64]uint64{}
	for _, w := range numbers {
		h := f(w)
		if before, ok := seen[h]; ok {
			t.Errorf("%#x and %#x have the hash %#x", before, w, h)
		}
		seen[h] = w
	}
}

// P1.3: in one of several words.
func TestInjectiveInWords(t *testing.T) {
	for i := range 5 {
		distinct(t, patterns(8), func(w uint64) uint64 {
			words := []int{3, -1, 0, math.MaxInt, math.MinInt}
			words[i] = int(w)
			return hash.Sum("words", words...)
		})
	}
}

// P1.3: in one group of a byte slice, and of a label; the last group of 21 bytes has 5 of them.
func TestInjectiveInGroups(t *testing.T) {
	text := []byte("abcdefghABCDEFGH01234")
	for at := 0; at < len(text); at += 8 {
		group := text[at:min(at+8, len(text))]
		put := func(w uint64) {
			for i := range group {
				group[i] = byte(w >> (8 * i))
			}
		}
		numbers := patterns(len(group))
		distinct(t, numbers, func(w uint64) uint64 {
			put(w)
			return hash.Bytes("b", text)
		})
		distinct(t, numbers, func(w uint64) uint64 {
			put(w)
			return hash.Sum(string(text), 4, 5)
		})
	}
}

const multiplier = 0x9E3779B97F4A7C15

// mix and unmix are each other's inverse for a fixed word, and unmix with a state instead of the word returns the word.
func mix(state, w uint64) uint64 {
	m := (state ^ w) * multiplier
	return m ^ m>>32
}

func unmix(state, w uint64) uint64 {
	inverse := uint64(1)
	for range 6 { // each time, twice as many bits are right
		inverse *= 2 - multiplier*inverse
	}
	return (state^state>>32)*inverse ^ w
}

// solve returns the word at i of words from their sum under the label x and from the other words.
func solve(sum uint64, words []int, i int) uint64 {
	before := mix(mix(mix(0, 'x'), 1), uint64(len(words)))
	for _, w := range words[:i] {
		before = mix(before, uint64(w))
	}
	after := unmix(sum, 0)
	for _, w := range slices.Backward(words[i+1:]) {
		after = unmix(after, uint64(w))
	}
	return unmix(after, before)
}

// P1.3: mixing is a bijection, so each word follows from the sum and the other words.
func TestWordsFollowFromSum(t *testing.T) {
	words := []int{0, 1, -1, math.MaxInt, math.MinInt, 123456789, -987654321}
	sum := hash.Sum("x", words...)
	for i, w := range words {
		if got := solve(sum, words, i); got != uint64(w) {
			t.Errorf("word %d: got %d, want %d", i, int(got), w)
		}
	}
}

// P1.4
func TestPairInjective(t *testing.T) {
	for _, other := range []uint64{0, 1, 1 << 63, math.MaxUint64, multiplier} {
		distinct(t, patterns(8), func(w uint64) uint64 { return hash.Pair(w, other) })
		distinct(t, patterns(8), func(w uint64) uint64 { return hash.Pair(other, w) })
	}
}
