package dice_test

import (
	"bytes"
	"math"
	"math/big"
	"slices"
	"testing"

	"worldmint/api"
	"worldmint/dice"
	"worldmint/hash"
)

// The hashes, words and rolls that these tests expect as numbers were computed by another program, written from the chapters alone.

const maxSum = 1 << 60

// manyRejected is a number of results for which almost a third of all words is not accepted.
const manyRejected = math.MaxUint64/3 + 1

// seeds returns seeds of which no two are the same.
func seeds() [][]byte {
	l := [][]byte{nil, {0}, {0, 0}, []byte("a"), []byte("a\x00"), []byte("b"), []byte("ore and coal")}
	for n := range 20 {
		l = append(l, bytes.Repeat([]byte{255}, n+1))
	}
	return l
}

// numbers returns numbers of results: small ones, and such as are close to powers of 2 and to parts of 2^64.
func numbers() []int {
	var l []int
	for n := range 40 {
		l = append(l, n+1)
	}
	for i := 6; i < 63; i++ {
		l = append(l, 1<<i-1, 1<<i, 1<<i+1)
	}
	for k := uint64(3); k < 12; k++ {
		part := int(math.MaxUint64 / k)
		l = append(l, part-1, part, part+1)
	}
	return append(l, math.MaxInt-2, math.MaxInt-1, math.MaxInt)
}

// positions returns positions, also such as are close to the ends of the range.
func positions() []int {
	return []int{0, 1, 2, 500, 1 << 40, -1, -2, -1 << 40, math.MaxInt - 3, math.MaxInt, math.MinInt, math.MinInt + 1}
}

// dieAt returns a die at a position.
func dieAt(seed, label string, at int) *dice.Dice {
	d := dice.New([]byte(seed), label)
	d.Seek(at)
	return d
}

// roll returns the result of a roll that has to succeed.
func roll(t *testing.T, d *dice.Dice, n int) int {
	t.Helper()
	r, e := d.Roll(n)
	if e != api.OK {
		t.Fatalf("Roll(%d) = %d, %d", n, r, e)
	}
	return r
}

// P4.1
func TestCommit(t *testing.T) {
	for _, c := range []struct {
		seed string
		want uint64
	}{
		{"", 0x8B1055EADCA089B0},
		{"a", 0xAF14E0EB0006B76E},
		{"a\x00", 0xD9BC50ED8F3E2707},
		{"b", 0x5C1DD3FDCA367904},
		{"ore and coal", 0x2932C0265ED5998C},
		{"\xff\xff\xff\xff\xff\xff\xff\xff", 0xC0647EE764997885},
		{"\x00\x01\x02\x03\x04\x05\x06\x07\x08\t\n\x0b\x0c\r\x0e\x0f\x10", 0xC246B7D887CF35AC},
	} {
		if got := dice.Commit([]byte(c.seed)); got != c.want || got != hash.Bytes("seed", []byte(c.seed)) {
			t.Errorf("Commit(%q) = %#x, want %#x", c.seed, got, c.want)
		}
	}
	if dice.Commit(nil) != dice.Commit([]byte{}) {
		t.Error("nil and the empty slice are different seeds")
	}
}

// P4.1
func TestOpens(t *testing.T) {
	for i, seed := range seeds() {
		for j, other := range seeds() {
			if dice.Opens(dice.Commit(seed), other) != (i == j) {
				t.Errorf("the commitment to %q, and the seed %q", seed, other)
			}
		}
		for bit := range 64 {
			if dice.Opens(dice.Commit(seed)^1<<bit, seed) {
				t.Errorf("the bit %d of the commitment to %q does not count", bit, seed)
			}
		}
	}
	if !dice.Opens(dice.Commit(nil), []byte{}) || !dice.Opens(dice.Commit([]byte{}), nil) {
		t.Error("nil and the empty slice are different seeds")
	}
}

// P4.2
func TestJoin(t *testing.T) {
	for _, c := range []struct {
		seeds []string
		want  []byte
	}{
		{nil, []byte{207, 214, 33, 44, 53, 237, 0, 181}},
		{[]string{""}, []byte{226, 140, 32, 86, 33, 26, 119, 74}},
		{[]string{"", ""}, []byte{82, 230, 254, 133, 251, 188, 199, 4}},
		{[]string{"x"}, []byte{127, 201, 175, 242, 231, 73, 49, 184}},
		{[]string{"x", ""}, []byte{124, 154, 49, 152, 238, 103, 43, 56}},
		{[]string{"", "x"}, []byte{98, 205, 156, 138, 176, 101, 210, 165}},
		{[]string{"xy"}, []byte{186, 92, 114, 21, 178, 254, 61, 119}},
		{[]string{"x", "y"}, []byte{99, 122, 179, 85, 160, 192, 161, 141}},
		{[]string{"y", "x"}, []byte{43, 143, 117, 26, 49, 208, 185, 76}},
		{[]string{"one seed", "another seed", "\xff\x00\x00"}, []byte{195, 69, 226, 247, 45, 6, 124, 218}},
	} {
		var parts [][]byte
		for _, s := range c.seeds {
			parts = append(parts, []byte(s))
		}
		if got := dice.Join(parts); !bytes.Equal(got, c.want) {
			t.Errorf("Join(%q) = %v, want %v", c.seeds, got, c.want)
		}
	}
	if !bytes.Equal(dice.Join([][]byte{}), dice.Join(nil)) || !bytes.Equal(dice.Join([][]byte{nil}), dice.Join([][]byte{{}})) {
		t.Error("nil and empty slices are different")
	}
}

// P4.2: compared with the hashes of which the number consists.
func TestJoinHashes(t *testing.T) {
	for n := range seeds() {
		want := hash.Sum("seeds", n)
		for _, seed := range seeds()[:n] {
			want = hash.Pair(want, hash.Bytes("part", seed))
		}
		got := dice.Join(seeds()[:n])
		if len(got) != 8 {
			t.Fatalf("%d seeds are joined to %d bytes", n, len(got))
		}
		for i := range got {
			if got[i] != byte(want>>(8*i)) {
				t.Errorf("%d seeds are joined to %v, want the bytes of %#x", n, got, want)
			}
		}
	}
}

// P4.3
func TestWord(t *testing.T) {
	for _, c := range []struct {
		seed, label string
		at          int
		want        uint64
	}{
		{"", "", 0, 0xC4A4C808534F0352},
		{"s", "l", 3, 0x5B1986A52A603DDE},
		{"l", "s", 3, 0x65AA3CDBEB478A5D},
		{"s", "l", 4, 0x48780EFEF1F57F6C},
		{"s", "l", -1, 0xBDE2E2510CCA2BB4},
		{"s", "l", math.MaxInt, 0x7E3DA4474F156DA2},
		{"s", "l", math.MinInt, 0x4D511DA7692B8DE3},
		{"s\x00", "l", 3, 0x4C347BC21D66014D},
		{"seed and more", "craft 12", 2048, 0x9616FDB88C684D21},
		{"\xff", "\xc3\xa9", 1, 0x7652053304F129F1},
	} {
		got := dice.Word([]byte(c.seed), c.label, c.at)
		if got != c.want || got != hash.Sum("word", int(hash.Bytes(c.label, []byte(c.seed))), c.at) {
			t.Errorf("Word(%q, %q, %d) = %#x, want %#x", c.seed, c.label, c.at, got, c.want)
		}
	}
	if dice.Word(nil, "l", 3) != dice.Word([]byte{}, "l", 3) {
		t.Error("nil and the empty slice are different seeds")
	}
}

// P4.4
func TestReduce(t *testing.T) {
	const last = math.MaxUint64
	for _, c := range []struct {
		w    uint64
		n    int
		want int
		ok   bool
	}{
		{10, 4, 2, true},
		{0, 1, 0, true},
		{last, 1, 0, true},
		{last, 2, 1, true},
		{last, 3, 0, false},
		{last - 1, 3, 2, true},
		{last, 4, 3, true},
		{last, 6, 0, false},
		{last - 3, 6, 0, false},
		{last - 4, 6, 5, true},
		{last, 1 << 62, 1<<62 - 1, true},
		{math.MaxInt, math.MaxInt, 0, true},
		{math.MaxInt - 1, math.MaxInt, math.MaxInt - 1, true},
		{last - 2, math.MaxInt, math.MaxInt - 1, true}, // 2^64 is 2 more than two blocks
		{last - 1, math.MaxInt, 0, false},
		{last, math.MaxInt, 0, false},
		{2*manyRejected - 1, manyRejected, manyRejected - 1, true},
		{2 * manyRejected, manyRejected, 0, false},
		{last, manyRejected, 0, false},
		{7, 0, 0, false},
		{7, -1, 0, false},
		{last, -3, 0, false},
		{0, 0, 0, false},
		{7, math.MinInt, 0, false},
	} {
		if got, ok := dice.Reduce(c.w, c.n); got != c.want || ok != c.ok {
			t.Errorf("Reduce(%d, %d) = %d, %t, want %d, %t", c.w, c.n, got, ok, c.want, c.ok)
		}
	}
}

func unsigned(n uint64) *big.Int { return new(big.Int).SetUint64(n) }

// accepted returns, for n results, how many words are accepted: the greatest multiple of n that is at most 2^64.
func accepted(n int) *big.Int {
	all := new(big.Int).Lsh(big.NewInt(1), 64)
	blocks := new(big.Int).Div(all, big.NewInt(int64(n)))
	return blocks.Mul(blocks, big.NewInt(int64(n)))
}

// reduced computes in another way what Reduce returns for n from 1 on.
func reduced(w uint64, n int) (int, bool) {
	if unsigned(w).Cmp(accepted(n)) >= 0 {
		return 0, false
	}
	return int(new(big.Int).Mod(unsigned(w), big.NewInt(int64(n))).Int64()), true
}

// wordsFor returns words: around multiples of n, around the first word that is not accepted, and others.
func wordsFor(n int) []uint64 {
	var l []uint64
	end := accepted(n).Uint64() // 0, if all words are accepted
	for _, w := range []uint64{0, uint64(n), 2 * uint64(n), math.MaxUint64 / uint64(n) / 2 * uint64(n), end, -uint64(n), 1 << 63} {
		l = append(l, w-2, w-1, w, w+1)
	}
	for i := range 50 {
		l = append(l, hash.Sum("any word", i, n))
	}
	return l
}

// P4.4: compared with big integers.
func TestReduceAsBig(t *testing.T) {
	for _, n := range numbers() {
		for _, w := range wordsFor(n) {
			got, ok := dice.Reduce(w, n)
			if want, wantOK := reduced(w, n); got != want || ok != wantOK {
				t.Errorf("Reduce(%d, %d) = %d, %t, want %d, %t", w, n, got, ok, want, wantOK)
			}
		}
	}
}

// P4.5
func TestPosition(t *testing.T) {
	d := dice.New([]byte("seed"), "label")
	if d.At() != 0 {
		t.Errorf("a new die is at %d", d.At())
	}
	for _, at := range positions() {
		d.Seek(at)
		if d.At() != at {
			t.Errorf("after Seek(%d), the die is at %d", at, d.At())
		}
		roll(t, d, 1)
		if d.At() != at+1 { // which wraps around
			t.Errorf("after a word at %d, the die is at %d", at, d.At())
		}
	}
	if another := dice.New([]byte("seed"), "label"); another.At() != 0 {
		t.Errorf("another new die is at %d", another.At())
	}
}

// P4.5: a die does not share memory with its seed.
func TestSeedIsNotKept(t *testing.T) {
	seed := []byte("a seed of more than 16 bytes")
	d, want := dice.New(seed[:20], "l"), dice.New(bytes.Clone(seed[:20]), "l")
	roll(t, d, 1<<50)
	roll(t, want, 1<<50)
	clear(seed)
	for range 20 {
		if got, want := roll(t, d, 1<<50), roll(t, want, 1<<50); got != want {
			t.Errorf("%d after the seed was changed, want %d", got, want)
		}
	}
}

// P4.5: nil and the empty slice are the same seed, other seeds and labels are different ones.
func TestStreams(t *testing.T) {
	seen := map[int]bool{}
	for _, seed := range seeds() {
		for _, label := range []string{"", "a", "b", "a\x00", "craft 1", "craft 11"} {
			r := roll(t, dice.New(seed, label), math.MaxInt)
			if seen[r] {
				t.Errorf("the die of %q and %q begins as another one", seed, label)
			}
			seen[r] = true
		}
	}
	if roll(t, dice.New(nil, "l"), math.MaxInt) != roll(t, dice.New([]byte{}, "l"), math.MaxInt) {
		t.Error("nil and the empty slice are different seeds")
	}
}

// P4.6
func TestRoll(t *testing.T) {
	for _, c := range []struct {
		seed, label string
		at, n       int
		want        []int
		next        int
	}{
		{"seed", "craft", 0, 6, []int{5, 4, 2, 1, 4, 0, 0, 1, 4, 5, 3, 0, 2, 3, 1, 2, 2, 4, 5, 2}, 20},
		{"seed", "craft", 7, 6, []int{1, 4, 5, 3, 0}, 12},
		{"", "", 0, 100, []int{30, 60, 91, 5, 48, 37, 6, 23, 42, 44}, 10},
		{"", "", 0, 1, []int{0, 0, 0}, 3},
		{"seed", "craft", -3, 1000, []int{656, 644, 250, 947, 852, 684}, 3},
		{"seed", "loot", math.MaxInt - 1, 1000, []int{313, 170, 809, 309}, math.MinInt + 2},
		{"seed", "wide", 0, 1 << 62, []int{77766564223122380, 1814641069515490508, 2800945376472440802}, 3},
		{"seed", "wide", 0, math.MaxInt, []int{4689452582650510284, 1814641069515490508, 2800945376472440803}, 3},
		{"seed", "wide", 5, manyRejected, []int{147501591634548068}, 8}, // two words are not accepted
		{"seed", "wide", 0, manyRejected, []int{4689452582650510284, 1814641069515490508, 5875402722090699404, 2982992193125869948, 3786994594679722929, 147501591634548068, 3955350599614640622, 4190710089080686043}, 11},
	} {
		d := dieAt(c.seed, c.label, c.at)
		var got []int
		for range c.want {
			got = append(got, roll(t, d, c.n))
		}
		if !slices.Equal(got, c.want) || d.At() != c.next {
			t.Errorf("rolls of %d of %q and %q from %d on: %v, to %d, want %v, to %d", c.n, c.seed, c.label, c.at, got, d.At(), c.want, c.next)
		}
	}
}

// rolled returns the result to which the words from a position on lead, and the position behind the last one that is taken.
func rolled(t *testing.T, seed []byte, at, n int) (result, next int) {
	t.Helper()
	for range 128 {
		w := dice.Word(seed, "stream", at)
		at++
		if result, ok := reduced(w, n); ok {
			return result, at
		}
	}
	t.Fatalf("no word before %d is accepted for %d", at, n)
	return
}

// P4.6: compared with the words of the stream.
func TestRollWords(t *testing.T) {
	rolls, taken := 0, 0
	for _, n := range append(numbers(), manyRejected) {
		for i, at := range positions() {
			seed := []byte{byte(i), byte(n)}
			d := dice.New(seed, "stream")
			d.Seek(at)
			for range 4 {
				want, next := rolled(t, seed, at, n)
				if got := roll(t, d, n); got != want || d.At() != next {
					t.Errorf("Roll(%d) = %d, to %d, want %d, to %d", n, got, d.At(), want, next)
				}
				rolls, taken, at = rolls+1, taken+next-at, next
			}
		}
	}
	if taken < rolls+100 {
		t.Errorf("only %d words were not accepted", taken-rolls)
	}
}

// P4.6: arguments that are not valid; no word is taken.
func TestRollArguments(t *testing.T) {
	for _, at := range positions() {
		d := dieAt("seed", "label", at)
		for _, n := range []int{0, -1, -6, math.MinInt} {
			if r, e := d.Roll(n); r != 0 || e != api.ErrArg || d.At() != at {
				t.Errorf("Roll(%d) = %d, %d, at %d", n, r, e, d.At())
			}
		}
	}
}

// P4.7
func TestHit(t *testing.T) {
	d := dice.New([]byte("smith"), "craft 3")
	want := []bool{true, false, true, true, true, false, false, true, true, true, false, true, false, true, true, true, false, false, false, true}
	for i, w := range want {
		if got, e := d.Hit(2, 5); got != w || e != api.OK || d.At() != i+1 {
			t.Errorf("Hit(2, 5) = %t, %d at %d, want %t", got, e, i, w)
		}
	}
}

// P4.7: compared with a roll.
func TestHitRolls(t *testing.T) {
	d, same := dice.New(nil, "hits"), dice.New(nil, "hits")
	for _, den := range append(numbers(), manyRejected) {
		for _, num := range []int{0, 1, den / 3, den / 2, den - den/4, den - 1, den} {
			for range 5 {
				got, e := d.Hit(num, den)
				if want := roll(t, same, den) < num; got != want || e != api.OK || d.At() != same.At() {
					t.Errorf("Hit(%d, %d) = %t, %d, to %d, want %t, to %d", num, den, got, e, d.At(), want, same.At())
				}
			}
		}
	}
}

// P4.7: each result of a roll counts, up to num and no further.
func TestHitEdges(t *testing.T) {
	for at := range 200 {
		r := roll(t, dieAt("edges", "", at), 7)
		for num := range 8 {
			if got, e := dieAt("edges", "", at).Hit(num, 7); got != (r < num) || e != api.OK {
				t.Errorf("Hit(%d, 7) = %t, %d for a roll of %d", num, got, e, r)
			}
		}
	}
}

// P4.7: arguments that are not valid; no word is taken.
func TestHitArguments(t *testing.T) {
	d := dieAt("seed", "label", -5)
	for _, c := range [][2]int{{-1, 2}, {1, 0}, {0, 0}, {-1, 0}, {-1, -1}, {-2, -1}, {0, -1}, {3, 2}, {math.MaxInt, 1}, {math.MaxInt, math.MaxInt - 1}, {math.MinInt, 1}, {math.MinInt, math.MinInt}, {0, math.MinInt}} {
		if got, e := d.Hit(c[0], c[1]); got || e != api.ErrArg || d.At() != -5 {
			t.Errorf("Hit(%d, %d) = %t, %d, at %d", c[0], c[1], got, e, d.At())
		}
	}
}

// P4.8
func TestPick(t *testing.T) {
	for _, c := range []struct {
		label   string
		weights []int
		want    []int
	}{
		{"loot 1", []int{5, 0, 1, 3, 0}, []int{0, 2, 3, 0, 0, 2, 3, 0, 0, 0, 0, 0, 0, 0, 0, 0, 3, 3, 3, 0, 3, 0, 0, 0, 0, 3, 3, 0, 3, 3}},
		{"loot 2", []int{1 << 58, 0, 1 << 59, 1 << 58}, []int{0, 3, 3, 0, 2, 3, 2, 2, 2, 2, 2, 3, 0, 3, 0, 0, 2, 2, 2, 2}},
	} {
		d := dice.New([]byte("chest"), c.label)
		for i, want := range c.want {
			if got, e := d.Pick(c.weights); got != want || e != api.OK || d.At() != i+1 {
				t.Errorf("pick %d of %v: %d, %d, want %d", i, c.weights, got, e, want)
			}
		}
	}
}

// weightLists returns lists of weights that can be picked from, with their sums.
func weightLists() map[int][][]int {
	lists := map[int][][]int{
		1:      {{1}, {0, 1}, {1, 0}, {0, 0, 0, 1, 0, 0}},
		5:      {{5}, {2, 3}, {2, 0, 3}, {0, 0, 2, 2, 0, 0, 1, 0}, {1, 1, 1, 1, 1}},
		maxSum: {{maxSum}, {0, maxSum, 0}, {1, maxSum - 1}, {maxSum - 1, 1}, {maxSum / 2, maxSum / 2}, slices.Repeat([]int{1 << 50}, 1<<10)},
	}
	for n := range 60 {
		var l []int
		sum := 0
		for i := range n + 3 {
			w := int(hash.Sum("weight", n, i)%5) * i
			l, sum = append(l, w), sum+w
		}
		if sum > 0 {
			lists[sum] = append(lists[sum], l)
		}
	}
	return lists
}

// picked returns the index to which a roll of the sum of weights leads.
func picked(weights []int, result int) int {
	below := 0
	for i, w := range weights {
		below += w
		if result < below {
			return i
		}
	}
	return -1
}

// P4.8: compared with a roll; P4.13: a weight 0 is not picked.
func TestPickRolls(t *testing.T) {
	for sum, lists := range weightLists() {
		for _, weights := range lists {
			d, same := dice.New([]byte{7}, "picks"), dice.New([]byte{7}, "picks")
			for range 100 {
				got, e := d.Pick(weights)
				if want := picked(weights, roll(t, same, sum)); got != want || e != api.OK || d.At() != same.At() {
					t.Errorf("Pick(%v) = %d, %d, to %d, want %d, to %d", weights, got, e, d.At(), want, same.At())
				}
				if weights[got] == 0 {
					t.Errorf("Pick(%v) = %d, whose weight is 0", weights, got)
				}
			}
		}
	}
}

// P4.8: arguments that are not valid; no word is taken.
func TestPickArguments(t *testing.T) {
	d := dieAt("seed", "label", 9)
	for _, weights := range [][]int{
		nil, {}, {0}, {0, 0, 0},
		{-1}, {1, -1}, {5, -1}, {-1, 5}, {0, -1, 2}, {math.MinInt}, {math.MinInt, math.MaxInt, 3},
		{maxSum + 1}, {maxSum, 1}, {1, maxSum}, {maxSum, 0, 1}, {maxSum, 1, -1}, {maxSum, 1, -2}, {maxSum, maxSum}, {math.MaxInt},
		{math.MaxInt, math.MaxInt, 3}, {1, math.MaxInt, math.MaxInt, 2}, {maxSum, math.MaxInt, math.MaxInt, 3}, // sums that wrap around
		slices.Repeat([]int{maxSum}, 16), append(slices.Repeat([]int{maxSum}, 16), 1), // 2^64 and 1 more
	} {
		if got, e := d.Pick(weights); got != 0 || e != api.ErrArg || d.At() != 9 {
			t.Errorf("Pick(%v) = %d, %d, at %d", weights, got, e, d.At())
		}
	}
}

// P4.9
func TestShuffle(t *testing.T) {
	for _, want := range [][]int{
		nil,
		{0},
		{0, 1},
		{0, 2, 1, 4, 3},
		{4, 2, 0, 5, 7, 1, 6, 3, 8},
		{15, 11, 8, 9, 16, 1, 12, 5, 6, 19, 17, 18, 14, 10, 3, 4, 0, 7, 2, 13},
	} {
		d := dice.New([]byte("deck"), "")
		got, e := d.Shuffle(len(want))
		if !slices.Equal(got, want) || e != api.OK || d.At() != max(0, len(want)-1) {
			t.Errorf("Shuffle(%d) = %v, %d, to %d, want %v", len(want), got, e, d.At(), want)
		}
	}
}

// P4.9: compared with rolls; P4.13: each number is there once.
func TestShuffleRolls(t *testing.T) {
	d, same := dice.New([]byte{1, 2}, "shuffles"), dice.New([]byte{1, 2}, "shuffles")
	for _, n := range []int{0, 1, 2, 3, 4, 10, 52, 100, 1023, 4095, api.MaxLots} {
		got, e := d.Shuffle(n)
		var want []int
		for i := range n {
			want = append(want, i)
		}
		sorted := slices.Sorted(slices.Values(got))
		if e != api.OK || !slices.Equal(sorted, want) {
			t.Errorf("Shuffle(%d), sorted: %v, %d", n, sorted, e)
		}
		for i := n - 1; i > 0; i-- {
			j := roll(t, same, i+1)
			want[i], want[j] = want[j], want[i]
		}
		if !slices.Equal(got, want) || d.At() != same.At() {
			t.Errorf("Shuffle(%d) = %v, to %d, want %v, to %d", n, got, d.At(), want, same.At())
		}
	}
}

// P4.9: arguments that are not valid; no word is taken.
func TestShuffleArguments(t *testing.T) {
	d := dieAt("seed", "label", 9)
	for _, n := range []int{-1, -4096, math.MinInt, api.MaxLots + 1, math.MaxInt} {
		if got, e := d.Shuffle(n); got != nil || e != api.ErrArg || d.At() != 9 {
			t.Errorf("Shuffle(%d) = %v, %d, at %d", n, got, e, d.At())
		}
	}
}

// P4.10 and P4.14: at each position, exactly the result of the roll is verified.
func TestVerify(t *testing.T) {
	for _, seed := range seeds() {
		commit := dice.Commit(seed)
		for _, at := range append(positions(), 5, 8) {
			for _, n := range []int{1, 2, 6, 100} {
				d := dice.New(seed, "loot")
				d.Seek(at)
				r := roll(t, d, n)
				for result := -2; result < n+2; result++ {
					if dice.Verify(commit, seed, "loot", at, n, result) != (result == r) {
						t.Errorf("%d of %d for %q at %d, where the roll was %d", result, n, seed, at, r)
					}
				}
			}
		}
	}
}

// P4.10 and P4.14: results of which there are many, also where words are not accepted.
func TestVerifyWide(t *testing.T) {
	seed := []byte("seed")
	commit := dice.Commit(seed)
	if !dice.Verify(commit, seed, "wide", 5, manyRejected, 147501591634548068) {
		t.Error("the roll for which two words are not accepted")
	}
	for _, n := range append(numbers(), manyRejected) {
		for _, at := range positions() {
			d := dieAt("seed", "wide", at)
			r := roll(t, d, n)
			if !dice.Verify(commit, seed, "wide", at, n, r) {
				t.Errorf("%d of %d at %d is not verified", r, n, at)
			}
			for _, other := range []int{r - 1, r + 1, r - n, r + n, -r - 1, r ^ math.MinInt, r ^ 1<<32, math.MaxInt - r, math.MinInt, math.MaxInt} {
				if other != r && dice.Verify(commit, seed, "wide", at, n, other) {
					t.Errorf("%d of %d at %d is verified, where the roll was %d", other, n, at, r)
				}
			}
		}
	}
}

// P4.10: what does not belong together is not verified.
func TestVerifyOthers(t *testing.T) {
	seed, label, at, n := []byte("player"), "loot", 2048, 1<<40
	commit := dice.Commit(seed)
	r := roll(t, dieAt("player", "loot", at), n)
	if !dice.Verify(commit, seed, label, at, n, r) {
		t.Error("the roll is not verified")
	}
	for bit := range 64 {
		if dice.Verify(commit^1<<bit, seed, label, at, n, r) {
			t.Errorf("verified without the bit %d of the commitment", bit)
		}
	}
	other := []byte("Player")
	for i, ok := range []bool{
		dice.Verify(dice.Commit(other), seed, label, at, n, r),
		dice.Verify(commit, other, label, at, n, r),
		dice.Verify(commit, other, label, at, n, roll(t, dieAt("Player", "loot", at), n)),
		dice.Verify(dice.Commit(other), other, label, at, n, r),
		dice.Verify(commit, seed, "loot ", at, n, r),
		dice.Verify(commit, seed, label, at+1, n, r),
		dice.Verify(commit, seed, label, at-1, n, r),
		dice.Verify(commit, seed, label, at, n-1, r),
		dice.Verify(0, seed, label, at, n, r),
		dice.Verify(0, nil, label, at, n, r),
	} {
		if ok {
			t.Errorf("case %d is verified", i)
		}
	}
	for _, none := range []int{0, -1, -6, math.MinInt} {
		if dice.Verify(commit, seed, label, at, none, 0) || dice.Verify(commit, seed, label, at, none, r) {
			t.Errorf("a roll of %d results is verified", none)
		}
	}
}

// P4.11: whole blocks, from the first to the last one.
func TestBlocks(t *testing.T) {
	for n := 1; n <= 300; n++ {
		blocks := math.MaxUint64 / uint64(n) // if n is a power of 2, there is one more
		for _, k := range []uint64{0, 1, 2, blocks / 2, blocks - 2, blocks - 1} {
			seen := make([]int, n)
			for i := range n {
				r, ok := dice.Reduce(k*uint64(n)+uint64(i), n)
				if !ok || r < 0 || r >= n {
					t.Fatalf("the word %d of the block %d: %d, %t", i, k, r, ok)
				}
				seen[r]++
			}
			if !slices.Equal(seen, slices.Repeat([]int{1}, n)) {
				t.Errorf("results of the block %d for %d: %v", k, n, seen)
			}
		}
	}
}

// P4.11: blocks of any size. From each accepted word to the next one, the result is the next one, or the first one of another block.
func TestBlocksOfAnySize(t *testing.T) {
	for _, n := range numbers() {
		for _, w := range wordsFor(n) {
			r, ok := dice.Reduce(w, n)
			if !ok {
				continue
			}
			first, last := w-uint64(r), w+uint64(n-1-r) // of its block
			if last < first {
				t.Errorf("the block of %d for %d is not complete", w, n)
			}
			for _, i := range []int{0, 1 % n, n / 3, n / 2, n - n/5 - 1, n - 1} {
				if got, ok := dice.Reduce(first+uint64(i), n); got != i || !ok {
					t.Errorf("Reduce(%d, %d) = %d, %t, want %d", first+uint64(i), n, got, ok, i)
				}
			}
			if first%uint64(n) != 0 {
				t.Errorf("the block of %d for %d begins at %d", w, n, first)
			}
		}
	}
}

// P4.11: fewer than n words are not less than one that is not accepted; so the one that is less than n - 1 others is accepted, and so are all words that are less.
func TestRejectedWords(t *testing.T) {
	for _, n := range numbers() {
		if _, ok := dice.Reduce(-uint64(n), n); !ok {
			t.Errorf("for %d, the word %d is not accepted", n, -uint64(n))
		}
		for _, w := range wordsFor(n) {
			if _, ok := dice.Reduce(w, n); !ok && math.MaxUint64-w >= uint64(n)-1 {
				t.Errorf("for %d, the word %d is not accepted", n, w)
			}
		}
	}
	for n := 1; n <= 300; n++ {
		rejected := 0
		for i := range uint64(3 * n) {
			if _, ok := dice.Reduce(math.MaxUint64-i, n); !ok {
				rejected++
				if i != uint64(rejected-1) {
					t.Errorf("for %d, the word %d is not accepted, but a greater one", n, math.MaxUint64-i)
				}
			}
		}
		if rejected >= n {
			t.Errorf("for %d, %d words are not accepted", n, rejected)
		}
	}
}

// play does some of everything with a die, and returns all results and the positions.
func play(t *testing.T, d *dice.Dice) []int {
	t.Helper()
	var l []int
	for i := range 10 {
		l = append(l, roll(t, d, 6+i), d.At(), roll(t, d, manyRejected), d.At())
		hit, e := d.Hit(i, 9)
		if hit {
			l = append(l, 1)
		}
		l = append(l, int(e), d.At())
		pick, e := d.Pick([]int{1, 2, 0, i})
		l = append(l, pick, int(e), d.At())
		order, e := d.Shuffle(i)
		l = append(l, order...)
		l = append(l, int(e), d.At())
		none, e := d.Roll(-i)
		l = append(l, none, int(e), d.At())
	}
	return l
}

// P4.12
func TestReplay(t *testing.T) {
	d := dice.New([]byte("again"), "and again")
	for _, at := range positions() {
		d.Seek(at)
		want := play(t, d)
		play(t, d)
		d.Seek(at)
		if got := play(t, d); !slices.Equal(got, want) {
			t.Errorf("from %d on: %v, then %v", at, want, got)
		}
		fresh := dieAt("again", "and again", at)
		play(t, dieAt("another", "and again", at))
		if got := play(t, fresh); !slices.Equal(got, want) {
			t.Errorf("from %d on: %v, with a new die %v", at, want, got)
		}
	}
}

// P4.12: how many words rolls have taken is all that later ones depend on.
func TestReplayFromBetween(t *testing.T) {
	d := dice.New([]byte("again"), "and again")
	var at, results []int
	for range 50 {
		at = append(at, d.At())
		results = append(results, roll(t, d, manyRejected))
	}
	for i, p := range slices.Backward(at) {
		d.Seek(p)
		if r := roll(t, d, manyRejected); r != results[i] {
			t.Errorf("from %d on: %d, then %d", p, results[i], r)
		}
	}
}

// P4.13: shuffles of all sizes hold each number once.
func TestShuffleIsComplete(t *testing.T) {
	d := dice.New(nil, "complete")
	for n := range 300 {
		l, e := d.Shuffle(n)
		seen := make([]bool, n)
		for _, k := range l {
			if k < 0 || k >= n || seen[k] {
				t.Fatalf("Shuffle(%d) = %v", n, l)
			}
			seen[k] = true
		}
		if len(l) != n || e != api.OK {
			t.Errorf("Shuffle(%d) = %v, %d", n, l, e)
		}
	}
}

// P4.13: shuffles reach all orders.
func TestShuffleReachesAll(t *testing.T) {
	d := dice.New(nil, "orders")
	seen := map[[4]int]bool{}
	for range 1000 {
		l, _ := d.Shuffle(4)
		seen[[4]int(l)] = true
	}
	if len(seen) != 24 {
		t.Errorf("%d orders of 4 numbers", len(seen))
	}
}

// P4.13: a weight 0 is never picked, every other one is.
func TestPickSkipsZeros(t *testing.T) {
	for _, weights := range [][]int{{0, 1}, {1, 0}, {0, 1, 0}, {0, 0, 1, 0, 0, 1, 0, 0}, {1, 0, 0, 0, 1}, {0, maxSum / 2, 0, maxSum / 2, 0}} {
		d := dice.New(nil, "zeros")
		counts := make([]int, len(weights))
		for range 200 {
			i, e := d.Pick(weights)
			if e != api.OK {
				t.Fatalf("Pick(%v): %d", weights, e)
			}
			counts[i]++
		}
		for i, w := range weights {
			if (w == 0) != (counts[i] == 0) {
				t.Errorf("Pick(%v) has returned %d for %d times", weights, i, counts[i])
			}
		}
	}
}

// P4.13
func TestHitNeverAndAlways(t *testing.T) {
	d := dice.New(nil, "sure")
	for _, den := range append(numbers(), manyRejected) {
		for range 20 {
			if got, e := d.Hit(0, den); got || e != api.OK {
				t.Errorf("Hit(0, %d) = %t, %d", den, got, e)
			}
			if got, e := d.Hit(den, den); !got || e != api.OK {
				t.Errorf("Hit(%d, %d) = %t, %d", den, den, got, e)
			}
		}
	}
}

// R3: arguments are not changed, not even behind the end of a slice, and results are new memory.
func TestMemory(t *testing.T) {
	seed, weights := []byte("0123456789abcdefXYZ"), []int{3, 0, 4, 5, -1}
	parts := [][]byte{seed[:3], nil, seed[4:11], seed[:19]}
	commit := dice.Commit(seed[:11])
	joined := dice.Join(parts[:3])
	dice.Word(seed[:11], "l", 1)
	d := dice.New(seed[:11], "l")
	d.Pick(weights[:3])
	dice.Verify(commit, seed[:11], "l", 0, 6, 0)
	if string(seed) != "0123456789abcdefXYZ" || !slices.Equal(weights, []int{3, 0, 4, 5, -1}) || len(parts[0]) != 3 || parts[1] != nil || len(parts[2]) != 7 || len(parts[3]) != 19 {
		t.Errorf("arguments were changed to %q, %v and %q", seed, weights, parts)
	}
	want := bytes.Clone(joined)
	clear(joined)
	if !bytes.Equal(dice.Join(parts[:3]), want) {
		t.Error("results of Join share memory")
	}
	d.Seek(0)
	order, _ := d.Shuffle(9)
	wantOrder := slices.Clone(order)
	clear(order)
	d.Seek(0)
	if again, _ := d.Shuffle(9); !slices.Equal(again, wantOrder) {
		t.Error("results of Shuffle share memory")
	}
}

// Dice are independent of each other, also of the same seed and label.
func TestDiceAreIndependent(t *testing.T) {
	a, b := dice.New([]byte("seed"), "craft"), dice.New([]byte("seed"), "craft")
	want := []int{5, 4, 2, 1, 4, 0}
	for i, w := range want {
		play(t, b)
		if got := roll(t, a, 6); got != w || a.At() != i+1 {
			t.Errorf("roll %d is %d, to %d, want %d", i, got, a.At(), w)
		}
	}
}
