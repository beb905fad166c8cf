package share_test

import (
	"math"
	"math/big"
	"slices"
	"testing"

	"worldmint/api"
	"worldmint/hash"
	"worldmint/share"
)

const maxLarge = 1 << 60

// amounts and larges return numbers of their range, at its ends and at the sizes of words among them.
func amounts() []int {
	return []int{0, 1, 2, 3, 7, 10, 1<<20 - 1, 1 << 20, 1<<31 + 1, 1<<32 - 1, 1 << 32, 1<<32 + 1, 1<<39 + 1, api.MaxUnits - 1, api.MaxUnits}
}

func larges() []int {
	return append(amounts(), api.MaxUnits+1, 3*api.MaxUnits+1, 1<<59-1, 1<<59+1, maxLarge-1, maxLarge)
}

// noAmounts and noLarges return numbers outside.
func noAmounts() []int { return append(noLarges(), api.MaxUnits+1, maxLarge) }

func noLarges() []int { return []int{-1, -maxLarge, math.MinInt, maxLarge + 1, math.MaxInt} }

// sampled returns the number with an index of a fixed sequence of numbers below n that look random.
func sampled(n int, index ...int) int { return int(hash.Sum("sample", index...) % uint64(n)) }

func wide(n int) *big.Int { return big.NewInt(int64(n)) }

// product returns a * b; tests of the properties compute with it, because int does not hold it.
func product(a, b int) *big.Int { return new(big.Int).Mul(wide(a), wide(b)) }

// P3.1 and P3.2: the expected numbers are computed by hand.
func TestPartAndCeil(t *testing.T) {
	for _, c := range []struct{ total, num, den, low, high int }{
		{10, 2, 3, 6, 7},
		{10, 3, 2, 15, 15},
		{9, 2, 3, 6, 6},
		{1, 1, 2, 0, 1},
		{1, 1, maxLarge, 0, 1},
		{0, maxLarge, 1, 0, 0},
		{5, 0, 7, 0, 0},
		{0, 0, maxLarge, 0, 0},
		{1, api.MaxUnits, 1, api.MaxUnits, api.MaxUnits},
		{api.MaxUnits, 1, 1, api.MaxUnits, api.MaxUnits},
		{api.MaxUnits, maxLarge, maxLarge, api.MaxUnits, api.MaxUnits},
		{api.MaxUnits, maxLarge - 1, maxLarge, api.MaxUnits - 1, api.MaxUnits},
		{api.MaxUnits, 1, maxLarge, 0, 1},
		{api.MaxUnits - 1, maxLarge, maxLarge - 1, api.MaxUnits - 1, api.MaxUnits},
		{1 << 20, maxLarge, maxLarge, 1 << 20, 1 << 20},
	} {
		if got, e := share.Part(c.total, c.num, c.den); got != c.low || e != api.OK {
			t.Errorf("Part(%d, %d, %d) = %d, %d, want %d", c.total, c.num, c.den, got, e, c.low)
		}
		if got, e := share.Ceil(c.total, c.num, c.den); got != c.high || e != api.OK {
			t.Errorf("Ceil(%d, %d, %d) = %d, %d, want %d", c.total, c.num, c.den, got, e, c.high)
		}
	}
}

// P3.1 and P3.2: results that are greater than MaxUnits, by little, by more than 64 bits hold, and by rounding up alone.
func TestOutOfRange(t *testing.T) {
	for _, c := range []struct {
		total, num, den int
		part            int
		e               api.Errno
	}{
		{api.MaxUnits, 2, 1, 0, api.ErrRange},
		{api.MaxUnits, maxLarge, 1, 0, api.ErrRange},
		{api.MaxUnits, maxLarge, 1 << 35, 0, api.ErrRange},
		{api.MaxUnits, maxLarge, 1 << 36, 0, api.ErrRange}, // the quotient is 2^64
		{api.MaxUnits, maxLarge, 1<<36 + 1, 0, api.ErrRange},
		{api.MaxUnits, maxLarge, 1 << 37, 0, api.ErrRange},
		{api.MaxUnits, maxLarge, maxLarge / 2, 0, api.ErrRange},
		{16, maxLarge, 1, 0, api.ErrRange},
		{15, maxLarge, 1, 0, api.ErrRange},
		{1, api.MaxUnits + 1, 1, 0, api.ErrRange},
		{1, 2*api.MaxUnits + 2, 2, 0, api.ErrRange},
		{1, 2*api.MaxUnits + 1, 2, api.MaxUnits, api.OK},
		{1, 3*api.MaxUnits + 1, 3, api.MaxUnits, api.OK},
		{api.MaxUnits, maxLarge, maxLarge - 1, api.MaxUnits, api.OK},
	} {
		if got, e := share.Part(c.total, c.num, c.den); got != c.part || e != c.e {
			t.Errorf("Part(%d, %d, %d) = %d, %d, want %d, %d", c.total, c.num, c.den, got, e, c.part, c.e)
		}
		if got, e := share.Ceil(c.total, c.num, c.den); got != 0 || e != api.ErrRange {
			t.Errorf("Ceil(%d, %d, %d) = %d, %d", c.total, c.num, c.den, got, e)
		}
	}
}

// P3.1 and P3.2: arguments that are not valid, also where the result would be out of range.
func TestPartArguments(t *testing.T) {
	refused := func(total, num, den int) {
		t.Helper()
		if got, e := share.Part(total, num, den); got != 0 || e != api.ErrArg {
			t.Errorf("Part(%d, %d, %d) = %d, %d", total, num, den, got, e)
		}
		if got, e := share.Ceil(total, num, den); got != 0 || e != api.ErrArg {
			t.Errorf("Ceil(%d, %d, %d) = %d, %d", total, num, den, got, e)
		}
	}
	for _, n := range noAmounts() {
		refused(n, 1, 1)
		refused(n, 0, maxLarge)
		refused(n, maxLarge, 1)
	}
	for _, n := range noLarges() {
		refused(1, n, 1)
		refused(0, n, maxLarge)
		refused(1, 1, n)
		refused(0, 0, n)
		refused(n, n, n)
	}
	refused(1, 1, 0)
	refused(0, 0, 0)
	refused(api.MaxUnits, maxLarge, 0)
	refused(-1, -1, 1)
	refused(1, -1, -1)
}

// quotient computes total * num / den in another way, rounded down or up.
func quotient(total, num, den int, up bool) (int, api.Errno) {
	whole, rest := new(big.Int).QuoRem(product(total, num), wide(den), new(big.Int))
	if up && rest.Sign() > 0 {
		whole.Add(whole, wide(1))
	}
	if whole.Cmp(wide(api.MaxUnits)) > 0 {
		return 0, api.ErrRange
	}
	return int(whole.Int64()), api.OK
}

// P3.1 and P3.2: compared with big integers.
func TestQuotients(t *testing.T) {
	check := func(total, num, den int) {
		t.Helper()
		got, e := share.Part(total, num, den)
		if want, wantE := quotient(total, num, den, false); got != want || e != wantE {
			t.Errorf("Part(%d, %d, %d) = %d, %d, want %d, %d", total, num, den, got, e, want, wantE)
		}
		got, e = share.Ceil(total, num, den)
		if want, wantE := quotient(total, num, den, true); got != want || e != wantE {
			t.Errorf("Ceil(%d, %d, %d) = %d, %d, want %d, %d", total, num, den, got, e, want, wantE)
		}
	}
	for _, total := range amounts() {
		for _, num := range larges() {
			for _, den := range larges()[1:] {
				check(total, num, den)
			}
		}
	}
	for i := range 20000 {
		total, num := sampled(api.MaxUnits+1, i, 0), sampled(maxLarge+1, i, 1)>>sampled(60, i, 2)
		check(total, num, 1+sampled(maxLarge, i, 3)>>sampled(60, i, 4))
	}
}

// division is a Split that succeeds.
type division struct {
	total   int
	weights []int
}

// P3.3: the expected parts are computed by hand.
func TestSplit(t *testing.T) {
	for _, c := range []struct {
		total         int
		weights, want []int
	}{
		{10, []int{1, 1, 1}, []int{4, 3, 3}},
		{10, []int{3, 0, 4}, []int{4, 0, 6}},
		{11, []int{1, 1, 1}, []int{4, 4, 3}},
		{12, []int{1, 1, 1}, []int{4, 4, 4}},
		{0, []int{1, 0, 2}, []int{0, 0, 0}},
		{7, []int{5}, []int{7}},
		{1, []int{1, 2}, []int{0, 1}},
		{1, []int{2, 2}, []int{1, 0}},
		{1, []int{0, 0, 1}, []int{0, 0, 1}},
		{1, []int{0, 5, 0, 5}, []int{0, 1, 0, 0}},
		{7, []int{10, 20, 30}, []int{1, 2, 4}},                // the remainders are 10, 20 and 30 of 60
		{5, []int{6, 5, 4, 3, 2, 1}, []int{1, 1, 1, 1, 1, 0}}, // 9, 4, 20, 15, 10 and 5 of 21
		{4, []int{1, 4, 1, 4}, []int{0, 2, 0, 2}},             // 4, 6, 4 and 6 of 10
		{3, []int{1, 4, 1, 4}, []int{1, 1, 0, 1}},             // 3, 2, 3 and 2 of 10
		{api.MaxUnits, []int{api.MaxUnits}, []int{api.MaxUnits}},
		{api.MaxUnits, []int{0, 1, 0}, []int{0, api.MaxUnits, 0}},
		{api.MaxUnits, []int{api.MaxUnits, api.MaxUnits}, []int{api.MaxUnits / 2, api.MaxUnits / 2}},
		{api.MaxUnits - 1, []int{api.MaxUnits, api.MaxUnits}, []int{api.MaxUnits / 2, api.MaxUnits/2 - 1}},
		{api.MaxUnits, []int{api.MaxUnits - 1, api.MaxUnits}, []int{api.MaxUnits / 2, api.MaxUnits / 2}}, // a quarter below, and above
		{api.MaxUnits, []int{1, api.MaxUnits - 1}, []int{1, api.MaxUnits - 1}},
	} {
		got, e := share.Split(c.total, c.weights)
		if !slices.Equal(got, c.want) || e != api.OK {
			t.Errorf("Split(%d, %v) = %v, %d, want %v", c.total, c.weights, got, e, c.want)
		}
	}
}

// P3.3: of many equal remainders, those of the first weights get 1 more.
func TestSplitTies(t *testing.T) {
	for missing := range 1000 {
		want := slices.Concat(slices.Repeat([]int{3}, missing), slices.Repeat([]int{2}, 1000-missing))
		got, e := share.Split(2000+missing, slices.Repeat([]int{17}, 1000))
		if !slices.Equal(got, want) || e != api.OK {
			t.Errorf("%d more than 2000 in 1000 parts: %v, %d", missing, got, e)
		}
	}
	weights := slices.Repeat([]int{0, 1, 1, 0, 3}, 50) // quotas 0.4, 0.4 and 1.2
	want := slices.Repeat([]int{0, 0, 0, 0, 1}, 50)
	for i := range 25 {
		want[5*i+1], want[5*i+2] = 1, 1
	}
	got, e := share.Split(100, weights)
	if !slices.Equal(got, want) || e != api.OK {
		t.Errorf("ties between other weights: %v, %d, want %v", got, e, want)
	}
}

// P3.3: arguments that are not valid.
func TestSplitArguments(t *testing.T) {
	refused := func(total int, weights ...int) {
		t.Helper()
		if got, e := share.Split(total, weights); len(got) != 0 || e != api.ErrArg {
			t.Errorf("Split(%d, %v) = %v, %d", total, weights, got, e)
		}
	}
	for _, n := range noAmounts() {
		refused(n, 1)
		refused(n, 1, 2, 3)
		refused(5, n)
		refused(5, n, 1)
		refused(5, 1, 0, n)
		refused(0, 1, n, 1)
		refused(n, n)
	}
	for _, total := range []int{0, 5, api.MaxUnits, -1} {
		refused(total)
		refused(total, 0)
		refused(total, 0, 0, 0)
	}
	refused(5, -1, 1)
	refused(5, -1, 2)
	refused(5, 1, math.MaxInt, math.MaxInt, 3) // the sum wraps around to 2
}

// P3.3: sums of weights up to 2^60, and greater ones, up to such as do not fit in 64 bits.
func TestSplitSums(t *testing.T) {
	weights := slices.Repeat([]int{api.MaxUnits}, 1<<24+1)
	weights[1<<24] = 1
	for _, n := range []int{1<<20 + 1, 1 << 21, 1 << 23, 1<<23 + 1, 1 << 24} {
		if got, e := share.Split(5, weights[:n]); len(got) != 0 || e != api.ErrArg {
			t.Errorf("%d weights of 2^40: %d parts, %d", n, len(got), e)
		}
	}
	for _, l := range [][]int{weights, weights[1<<24-1<<20:]} { // the sums are 2^64 + 1 and 2^60 + 1
		if got, e := share.Split(5, l); len(got) != 0 || e != api.ErrArg {
			t.Errorf("%d weights of 2^40 and 1: %d parts, %d", len(l)-1, len(got), e)
		}
	}
	most := weights[:1<<20]
	got, e := share.Split(1<<20+5, most)
	want := slices.Repeat([]int{1}, 1<<20)
	for i := range 5 {
		want[i] = 2
	}
	if !slices.Equal(got, want) || e != api.OK {
		t.Errorf("a sum of 2^60: %d parts, %d", len(got), e)
	}
	most[1<<20-1]-- // a quota of 2^20 and 2^20/(2^60 - 1), but the last one is less than 2^20 by almost 2^-20
	got, e = share.Split(api.MaxUnits, most)
	if !slices.Equal(got, slices.Repeat([]int{1 << 20}, 1<<20)) || e != api.OK {
		t.Errorf("a sum of 2^60 - 1: %d parts, %d", len(got), e)
	}
}

// P3.3: remainders that differ by 1, the greater one behind the smaller one.
func TestSplitCloseRemainders(t *testing.T) {
	got, e := share.Split(1, []int{api.MaxUnits - 1, api.MaxUnits})
	if !slices.Equal(got, []int{0, 1}) || e != api.OK {
		t.Errorf("remainders of 2^40 - 1 and 2^40: %v, %d", got, e)
	}
	// The sum is 2^60 - 1, so the first three remainders are 2^59, 2^59 + 1 and 2^60 - 2^30 + 1021, all others 1024; 2 are missing.
	others := 1<<20 - 1
	weights := slices.Concat([]int{1 << 29, 3 << 29, 1<<40 - 1<<31 - 1}, slices.Repeat([]int{api.MaxUnits}, others))
	want := slices.Concat([]int{0, 2, 1022}, slices.Repeat([]int{1024}, others))
	got, e = share.Split(1<<30, weights)
	if !slices.Equal(got, want) || e != api.OK {
		t.Errorf("remainders of 2^59 and 2^59 + 1: %v, %d, want %v", got[:min(3, len(got))], e, want[:3])
	}
}

// P3.3: the weights are neither changed nor kept, and the result is new memory.
func TestSplitMemory(t *testing.T) {
	weights := []int{5, 0, 3, 9, 1}
	first, _ := share.Split(10, weights[:3])
	clear(first[:cap(first)])
	second, _ := share.Split(10, weights[:3])
	if !slices.Equal(weights, []int{5, 0, 3, 9, 1}) {
		t.Errorf("Split has changed its argument to %v", weights)
	}
	clear(weights)
	if !slices.Equal(second, []int{6, 0, 4}) {
		t.Errorf("Split(10, [5 0 3]) = %v after changes", second)
	}
}

// lists returns all lists of at most that many numbers below limit.
func lists(most, limit int) [][]int {
	all, last := [][]int{nil}, [][]int{nil}
	for range most {
		var next [][]int
		for _, l := range last {
			for n := range limit {
				next = append(next, append(slices.Clone(l), n))
			}
		}
		all, last = append(all, next...), next
	}
	return all
}

// divisions returns small divisions, and some with numbers of all sizes.
func divisions() []division {
	var l []division
	for _, weights := range lists(4, 4) {
		if slices.ContainsFunc(weights, func(w int) bool { return w > 0 }) {
			for total := range 10 {
				l = append(l, division{total, weights})
			}
		}
	}
	for i := range 3000 {
		weights := []int{1 + sampled(api.MaxUnits, i, 0)>>sampled(40, i, 1)}
		for j := range sampled(30, i, 2) {
			weights = append(weights, sampled(api.MaxUnits+1, i, 3, j)>>sampled(42, i, 4, j))
		}
		if i%3 == 0 {
			weights = append(weights, weights...) // so that remainders are equal
		}
		l = append(l, division{sampled(api.MaxUnits+1, i, 5) >> sampled(41, i, 6), weights})
	}
	return append(l, manyWeights(500), manyWeights(501))
}

// manyWeights is a division by weights that are close to each other, so that remainders are, too.
func manyWeights(n int) division {
	d := division{api.MaxUnits - n, make([]int, n)}
	for i := range n {
		d.weights[i] = api.MaxUnits - sampled(n/4, i)
	}
	return d
}

func (d division) sum() int {
	sum := 0
	for _, w := range d.weights {
		sum += w
	}
	return sum
}

// split returns the parts, as many as there are weights.
func (d division) split(t *testing.T) []int {
	t.Helper()
	parts, e := share.Split(d.total, d.weights)
	if e != api.OK || len(parts) != len(d.weights) {
		t.Fatalf("Split(%d, %v) = %v, %d", d.total, d.weights, parts, e)
	}
	return parts
}

// excess returns how much a part is greater than the quota of the weight at i, times the sum of the weights.
func (d division) excess(i, part, sum int) *big.Int {
	return new(big.Int).Sub(product(part, sum), product(d.total, d.weights[i]))
}

// expected computes the parts in another way: 1 more goes, one at a time, to the part that is the farthest below its quota.
func (d division) expected() []int {
	sum := d.sum()
	parts := make([]int, len(d.weights))
	missing := d.total
	for i, w := range d.weights {
		parts[i], _ = quotient(d.total, w, sum, false)
		missing -= parts[i]
	}
	below := make([]*big.Int, len(parts))
	for i, n := range parts {
		below[i] = d.excess(i, n, sum)
	}
	for range missing {
		first := 0
		for i := range below {
			if below[i].Cmp(below[first]) < 0 {
				first = i
			}
		}
		parts[first]++
		below[first].Add(below[first], wide(sum))
	}
	return parts
}

// P3.3: compared with big integers.
func TestSplits(t *testing.T) {
	for _, d := range divisions() {
		if got, want := d.split(t), d.expected(); !slices.Equal(got, want) {
			t.Errorf("Split(%d, %v) = %v, want %v", d.total, d.weights, got, want)
		}
	}
}

// P3.5
func TestSplitIsFair(t *testing.T) {
	for _, d := range divisions() {
		sum, given := d.sum(), 0
		for i, n := range d.split(t) {
			given += n
			if d.excess(i, n, sum).CmpAbs(wide(sum)) >= 0 {
				t.Errorf("Split(%d, %v): %d is 1 away from the quota of %d", d.total, d.weights, n, d.weights[i])
			}
			if d.weights[i] == 0 && n != 0 {
				t.Errorf("Split(%d, %v): a weight 0 gets %d", d.total, d.weights, n)
			}
		}
		if given != d.total {
			t.Errorf("the parts of Split(%d, %v) have the sum %d", d.total, d.weights, given)
		}
	}
}

// P3.6: multiplied weights.
func TestSplitScales(t *testing.T) {
	scaled := 0
	for _, d := range divisions() {
		parts, greatest := d.split(t), slices.Max(d.weights)
		for _, k := range []int{2, 3, 1000003, api.MaxUnits / greatest} {
			if k > api.MaxUnits/greatest {
				continue
			}
			by := division{d.total, slices.Clone(d.weights)}
			for i := range by.weights {
				by.weights[i] *= k
			}
			scaled++
			if got := by.split(t); !slices.Equal(got, parts) {
				t.Errorf("Split(%d, %v) = %v, and with %d times the weights %v", d.total, d.weights, parts, k, got)
			}
		}
	}
	if scaled < 10000 {
		t.Errorf("only %d divisions were scaled", scaled)
	}
}

// P3.6: greater weights. Of equal ones, the first does not get less (P3.3).
func TestSplitGrowsWithWeights(t *testing.T) {
	for _, d := range divisions() {
		parts := d.split(t)
		for i, v := range d.weights {
			for j, w := range d.weights {
				if (v > w || v == w && i < j) && parts[i] < parts[j] {
					t.Errorf("Split(%d, %v) = %v: %d gets less than %d", d.total, d.weights, parts, v, w)
				}
			}
		}
	}
}

// P3.7: the sum of the distances changes by those of two parts alone.
func TestSplitIsBest(t *testing.T) {
	distance := func(d division, i, part, sum int) *big.Int {
		n := d.excess(i, part, sum)
		return n.Abs(n)
	}
	for _, d := range divisions() {
		sum, parts := d.sum(), d.split(t)
		less, more := make([]*big.Int, len(parts)), make([]*big.Int, len(parts)) // the changes of the distances
		for i, n := range parts {
			now := distance(d, i, n, sum)
			less[i], more[i] = distance(d, i, n-1, sum), distance(d, i, n+1, sum)
			less[i].Sub(less[i], now)
			more[i].Sub(more[i], now)
		}
		for i := range parts {
			for j := range parts {
				if i != j && new(big.Int).Add(less[i], more[j]).Sign() < 0 {
					t.Errorf("Split(%d, %v) = %v: moving 1 from %d to %d is better", d.total, d.weights, parts, i, j)
				}
			}
		}
	}
}

// P3.8: a part and the complement, rounded up, are the total.
func TestPartAndRest(t *testing.T) {
	check := func(total, num, den int) {
		t.Helper()
		part, e := share.Part(total, num, den)
		rest, f := share.Ceil(total, den-num, den)
		if part+rest != total || e != api.OK || f != api.OK {
			t.Errorf("%d * %d / %d: %d, %d and %d, %d", total, num, den, part, e, rest, f)
		}
	}
	for _, total := range amounts() {
		for _, den := range larges()[1:] {
			for _, num := range append(larges(), den/2, den/3, den-1) {
				if num <= den {
					check(total, num, den)
				}
			}
		}
	}
	for i := range 5000 {
		den := 1 + sampled(maxLarge, i, 0)>>sampled(60, i, 1)
		check(sampled(api.MaxUnits+1, i, 2), sampled(den+1, i, 3), den)
	}
}

// P3.8: Part grows with num.
func TestPartGrows(t *testing.T) {
	for _, den := range larges()[1:] {
		for _, total := range amounts() {
			before := 0
			for _, num := range larges() {
				part, e := share.Part(total, num, den)
				if e == api.ErrRange {
					part = api.MaxUnits + 1
				}
				if part < before {
					t.Errorf("Part(%d, %d, %d) = %d, %d, but it was %d before", total, num, den, part, e, before)
				}
				before = part
			}
		}
	}
	for num := range 1000 {
		part, _ := share.Part(api.MaxUnits, num, 999)
		next, e := share.Part(api.MaxUnits, num+1, 999)
		if want := num < 999; (part < next) != want || (e == api.OK) != want {
			t.Errorf("Part with %d of 999: %d, then %d, %d", num, part, next, e)
		}
	}
}

// fractions returns pairs of large numbers, the second one of each not 0.
func fractions() [][2]int {
	var l [][2]int
	for _, num := range larges() {
		for _, den := range larges()[1:] {
			l = append(l, [2]int{num, den})
		}
	}
	for i := range 100 {
		num, den := sampled(maxLarge, i, 0), 1+sampled(maxLarge, i, 1)
		l = append(l, [2]int{num, den}, [2]int{num >> sampled(60, i, 2), 1 + den>>sampled(60, i, 3)})
	}
	return l
}

// compare returns what Compare says of two valid fractions.
func compare(t *testing.T, x, y [2]int) int {
	t.Helper()
	got, e := share.Compare(x[0], x[1], y[0], y[1])
	if e != api.OK {
		t.Fatalf("Compare of %v and %v: %d", x, y, e)
	}
	return got
}

// P3.4
func TestCompare(t *testing.T) {
	for _, c := range []struct{ a, b, c, d, want int }{
		{1, 2, 2, 4, 0},
		{1, 2, 1, 3, 1},
		{1, 3, 1, 2, -1},
		{0, 7, 0, 1, 0},
		{0, maxLarge, 1, maxLarge, -1},
		{2, 1, 1, 2, 1},
		{maxLarge, maxLarge, 1, 1, 0},
		{maxLarge, 1, maxLarge - 1, 1, 1},
		{maxLarge, 1, 1, maxLarge, 1},
		{1, maxLarge, 1, maxLarge - 1, -1},
		{maxLarge - 1, maxLarge, maxLarge - 2, maxLarge - 1, 1}, // the products differ by 1
		{maxLarge - 2, maxLarge - 1, maxLarge - 1, maxLarge, -1},
		{16, maxLarge, 16, maxLarge, 0},
		{1 << 30, 1 << 34, 1 << 50, 1 << 54, 0}, // products of 2^84
		{1 << 34, 1 << 30, 0, 1 << 30, 1},       // 2^64 and 0
	} {
		if got, e := share.Compare(c.a, c.b, c.c, c.d); got != c.want || e != api.OK {
			t.Errorf("Compare(%d, %d, %d, %d) = %d, %d, want %d", c.a, c.b, c.c, c.d, got, e, c.want)
		}
	}
	for _, x := range fractions() {
		for _, y := range fractions() {
			if got, want := compare(t, x, y), product(x[0], y[1]).Cmp(product(y[0], x[1])); got != want {
				t.Errorf("Compare of %v and %v = %d, want %d", x, y, got, want)
			}
		}
	}
}

// P3.4: arguments that are not valid, in each place.
func TestCompareArguments(t *testing.T) {
	refused := func(a, b, c, d int) {
		t.Helper()
		if got, e := share.Compare(a, b, c, d); got != 0 || e != api.ErrArg {
			t.Errorf("Compare(%d, %d, %d, %d) = %d, %d", a, b, c, d, got, e)
		}
	}
	for _, n := range noLarges() {
		for at := range 4 {
			l := []int{1, 2, 3, 4}
			l[at] = n
			refused(l[0], l[1], l[2], l[3])
		}
		refused(n, n, n, n)
	}
	refused(1, 0, 1, 1)
	refused(1, 1, 1, 0)
	refused(0, 0, 0, 0)
	refused(0, 0, 1, 1)
	refused(-1, -2, 1, 2)
}

// P3.9: of three fractions, and of a fraction and a multiple of it.
func TestOrder(t *testing.T) {
	l := [][2]int{{0, 1}, {0, maxLarge}, {1, maxLarge}, {1, maxLarge - 1}, {maxLarge - 2, maxLarge - 1}, {maxLarge - 1, maxLarge}, {1, 1}, {maxLarge, maxLarge}, {maxLarge, maxLarge - 1}, {maxLarge, 1}, {maxLarge - 1, 1}}
	for i := range 5 {
		for j := range 5 {
			l = append(l, [2]int{i, j + 1}, [2]int{i << 57, (j + 1) << 57})
		}
	}
	for _, x := range l {
		for _, y := range l {
			if compare(t, x, y) != -compare(t, y, x) {
				t.Errorf("Compare of %v and %v is not that of the other way round", x, y)
			}
			for _, z := range l {
				first, second := compare(t, x, y), compare(t, y, z)
				if first <= 0 && second <= 0 && compare(t, x, z) != min(first, second) {
					t.Errorf("Compare is not transitive for %v, %v and %v", x, y, z)
				}
			}
		}
	}
	for _, x := range fractions() {
		most := maxLarge / max(x[0], x[1])
		for _, k := range []int{1, 2, 3, 1<<31 + 1, most} {
			if k <= most && compare(t, x, [2]int{k * x[0], k * x[1]}) != 0 {
				t.Errorf("%d times %v is another fraction", k, x)
			}
		}
	}
}
