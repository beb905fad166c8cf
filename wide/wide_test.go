package wide_test

import (
	"math"
	"math/big"
	"strings"
	"testing"

	"worldmint/api"
	"worldmint/hash"
	"worldmint/wide"
)

// These tests compare the package with package math/big, which a test may use, and with numbers that were worked out by hand.

// maxBits is how many bits an integer has at most.
const maxBits = 16384

// parse returns the integer with a decimal text.
func parse(t testing.TB, s string) wide.Int {
	t.Helper()
	x, e := wide.Parse(s)
	if e != api.OK {
		t.Fatalf("Parse(%.40q) = %d", s, e)
	}
	return x
}

// power returns 2^n + add.
func power(n int, add int64) *big.Int {
	x := new(big.Int).Lsh(big.NewInt(1), uint(n))
	return x.Add(x, big.NewInt(add))
}

// sample returns a number with that many bits, that is the same in each run.
func sample(label, bits int) *big.Int {
	x := new(big.Int)
	for i := 0; i < bits; i += 64 {
		x.Lsh(x, 64).Add(x, new(big.Int).SetUint64(hash.Sum("sample", label, i)))
	}
	x.SetBit(x, bits-1, 1)
	return x.And(x, power(bits, -1))
}

// withNegatives returns numbers, and after each one its negative.
func withNegatives(numbers []*big.Int) []*big.Int {
	var l []*big.Int
	for _, n := range numbers {
		l = append(l, n, new(big.Int).Neg(n))
	}
	return l
}

// middling returns numbers of up to some words, many of them close to where a word ends.
func middling() []*big.Int {
	var l []*big.Int
	for n := range 8 {
		l = append(l, big.NewInt(int64(n)))
	}
	for _, bits := range []int{31, 32, 33, 63, 64, 95, 96, 127, 128} {
		l = append(l, power(bits, -1), power(bits, 0), power(bits, 1))
	}
	for bits := 20; bits < 330; bits += 31 {
		l = append(l, sample(bits, bits))
	}
	l = append(l, power(96, -1<<32), power(95, 1<<32-1), power(95, 1<<32), new(big.Int).Mul(power(96, -1), power(64, 0)))
	return l
}

// great returns numbers close to the limit, and to its root.
func great() []*big.Int {
	return []*big.Int{
		power(maxBits, -1), power(maxBits, -2), power(maxBits-1, 0), power(maxBits-1, -1), power(maxBits-32, 0),
		power(maxBits/2, -1), power(maxBits/2, 0), power(maxBits/2, 1), sample(0, maxBits), sample(1, maxBits/2+1),
	}
}

// pairs calls f with all pairs of middling numbers, and of a great one with some others.
func pairs(f func(a, b *big.Int)) {
	middling, great := withNegatives(middling()), withNegatives(great())
	for _, a := range middling {
		for _, b := range middling {
			f(a, b)
		}
	}
	for i, a := range great {
		for _, b := range []*big.Int{new(big.Int), big.NewInt(1), big.NewInt(-1), big.NewInt(-10), middling[2*i+40], great[(i+3)%len(great)], great[(i+8)%len(great)], a} {
			f(a, b)
			f(b, a)
		}
	}
}

// fits reports whether a number is in range.
func fits(x *big.Int) bool { return x.BitLen() <= maxBits }

// check compares the result of an operation with the number that it has to be; one that is out of range has to be an error.
func check(t *testing.T, what string, a, b *big.Int, got wide.Int, e api.Errno, want *big.Int) {
	t.Helper()
	text, wantError := want.String(), api.OK
	if !fits(want) {
		text, wantError = "0", api.ErrLimit
	}
	if e != wantError || got.String() != text {
		t.Errorf("%s of %.60s and %.60s = %.60s, %d, want %.60s, %d", what, a, b, got, e, text, wantError)
	}
}

// isZero reports whether an integer is 0 in all that can be seen of it.
func isZero(x wide.Int) bool {
	n, ok := x.Small()
	return wide.Sign(x) == 0 && x.String() == "0" && n == 0 && ok && wide.Compare(x, wide.Int{}) == 0 && wide.Compare(wide.Neg(x), x) == 0
}

// P5.1
func TestFromAndSmall(t *testing.T) {
	ints := []int{0, 1, -1, 9, 10, -10, 1 << 31, -1 << 31, 1<<32 - 1, 1 << 32, 1<<32 + 1, -1<<32 + 1, -1 << 32, -1<<32 - 1, 5 << 32, math.MaxInt, math.MaxInt - 1, math.MinInt, math.MinInt + 1, math.MinInt + 1<<32}
	for i := range 200 {
		ints = append(ints, int(hash.Sum("sample", i))>>(i%64))
	}
	for _, n := range ints {
		x := wide.From(n)
		if m, ok := x.Small(); m != n || !ok {
			t.Errorf("From(%d).Small() = %d, %t", n, m, ok)
		}
		if want := big.NewInt(int64(n)).String(); x.String() != want || wide.Compare(x, parse(t, want)) != 0 {
			t.Errorf("From(%d) = %s", n, x)
		}
	}
	if !isZero(wide.From(0)) || !isZero(wide.Int{}) {
		t.Error("0 is not the zero value")
	}
}

// P5.1
func TestSmallOutOfRange(t *testing.T) {
	for _, c := range []struct {
		text string
		n    int
		ok   bool
	}{
		{"9223372036854775806", math.MaxInt - 1, true},
		{"9223372036854775807", math.MaxInt, true},
		{"9223372036854775808", 0, false},
		{"9223372036854775809", 0, false},
		{"-9223372036854775807", math.MinInt + 1, true},
		{"-9223372036854775808", math.MinInt, true},
		{"-9223372036854775809", 0, false},
		{"18446744073709551615", 0, false},
		{"-18446744073709551615", 0, false},
		{"18446744073709551616", 0, false},
		{"18446744073709551617", 0, false},
		{"-18446744073709551616", 0, false},
		{"-18446744073709551617", 0, false},
		{"79228162514264337593543950337", 0, false},
		{power(maxBits, -1).String(), 0, false},
	} {
		if n, ok := parse(t, c.text).Small(); n != c.n || ok != c.ok {
			t.Errorf("Small of %.40s = %d, %t", c.text, n, ok)
		}
	}
}

// P5.2, P5.9
func TestTexts(t *testing.T) {
	for _, n := range withNegatives(append(middling(), great()...)) {
		if got := parse(t, n.String()).String(); got != n.String() {
			t.Errorf("Parse(%.60s).String() = %.60s", n, got)
		}
	}
	for digits := range 60 { // zeros within a text and at its end
		for _, s := range []string{"1" + strings.Repeat("0", digits), strings.Repeat("9", digits+1), "5" + strings.Repeat("0", digits) + "7", "-10" + strings.Repeat("01", digits)} {
			if got := parse(t, s).String(); got != s {
				t.Errorf("Parse(%s).String() = %s", s, got)
			}
		}
	}
	if !isZero(parse(t, "0")) {
		t.Error("0 is not the zero value")
	}
}

// P5.2
func TestTextsOfIntegers(t *testing.T) {
	x := wide.From(1)
	for n := range maxBits { // made without Parse
		if n%1117 == 0 || n < 130 {
			if want := power(n, 0).String(); x.String() != want || wide.Neg(x).String() != "-"+want {
				t.Fatalf("2^%d = %s", n, x)
			}
		}
		x, _ = wide.Add(x, x)
	}
}

// P5.2
func TestMalformedTexts(t *testing.T) {
	malformed := []string{"", "-", "--", "--1", "+", "+1", "+0", "-+1", "+-1", "00", "01", "-0", "-00", "-01", "0-", "1-", "1-1", " ", " 1", "1 ", "- 1", "1\n", "\x001", "1\x00", "1a", "a", "0x1", "1_000", "1,000", "1.0", "1e3", "−1", "١", "1١", "\xff", "1\xff", "000000000", "0000000001", "012345678901", strings.Repeat("0", 5000), strings.Repeat("9", 4999) + "x", "x" + strings.Repeat("9", 4999), "-" + strings.Repeat("0", 4999), strings.Repeat("-", 5000)}
	for b := range 256 {
		c := string([]byte{byte(b)})
		if b < '0' || b > '9' {
			malformed = append(malformed, c, "1"+c, "123456789"+c, "1234"+c+"56789012345")
		}
		if b != '-' && (b < '0' || b > '9') {
			malformed = append(malformed, c+"1", c+"123456789", "-"+c+"1")
		}
	}
	for _, s := range malformed {
		if x, e := wide.Parse(s); e != api.ErrForm || !isZero(x) {
			t.Errorf("Parse(%.40q) = %s, %d", s, x, e)
		}
	}
}

// P5.2
func TestGreatTexts(t *testing.T) {
	limit := power(maxBits, 0).String()
	for _, c := range []struct {
		text string
		e    api.Errno
	}{
		{power(maxBits, -1).String(), api.OK},
		{"-" + power(maxBits, -1).String(), api.OK},
		{limit, api.ErrLimit},
		{"-" + limit, api.ErrLimit},
		{power(maxBits, 1).String(), api.ErrLimit},
		{"1" + strings.Repeat("0", 4931), api.OK}, // 4932 digits
		{strings.Repeat("9", 4932), api.OK},
		{"1" + strings.Repeat("0", 4932), api.OK}, // 4933 digits; the limit is 1.18 times that
		{strings.Repeat("9", 4933), api.ErrLimit},
		{"1" + strings.Repeat("0", 4999), api.ErrLimit}, // 5000 bytes
		{strings.Repeat("9", 5000), api.ErrLimit},
		{"-" + strings.Repeat("9", 4999), api.ErrLimit},
		{strings.Repeat("9", 5001), api.ErrLimit},
		{strings.Repeat("0", 5001), api.ErrLimit}, // no decimal text, but the length counts first
		{"0" + strings.Repeat("9", 4999), api.ErrForm},
		{strings.Repeat("x", 5000), api.ErrForm},
		{strings.Repeat("x", 5001), api.ErrLimit},
		{"-" + strings.Repeat("0", 5000), api.ErrLimit},
		{strings.Repeat(" ", 1<<20), api.ErrLimit},
	} {
		x, e := wide.Parse(c.text)
		if e != c.e || e != api.OK && !isZero(x) || e == api.OK && x.String() != c.text {
			t.Errorf("Parse(%.20q) of %d bytes = %.40s, %d, want %d", c.text, len(c.text), x, e, c.e)
		}
	}
}

// P5.3
func TestSumsAndProducts(t *testing.T) {
	pairs(func(a, b *big.Int) {
		x, y := parse(t, a.String()), parse(t, b.String())
		s, e := wide.Add(x, y)
		check(t, "sum", a, b, s, e, new(big.Int).Add(a, b))
		d, e := wide.Sub(x, y)
		check(t, "difference", a, b, d, e, new(big.Int).Sub(a, b))
		p, e := wide.Mul(x, y)
		check(t, "product", a, b, p, e, new(big.Int).Mul(a, b))
	})
}

// P5.3
func TestZeroResults(t *testing.T) {
	for _, n := range withNegatives(append(middling(), great()...)) {
		x := parse(t, n.String())
		if d, e := wide.Sub(x, x); e != api.OK || !isZero(d) {
			t.Errorf("%.40s - itself = %.40s, %d", n, d, e)
		}
		if s, e := wide.Add(x, wide.Neg(x)); e != api.OK || !isZero(s) {
			t.Errorf("%.40s + its negative = %.40s, %d", n, s, e)
		}
		for _, zero := range []wide.Int{{}, wide.From(0), wide.Neg(wide.From(0))} {
			if p, e := wide.Mul(x, zero); e != api.OK || !isZero(p) {
				t.Errorf("%.40s * 0 = %.40s, %d", n, p, e)
			}
			if p, e := wide.Mul(zero, x); e != api.OK || !isZero(p) {
				t.Errorf("0 * %.40s = %.40s, %d", n, p, e)
			}
		}
	}
}

// P5.3
func TestLimits(t *testing.T) {
	top := parse(t, power(maxBits, -1).String())
	bottom, half, one := wide.Neg(top), parse(t, power(maxBits-1, 0).String()), wide.From(1)
	for i, c := range []struct {
		f    func(x, y wide.Int) (wide.Int, api.Errno)
		x, y wide.Int
		e    api.Errno
	}{
		{wide.Add, top, one, api.ErrLimit},
		{wide.Add, one, top, api.ErrLimit},
		{wide.Add, top, wide.From(-1), api.OK},
		{wide.Add, top, wide.From(0), api.OK},
		{wide.Add, bottom, wide.From(-1), api.ErrLimit},
		{wide.Add, bottom, one, api.OK},
		{wide.Add, half, half, api.ErrLimit},
		{wide.Add, top, top, api.ErrLimit},
		{wide.Add, bottom, bottom, api.ErrLimit},
		{wide.Sub, top, wide.From(-1), api.ErrLimit},
		{wide.Sub, bottom, one, api.ErrLimit},
		{wide.Sub, wide.From(-1), top, api.ErrLimit},
		{wide.Sub, wide.From(0), top, api.OK},
		{wide.Sub, one, bottom, api.ErrLimit},
		{wide.Sub, top, top, api.OK},
		{wide.Sub, bottom, top, api.ErrLimit},
		{wide.Mul, top, one, api.OK},
		{wide.Mul, top, wide.From(-1), api.OK},
		{wide.Mul, bottom, wide.From(-1), api.OK},
		{wide.Mul, half, wide.From(2), api.ErrLimit},
		{wide.Mul, half, wide.From(-2), api.ErrLimit},
		{wide.Mul, top, top, api.ErrLimit},
		{wide.Mul, top, bottom, api.ErrLimit},
	} {
		if z, e := c.f(c.x, c.y); e != c.e || e != api.OK && !isZero(z) {
			t.Errorf("case %d: %.40s, %d, want %d", i, z, e, c.e)
		}
	}
}

// checkDivision compares a division with that of package math/big, which has the same rests.
func checkDivision(t *testing.T, a, b *big.Int) {
	t.Helper()
	q, r, e := wide.Div(parse(t, a.String()), parse(t, b.String()))
	if b.Sign() == 0 {
		if e != api.ErrArg || !isZero(q) || !isZero(r) {
			t.Errorf("%.60s / 0 = %.60s, %.60s, %d", a, q, r, e)
		}
		return
	}
	wantQ, wantR := new(big.Int).DivMod(a, b, new(big.Int))
	check(t, "quotient", a, b, q, e, wantQ)
	check(t, "rest", a, b, r, e, wantR)
}

// P5.4
func TestDiv(t *testing.T) {
	pairs(func(a, b *big.Int) { checkDivision(t, a, b) })
	for _, n := range withNegatives(great()) {
		checkDivision(t, n, new(big.Int))
		checkDivision(t, new(big.Int), n)
	}
}

// P5.4: the rests 0 and 1, the greatest ones, and quotients whose words are as small or as great as can be.
func TestDivAtTheEdge(t *testing.T) {
	var quotients []*big.Int
	for _, bits := range []int{1, 2, 31, 32, 33, 64, 65, 96} {
		quotients = append(quotients, power(bits, -1), power(bits, 0), power(bits, 1), power(bits, -2))
	}
	for _, b := range middling() {
		if b.Sign() == 0 {
			continue
		}
		for _, q := range quotients {
			exact := new(big.Int).Mul(q, b)
			for _, a := range withNegatives([]*big.Int{exact, new(big.Int).Add(exact, big.NewInt(1)), new(big.Int).Sub(exact, big.NewInt(1))}) {
				checkDivision(t, a, b)
				checkDivision(t, a, new(big.Int).Neg(b))
			}
		}
	}
}

// P5.4: divisors whose later words count for a word of the quotient, which does not follow from the first ones alone.
func TestDivLaterWords(t *testing.T) {
	for _, words := range []int{2, 3, 4, 6} {
		for _, low := range []*big.Int{power(32, -1), power(32*(words-1), -1), big.NewInt(1), power(32*(words-1)-1, 0)} {
			for _, top := range []int64{1, 2, 3, 1<<31 - 1, 1 << 31, 1<<31 + 1, 1<<32 - 2, 1<<32 - 1} {
				high := new(big.Int).Lsh(big.NewInt(top), uint(32*(words-1)))
				b := new(big.Int).Or(high, low)
				for _, times := range []*big.Int{big.NewInt(1), big.NewInt(5), power(32, -1), power(32, 0), power(32, 5), power(64, -1), power(64, 0), sample(words, 130)} {
					checkDivision(t, new(big.Int).Mul(high, times), b)
					checkDivision(t, new(big.Int).Sub(new(big.Int).Lsh(b, 32), big.NewInt(1)), b)
					checkDivision(t, new(big.Int).Sub(new(big.Int).Mul(b, times), big.NewInt(1)), b)
				}
			}
		}
	}
}

// P5.4, with the examples of the chapter.
func TestDivSigns(t *testing.T) {
	for _, c := range [][4]int{{7, 2, 3, 1}, {-7, 2, -4, 1}, {7, -2, -3, 1}, {-7, -2, 4, 1}, {6, 2, 3, 0}, {-6, 2, -3, 0}, {6, -2, -3, 0}, {-6, -2, 3, 0}, {1, 2, 0, 1}, {-1, 2, -1, 1}, {1, -2, 0, 1}, {-1, -2, 1, 1}, {0, 5, 0, 0}, {0, -5, 0, 0}, {5, 1, 5, 0}, {-5, -1, 5, 0}, {5, 5, 1, 0}, {4, 5, 0, 4}, {-4, 5, -1, 1}} {
		q, r, e := wide.Div(wide.From(c[0]), wide.From(c[1]))
		if e != api.OK || wide.Compare(q, wide.From(c[2])) != 0 || wide.Compare(r, wide.From(c[3])) != 0 {
			t.Errorf("%d / %d = %s, %s, %d", c[0], c[1], q, r, e)
		}
	}
	for _, x := range []wide.Int{{}, wide.From(1), wide.From(-1), parse(t, power(maxBits, -1).String())} {
		if q, r, e := wide.Div(x, wide.Int{}); e != api.ErrArg || !isZero(q) || !isZero(r) {
			t.Errorf("%.40s / 0 = %s, %s, %d", x, q, r, e)
		}
	}
}

// P5.5, P5.8
func TestGcd(t *testing.T) {
	var numbers []*big.Int
	for i, n := range middling() {
		numbers = append(numbers, n, new(big.Int).Mul(n, big.NewInt(int64(6+i))))
	}
	numbers = withNegatives(append(numbers, new(big.Int).Mul(sample(1, 300), sample(2, 900)), new(big.Int).Mul(sample(2, 900), sample(3, 400))))
	for i, a := range numbers {
		x := parse(t, a.String())
		for j, b := range numbers {
			if (i+j)%5 != 0 && i != j {
				continue
			}
			y := parse(t, b.String())
			g := wide.Gcd(x, y)
			want := new(big.Int).GCD(nil, nil, new(big.Int).Abs(a), new(big.Int).Abs(b))
			if g.String() != want.String() {
				t.Errorf("Gcd of %s and %s = %s, want %s", a, b, g, want)
			}
			checkDivisor(t, x, y, g)
		}
	}
	if !isZero(wide.Gcd(wide.Int{}, wide.Int{})) {
		t.Error("Gcd of 0 and 0 is not 0")
	}
}

// checkDivisor tests what the greatest common divisor of two integers has to be, without computing it in another way.
func checkDivisor(t *testing.T, x, y, g wide.Int) {
	t.Helper()
	if wide.Sign(g) == 0 {
		if wide.Sign(x) != 0 || wide.Sign(y) != 0 {
			t.Errorf("Gcd of %s and %s is 0", x, y)
		}
		return
	}
	if _, r, e := wide.Div(x, y); e == api.OK && wide.Compare(wide.Gcd(y, r), g) != 0 {
		t.Errorf("Gcd of %s and %s is not that of %s and the rest %s", x, y, y, r)
	}
	p, r, e := wide.Div(x, g)
	q, s, f := wide.Div(y, g)
	if e != api.OK || f != api.OK || wide.Sign(r) != 0 || wide.Sign(s) != 0 {
		t.Errorf("Gcd of %s and %s = %s, which does not divide them", x, y, g)
	}
	if one := wide.Gcd(p, q); wide.Compare(one, wide.From(1)) != 0 {
		t.Errorf("%s and %s, divided by %s, still have the common divisor %s", x, y, g, one)
	}
}

// P5.5: of integers close to the limit, also of such as need the most steps.
func TestGreatGcd(t *testing.T) {
	last, next := wide.From(0), wide.From(1)
	for {
		sum, e := wide.Add(last, next)
		if e != api.OK || wide.Sign(sum) != 1 {
			break
		}
		last, next = next, sum
	}
	if len(next.String()) < 4930 {
		t.Fatalf("the greatest number of Fibonacci has %d digits", len(next.String()))
	}
	top := parse(t, power(maxBits, -1).String())
	for _, c := range []struct {
		x, y, want wide.Int
	}{
		{next, last, wide.From(1)},
		{wide.Neg(last), next, wide.From(1)},
		{top, wide.Int{}, top},
		{wide.Int{}, wide.Neg(top), top},
		{wide.Neg(top), top, top},
		{top, parse(t, power(maxBits/2, -1).String()), parse(t, power(maxBits/2, -1).String())},
		{top, wide.From(30), wide.From(15)},
	} {
		if g := wide.Gcd(c.x, c.y); wide.Compare(g, c.want) != 0 {
			t.Errorf("Gcd of %.40s and %.40s = %.40s", c.x, c.y, g)
		}
	}
}

// P5.6
func TestOrder(t *testing.T) {
	pairs(func(a, b *big.Int) {
		x, y := parse(t, a.String()), parse(t, b.String())
		if got := wide.Compare(x, y); got != a.Cmp(b) {
			t.Errorf("Compare(%.60s, %.60s) = %d", a, b, got)
		}
	})
	for _, n := range withNegatives(append(middling(), great()...)) {
		x := parse(t, n.String())
		if got := wide.Sign(x); got != n.Sign() || got != wide.Compare(x, wide.Int{}) || got != -wide.Sign(wide.Neg(x)) {
			t.Errorf("Sign(%.60s) = %d", n, got)
		}
		if got := wide.Neg(x); got.String() != new(big.Int).Neg(n).String() || wide.Compare(wide.Neg(got), x) != 0 {
			t.Errorf("Neg(%.60s) = %.60s", n, got)
		}
	}
}

// P5.6: numbers that differ in one bit.
func TestOrderOfWords(t *testing.T) {
	for _, n := range []*big.Int{power(127, 0), sample(5, 128), power(128, -1)} {
		for bit := range 128 {
			other := new(big.Int).SetBit(n, bit, 1-n.Bit(bit))
			if got := wide.Compare(parse(t, n.String()), parse(t, other.String())); got != n.Cmp(other) {
				t.Errorf("Compare(%s, %s) = %d", n, other, got)
			}
		}
	}
}

// equal reports whether two results are the same, or one of them was out of range.
func equal(x wide.Int, e api.Errno, y wide.Int, f api.Errno) bool {
	return e != api.OK || f != api.OK || wide.Compare(x, y) == 0 && x.String() == y.String()
}

// P5.7
func TestRing(t *testing.T) {
	pairs(func(a, b *big.Int) {
		if a.BitLen() > 400 && (a.BitLen()+b.BitLen())%3 > 0 { // some of the great ones are enough
			return
		}
		x, y, z := parse(t, a.String()), parse(t, b.String()), wide.From(-1<<40+12345)
		s, es := wide.Add(x, y)
		s2, es2 := wide.Add(y, x)
		p, ep := wide.Mul(x, y)
		p2, ep2 := wide.Mul(y, x)
		if !equal(s, es, s2, es2) || !equal(p, ep, p2, ep2) || es != es2 || ep != ep2 {
			t.Errorf("%.60s and %.60s do not commute", a, b)
		}
		if back, e := wide.Sub(s, y); es == api.OK && !equal(back, e, x, e) {
			t.Errorf("%.60s + %.60s - %.60s = %.60s", a, b, b, back)
		}
		if d, e := wide.Sub(x, y); e == api.OK && (wide.Sign(d) == 0) != (wide.Compare(x, y) == 0) {
			t.Errorf("%.60s - %.60s = %.60s", a, b, d)
		}
		if es != api.OK || ep != api.OK {
			return
		}
		checkTriple(t, x, y, z, s, p)
	})
}

// checkTriple tests the laws of three integers, with the sum and the product of the first two ones.
func checkTriple(t *testing.T, x, y, z, s, p wide.Int) {
	t.Helper()
	left, e := wide.Add(s, z)
	inner, f := wide.Add(y, z)
	right, g := wide.Add(x, inner)
	if !equal(left, e, right, max(f, g)) {
		t.Errorf("sums of %.60s, %.60s and %s are not associative", x, y, z)
	}
	left, e = wide.Mul(p, z)
	inner, f = wide.Mul(y, z)
	right, g = wide.Mul(x, inner)
	if !equal(left, e, right, max(f, g)) {
		t.Errorf("products of %.60s, %.60s and %s are not associative", x, y, z)
	}
	left, e = wide.Mul(s, z)
	outer, f := wide.Mul(x, z)
	right, g = wide.Add(outer, inner)
	if !equal(left, e, right, max(f, g)) {
		t.Errorf("(%.60s + %.60s) * %s is not the sum of the products", x, y, z)
	}
}

// P5.8: great divisors, which are known before.
func TestDivisors(t *testing.T) {
	for i, bits := range []int{33, 64, 100, 1000, 4000} {
		g := parse(t, sample(i, bits).String())
		for _, c := range [][2]int{{1, 1}, {1, 2}, {7, 12}, {-35, 64}, {-1 << 40, 3}, {0, 1}, {-999983, -1000003}} {
			x, _ := wide.Mul(g, wide.From(c[0]))
			y, _ := wide.Mul(wide.From(c[1]), g)
			if got := wide.Gcd(x, y); wide.Compare(got, g) != 0 {
				t.Errorf("Gcd of %d and %d times %.60s = %.60s", c[0], c[1], g, got)
			}
			checkDivisor(t, x, y, g)
		}
	}
}

// P5.9
func TestDigits(t *testing.T) {
	digits := func(x wide.Int) int { return len(strings.TrimPrefix(x.String(), "-")) }
	pairs(func(a, b *big.Int) {
		if a.Sign() == 0 || b.Sign() == 0 {
			return
		}
		x, y := parse(t, a.String()), parse(t, b.String())
		p, e := wide.Mul(x, y)
		if n := digits(x) + digits(y); e == api.OK && digits(p) != n && digits(p) != n-1 {
			t.Errorf("the product of %.60s and %.60s has %d digits", a, b, digits(p))
		}
	})
}

// P5.9
func TestParseInvertsString(t *testing.T) {
	x := wide.From(-3)
	for e := api.OK; e == api.OK; x, e = wide.Mul(x, wide.From(-1_000_003_000_000)) {
		if y := parse(t, x.String()); wide.Compare(x, y) != 0 || y.String() != x.String() {
			t.Fatalf("Parse(%.60s) = %.60s", x, y)
		}
	}
}

// Functions never change their arguments (chapter, terminology), whatever is done with the results.
func TestArgumentsAreKept(t *testing.T) {
	for i, a := range append(middling(), great()[:2]...) {
		for _, b := range []*big.Int{a, middling()[(i+5)%len(middling())], power(64, -1), big.NewInt(-1)} {
			x, y := parse(t, a.String()), parse(t, b.String())
			var results []wide.Int
			for _, f := range []func(x, y wide.Int) (wide.Int, api.Errno){wide.Add, wide.Sub, wide.Mul} {
				z, _ := f(x, y)
				results = append(results, z, wide.Neg(z))
			}
			q, r, _ := wide.Div(x, y)
			results = append(results, q, r, wide.Gcd(x, y), wide.Neg(x))
			for _, z := range results {
				before := z.String()
				wide.Add(z, y)
				wide.Sub(z, x)
				wide.Div(z, y)
				wide.Div(y, z)
				wide.Gcd(z, y)
				if z.String() != before {
					t.Errorf("the result %.60s of %.60s and %.60s changed", before, a, b)
				}
			}
			if x.String() != a.String() || y.String() != b.String() {
				t.Errorf("%.60s and %.60s changed to %.60s and %.60s", a, b, x, y)
			}
		}
	}
}
