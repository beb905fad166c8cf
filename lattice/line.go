package lattice

import (
	"slices"

	"worldmint/wide"
)

// The functions of this file bring lines into normal form, one after the other. They leave out the errors of package wide, because nothing that they compute is out of its range of 16384 bits:
//
// All lines are in normal form whenever one is inserted; so are the lines with their multiples behind them and the kernel below them, which are the normal form of the rows so far, each with its unit vector behind it. The product of the pivots of a normal form divides a minor of the matrix, which has at most 64 * 43 = 2752 bits, and no entry is greater than 64 such minors, which is 6 bits more. While a line is inserted, its entries are minors of the lines and itself, divided by pivots, with less than 5700 bits; times an entry of the lines, less than 8500 bits. When lines are brought into normal form again, the multiples of the lower ones follow from a triangle whose entries are less than the pivots below them, so that all of it has less than 11300 bits.
//
// In takes multiples of 64 lines away from another one; with each of them, it grows by 64 bits at most.

// operation makes a row of two rows.
type operation func(x, y []wide.Int) []wide.Int

// combine returns the operation whose result is a times the first row and b times the second one.
func combine(a, b wide.Int) operation {
	return func(x, y []wide.Int) []wide.Int {
		l := make([]wide.Int, len(x))
		for i := range l {
			l[i] = sum(product(a, x[i]), product(b, y[i]))
		}
		return l
	}
}

// takeAway returns the operation whose result is the first row minus q times the second one.
func takeAway(q wide.Int) operation {
	return func(x, y []wide.Int) []wide.Int {
		l := make([]wide.Int, len(x))
		for i := range l {
			l[i] = less(x[i], q, y[i])
		}
		return l
	}
}

// sum returns x + y.
func sum(x, y wide.Int) wide.Int {
	z, _ := wide.Add(x, y)
	return z
}

// product returns x * y. Many entries are 0, and it is faster not to multiply them.
func product(x, y wide.Int) wide.Int {
	if wide.Sign(x) == 0 || wide.Sign(y) == 0 {
		return wide.Int{}
	}
	z, _ := wide.Mul(x, y)
	return z
}

// less returns x - q * y.
func less(x, q, y wide.Int) wide.Int {
	if wide.Sign(y) == 0 {
		return x
	}
	z, _ := wide.Sub(x, product(q, y))
	return z
}

// companion is a type of what goes along with rows: an operation on two rows is done to what goes along with them, too.
type companion[T any] interface {
	with(other T, o operation) T
}

// nothing goes along with rows.
type nothing struct{}

func (nothing) with(nothing, operation) nothing { return nothing{} }

// multiples of the rows of a matrix go along with the sum of them.
type multiples []wide.Int

func (x multiples) with(y multiples, o operation) multiples { return o(x, y) }

// line is a row with what goes along with it.
type line[T companion[T]] struct {
	entries []wide.Int
	along   T
}

// bare returns a line with which nothing goes along.
func bare(entries []wide.Int) line[nothing] { return line[nothing]{entries: entries} }

// apply does an operation to two lines.
func apply[T companion[T]](o operation, x, y line[T]) line[T] {
	return line[T]{entries: o(x.entries, y.entries), along: x.along.with(y.along, o)}
}

// pivot returns the column of the first entry that is not 0, or the number of columns.
func pivot(entries []wide.Int) int {
	for i, n := range entries {
		if wide.Sign(n) != 0 {
			return i
		}
	}
	return len(entries)
}

// insert adds a line to lines in normal form, such that the result has the combinations of all of them. Its pivots are those of the normal form, but tidy has to follow. If the line becomes zero, insert returns what goes along with it then.
func insert[T companion[T]](lines []line[T], x line[T]) (ordered []line[T], along T, zero bool) {
	at := 0
	for ; at < len(lines); at++ {
		p, q := pivot(x.entries), pivot(lines[at].entries)
		if p < q {
			break
		}
		if p == q {
			lines[at], x = join(lines[at], x, p)
		}
	}
	p := pivot(x.entries)
	if p == len(x.entries) {
		return lines, x.along, true
	}
	if wide.Sign(x.entries[p]) < 0 {
		x = apply(combine(wide.From(-1), wide.Int{}), x, x)
	}
	return slices.Insert(lines, at, x), along, false
}

// join returns two lines that have the same combinations as x and y, the first one of which has a pivot in the column p, as x has, and the second one a 0.
func join[T companion[T]](x, y line[T], p int) (first, second line[T]) {
	if q, r, _ := wide.Div(y.entries[p], x.entries[p]); wide.Sign(r) == 0 {
		return x, apply(takeAway(q), y, x)
	}
	divisor, zero := euclid(x.entries[p], y.entries[p])
	return apply(combine(divisor.a, divisor.b), x, y), apply(combine(zero.a, zero.b), x, y)
}

// term is a sum of multiples of two integers.
type term struct{ a, b, sum wide.Int }

// euclid returns the greatest common divisor of two integers, the first one of which is positive, and 0 as sums of multiples of them. The determinant of the multiples is 1 or -1.
func euclid(x, y wide.Int) (divisor, zero term) {
	one := wide.From(1)
	divisor, zero = term{b: one, sum: y}, term{a: one, sum: x}
	for wide.Sign(zero.sum) != 0 {
		q, r, _ := wide.Div(divisor.sum, zero.sum)
		divisor, zero = zero, term{less(divisor.a, q, zero.a), less(divisor.b, q, zero.b), r}
	}
	return divisor, zero
}

// rest takes multiples of lines in normal form away from a line, such that each of its entries in the column of a pivot is at least 0 and less than the pivot.
func rest[T companion[T]](lines []line[T], x line[T]) line[T] {
	for _, l := range lines {
		p := pivot(l.entries)
		q, _, _ := wide.Div(x.entries[p], l.entries[p])
		if wide.Sign(q) != 0 {
			x = apply(takeAway(q), x, l)
		}
	}
	return x
}

// tidy brings lines whose pivots are those of a normal form into normal form. It begins with the last one, and settles what goes along with each line before multiples of it are taken away from others.
func tidy[T companion[T]](lines []line[T], settle func(T) T) {
	for i := len(lines) - 1; i >= 0; i-- {
		lines[i] = rest(lines[i+1:], lines[i])
		lines[i].along = settle(lines[i].along)
	}
}

// add adds a row to lines in normal form.
func add(lines []line[nothing], row []wide.Int) []line[nothing] {
	lines, _, _ = insert(lines, bare(row))
	tidy(lines, func(n nothing) nothing { return n })
	return lines
}
