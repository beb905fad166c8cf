package lattice

import (
	"fmt"
	"math"
	"math/big"
	"slices"
	"testing"

	"worldmint/api"
	"worldmint/hash"
	"worldmint/wide"
)

// These tests compare results, also those that do not fit in ints, with those of programs that compute with package math/big: column by column for small matrices, and for great ones row by row, with unit rows behind them, and without a limit.

// number returns a number from low to high that is the same in each run.
func number(low, high int, labels ...int) int {
	return low + int(hash.Sum("number", labels...)%uint64(high-low+1))
}

// bigRow returns a row of big integers.
func bigRow(row []int) []*big.Int {
	l := make([]*big.Int, len(row))
	for i, n := range row {
		l[i] = big.NewInt(int64(n))
	}
	return l
}

// withUnits returns the rows of a matrix with unit rows behind them.
func withUnits(m [][]int) [][]*big.Int {
	l := make([][]*big.Int, len(m))
	for i, row := range m {
		behind := make([]int, len(m))
		behind[i] = 1
		l[i] = bigRow(slices.Concat(row, behind))
	}
	return l
}

// bigRows returns rows of big integers.
func bigRows(m [][]int) [][]*big.Int {
	l := make([][]*big.Int, len(m))
	for i, row := range m {
		l[i] = bigRow(row)
	}
	return l
}

// subtract takes q times a row away from another one.
func subtract(from []*big.Int, q *big.Int, row []*big.Int) {
	for i, n := range row {
		if q.Sign() != 0 && n.Sign() != 0 {
			from[i] = new(big.Int).Sub(from[i], new(big.Int).Mul(q, n))
		}
	}
}

// byColumns brings rows into normal form: column by column, it takes the row with the least entry away from the others, until one is left.
func byColumns(rows [][]*big.Int) [][]*big.Int {
	done := 0
	for column := 0; len(rows) > 0 && column < len(rows[0]); column++ {
		for {
			least := -1
			others := 0
			for i := done; i < len(rows); i++ {
				if rows[i][column].Sign() == 0 {
					continue
				}
				others++
				if least < 0 || rows[i][column].CmpAbs(rows[least][column]) < 0 {
					least = i
				}
			}
			if others == 0 {
				break
			}
			rows[done], rows[least] = rows[least], rows[done]
			if others == 1 {
				finish(rows, done, column)
				done++
				break
			}
			for i := done + 1; i < len(rows); i++ {
				subtract(rows[i], new(big.Int).Quo(rows[i][column], rows[done][column]), rows[done])
			}
		}
	}
	return rows[:done]
}

// finish makes a pivot positive, and the entries above it less than it.
func finish(rows [][]*big.Int, done, column int) {
	if rows[done][column].Sign() < 0 {
		for i, n := range rows[done] {
			rows[done][i] = new(big.Int).Neg(n)
		}
	}
	for i := range done {
		subtract(rows[i], new(big.Int).Div(rows[i][column], rows[done][column]), rows[done])
	}
}

// first returns the column of the first entry that is not 0.
func first(row []*big.Int) int {
	return slices.IndexFunc(row, func(n *big.Int) bool { return n.Sign() != 0 })
}

// combined returns the sum of multiples of two rows.
func combined(a, b *big.Int, x, y []*big.Int) []*big.Int {
	l := make([]*big.Int, len(x))
	for i := range l {
		l[i] = new(big.Int).Mul(a, x[i])
		l[i].Add(l[i], new(big.Int).Mul(b, y[i]))
	}
	return l
}

// byRows brings rows into normal form, row by row.
func byRows(rows [][]*big.Int) [][]*big.Int {
	var done [][]*big.Int
	for _, row := range rows {
		at := 0
		for ; at < len(done) && first(row) >= 0; at++ {
			p := first(done[at])
			if first(row) < p {
				break
			}
			if first(row) > p {
				continue
			}
			a, b := new(big.Int), new(big.Int)
			g := new(big.Int).GCD(a, b, done[at][p], row[p])
			x, y := new(big.Int).Quo(done[at][p], g), new(big.Int).Quo(row[p], g)
			done[at], row = combined(a, b, done[at], row), combined(x, y.Neg(y), row, done[at])
		}
		if first(row) >= 0 {
			done = slices.Insert(done, at, row)
		}
		for i := len(done) - 1; i >= 0; i-- {
			if done[i][first(done[i])].Sign() < 0 {
				done[i] = combined(big.NewInt(-1), new(big.Int), done[i], done[i])
			}
			for _, lower := range done[i+1:] {
				p := first(lower)
				subtract(done[i], new(big.Int).Div(done[i][p], lower[p]), lower)
			}
		}
	}
	return done
}

// texts returns the rows of a result, as texts.
func texts(rows [][]*big.Int) [][]string {
	l := make([][]string, len(rows))
	for i, row := range rows {
		for _, n := range row {
			l[i] = append(l[i], n.String())
		}
	}
	return l
}

// lower returns the rows without the first columns that are zero there.
func lower(rows [][]*big.Int, columns int) [][]*big.Int {
	var l [][]*big.Int
	for _, row := range rows {
		if first(row) >= columns {
			l = append(l, row[columns:])
		}
	}
	return l
}

// sameLines compares lines with the texts of their entries.
func sameLines(lines []line[nothing], want [][]string) bool {
	return slices.EqualFunc(lines, want, func(l line[nothing], row []string) bool {
		return slices.EqualFunc(l.entries, row, func(n wide.Int, s string) bool { return n.String() == s })
	})
}

// small returns the ints with these texts, or ErrLimit, if one of them does not fit.
func small(rows [][]string) ([][]int, api.Errno) {
	var m [][]int
	for _, row := range rows {
		var l []int
		for _, s := range row {
			n, _ := new(big.Int).SetString(s, 10)
			if !n.IsInt64() {
				return nil, api.ErrLimit
			}
			l = append(l, int(n.Int64()))
		}
		m = append(m, l)
	}
	return m, api.OK
}

// program brings rows into normal form.
type program func(rows [][]*big.Int) [][]*big.Int

// kernelBy returns the kernel of a matrix, as a program makes it.
func kernelBy(normalForm program, m [][]int) [][]string {
	columns := 0
	if len(m) > 0 {
		columns = len(m[0])
	}
	return texts(lower(normalForm(withUnits(m)), columns))
}

// compareLines compares the results of a matrix with those of a program, before they have to fit in ints.
func compareLines(t *testing.T, label int, m [][]int, normalForm program) {
	t.Helper()
	if !sameLines(basisOf(m), texts(normalForm(bigRows(m)))) {
		t.Errorf("%d: another basis of %.200s", label, fmt.Sprint(m))
	}
	if !sameLines(kernelOf(m), kernelBy(normalForm, m)) {
		t.Errorf("%d: another kernel of %.200s", label, fmt.Sprint(m))
	}
}

// compareResults compares the results of a matrix with those of a program.
func compareResults(t *testing.T, label int, m [][]int, normalForm program) {
	t.Helper()
	basis := texts(normalForm(bigRows(m)))
	for _, c := range []struct {
		f    func([][]int) ([][]int, api.Errno)
		want [][]string
	}{{Hermite, basis}, {Kernel, kernelBy(normalForm, m)}} {
		want, wantError := small(c.want)
		if got, e := c.f(m); e != wantError || !slices.EqualFunc(got, want, slices.Equal[[]int]) {
			t.Errorf("%d: of %.200s: %.200s, %d, want %.200s, %d", label, fmt.Sprint(m), fmt.Sprint(got), e, fmt.Sprint(want), wantError)
		}
	}
	if Independent(m) != (len(basis) == len(m)) {
		t.Errorf("%d: Independent(%.200s)", label, fmt.Sprint(m))
	}
}

// fill returns a matrix with these entries.
func fill(rows, columns int, entry func(i, j int) int) [][]int {
	m := make([][]int, rows)
	for i := range m {
		m[i] = make([]int, columns)
		for j := range m[i] {
			m[i][j] = entry(i, j)
		}
	}
	return m
}

// fillings returns ways to fill a matrix.
func fillings(label int) []func(i, j int) int {
	powers := func(i, j int) int { return number(-1, 1, label, i, j, 1) << number(0, 40, label, i, j) }
	return []func(i, j int) int{
		func(i, j int) int { return number(-1, 1, label, i, j) },
		func(i, j int) int { return number(-20, 20, label, i, j) },
		func(i, j int) int { return number(-api.MaxUnits, api.MaxUnits, label, i, j) },
		powers,
		func(i, j int) int { return number(-2, 2, label, i) * number(-7, 7, label, j, 1) }, // of rank 1
		func(i, j int) int { // of rank 2
			return number(-9, 9, label, i)*number(-7, 7, label, j, 1) + number(-9, 9, label, i, 2)*number(-7, 7, label, j, 3)
		},
		func(i, j int) int { return 6 * number(-1, 1, label, i, j) * number(0, 1, label, j/2) },
		func(i, j int) int { // with many zeros
			return number(-9, 9, label, i, j) * max(0, number(-3, 1, label, i, j, 1))
		},
	}
}

// near returns a way to fill a matrix with numbers close to the greatest one.
func near(label int) func(i, j int) int {
	return func(i, j int) int { return api.MaxUnits - number(0, 999, label, i, j) }
}

// P6.1, P6.2, P6.4
func TestSmallMatrices(t *testing.T) {
	label := 0
	for rows := range 8 {
		for columns := range 7 {
			for _, entry := range fillings(label) {
				m := fill(rows, columns, entry)
				compareLines(t, label, m, byColumns)
				compareResults(t, label, m, byColumns)
				label++
			}
		}
	}
}

// P6.1, P6.2, P6.4
func TestMiddlingMatrices(t *testing.T) {
	label := 0
	for _, size := range []struct{ rows, columns int }{{15, 20}, {20, 15}, {64, 4}, {4, 128}} {
		for _, entry := range fillings(label) {
			compareResults(t, label, fill(size.rows, size.columns, entry), byRows)
			label++
		}
	}
}

// P6.1: matrices whose results have up to 2752 bits, or that need integers of the most bits on the way.
func TestGreatMatrices(t *testing.T) {
	label := 0
	for _, size := range []struct{ rows, columns int }{{20, 30}, {30, 20}, {64, 8}, {8, 128}} {
		for _, entry := range fillings(label) {
			compareLines(t, label, fill(size.rows, size.columns, entry), byRows)
			label++
		}
	}
	for _, c := range []struct {
		pivots       int
		pivot, entry func(i, j int) int // of the rows with the pivots, and of those behind them
	}{
		{40, func(i, j int) int { return api.MaxUnits }, func(i, j int) int { // multiples of less and less
			return number(0, min(1<<(i-40), 1<<10)-1, label, i, j) << max(0, 80-i)
		}},
		{32, near(label), near(label)},
		{56, near(label), near(label)},
	} {
		compareLines(t, label, fill(64, c.pivots, func(i, j int) int {
			switch {
			case i >= c.pivots:
				return c.entry(i, j)
			case i == j:
				return c.pivot(i, j)
			}
			return 0
		}), byRows)
	}
	compareLines(t, label, fill(64, 64, func(i, j int) int {
		switch {
		case i > j:
			return 0
		case i == j:
			return 1
		}
		return -api.MaxUnits
	}), byRows)
	compareLines(t, label, fill(64, 63, fillings(label)[2]), byRows)
}

// inBig is In, for lists in normal form, with big integers.
func inBig(b [][]int, v []int) bool {
	rest := bigRow(v)
	for _, row := range bigRows(b) {
		q := new(big.Int).Quo(rest[first(row)], row[first(row)])
		subtract(rest, q, row)
	}
	return first(rest) < 0
}

// P6.3: rows of ints of all sizes, with combinations of them, as far as these are ints, and vectors close to them.
func TestInExact(t *testing.T) {
	found := 0
	for label := range 400 {
		rows := number(1, 12, label)
		b := fill(rows, 2*rows, func(i, j int) int {
			column := 2 * i
			if label%3 == 0 {
				column = i
			}
			if j < column {
				return 0
			}
			n := int(hash.Sum("entry", label, i, j)) >> number(0, 63, label, i, j)
			if j == column {
				return max(1, n, -(n + 1))
			}
			return n
		})
		for i, row := range b { // reduce above the pivots
			p := slices.IndexFunc(row, func(n int) bool { return n != 0 })
			for _, above := range b[:i] {
				if above[p] %= row[p]; above[p] < 0 {
					above[p] += row[p]
				}
			}
		}
		for attempt := range 6 {
			v := make([]int, 2*rows)
			for i, row := range b {
				for j, n := range row {
					v[j] += n * number(-2, 2, label, attempt, i) // wraps around, if it does not fit
				}
			}
			if attempt > 3 {
				v[number(0, len(v)-1, label, attempt)] += 1 << number(0, 62, label, attempt)
			}
			want := inBig(b, v)
			if In(b, v) != want {
				t.Errorf("In(%v, %v) is not %t", b, v, want)
			}
			if want {
				found++
			}
		}
	}
	if found < 200 || found > 2000 {
		t.Errorf("%d of 2400 vectors are combinations", found)
	}
}

// P6.3: multiples that double with every second row: those of the rows of one half of each four make those of the other half.
func TestInGrowing(t *testing.T) {
	const pivot = math.MaxInt
	b := fill(64, 128, func(i, j int) int {
		switch {
		case i == j && i == 0:
			return 1
		case i == j:
			return pivot
		case i < j && j < 64 && (j+1)/2 == (i+1)/2+1:
			return pivot - 1
		case j >= 64:
			return math.MinInt
		}
		return 0
	})
	for _, last := range []int{0, 1, math.MaxInt, math.MinInt} {
		v := make([]int, 128)
		v[0], v[127] = math.MinInt, last
		if In(b, v) || inBig(b, v) {
			t.Errorf("In(%d, 0, .., 0, %d)", v[0], last)
		}
	}
	if !In(b, b[0]) || !In(b, b[63]) {
		t.Error("rows are no combinations")
	}
}
