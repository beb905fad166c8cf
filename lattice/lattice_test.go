package lattice_test

import (
	"fmt"
	"math"
	"math/big"
	"slices"
	"testing"

	"worldmint/api"
	"worldmint/hash"
	"worldmint/lattice"
)

// These tests hold results that were worked out by hand, lists whose results are known from how they were made, and the properties. exact_test.go compares results with those of another program.

// sample returns a number from low to high that is the same in each run.
func sample(low, high int, labels ...int) int {
	return low + int(hash.Sum("sample", labels...)%uint64(high-low+1))
}

// sampleMatrix returns a matrix of numbers up to most and down to -most. About a third of them are 0.
func sampleMatrix(rows, columns, most, label int) [][]int {
	m := make([][]int, rows)
	for i := range m {
		m[i] = make([]int, columns)
		for j := range m[i] {
			if sample(0, 2, label, i, j) > 0 {
				m[i][j] = sample(-most, most, label, i, j, 1)
			}
		}
	}
	return m
}

// clone returns a copy that shares no memory.
func clone(m [][]int) [][]int {
	l := make([][]int, len(m))
	for i, row := range m {
		l[i] = slices.Clone(row)
	}
	return l
}

// same compares lists of rows.
func same(a, b [][]int) bool { return slices.EqualFunc(a, b, slices.Equal[[]int]) }

// unitRows returns rows that have a 1 each.
func unitRows(n int) [][]int {
	m := make([][]int, n)
	for i := range m {
		m[i] = make([]int, n)
		m[i][i] = 1
	}
	return m
}

// isNormal reports whether a list of rows of that length is in normal form.
func isNormal(b [][]int, columns int) bool {
	before := -1
	for i, row := range b {
		p := 0
		for p < len(row) && row[p] == 0 {
			p++
		}
		if len(row) != columns || p == columns || p <= before || row[p] < 0 {
			return false
		}
		for _, above := range b[:i] {
			if above[p] < 0 || above[p] >= row[p] {
				return false
			}
		}
		before = p
	}
	return true
}

// sumOf returns the sum of multiples of rows, as texts of any length.
func sumOf(v []int, m [][]int) []string {
	var l []string
	for column := range m[0] {
		s := new(big.Int)
		for i, row := range m {
			s.Add(s, new(big.Int).Mul(big.NewInt(int64(v[i])), big.NewInt(int64(row[column]))))
		}
		l = append(l, s.String())
	}
	return l
}

// hermite and kernel return results that are no errors.
func hermite(t *testing.T, m [][]int) [][]int {
	t.Helper()
	h, e := lattice.Hermite(m)
	if e != api.OK {
		t.Errorf("Hermite(%v) = %d", m, e)
	}
	return h
}

func kernel(t *testing.T, m [][]int) [][]int {
	t.Helper()
	k, e := lattice.Kernel(m)
	if e != api.OK {
		t.Errorf("Kernel(%v) = %d", m, e)
	}
	return k
}

// P6.1
func TestHermite(t *testing.T) {
	for _, c := range []struct{ m, want [][]int }{
		{nil, nil},
		{[][]int{}, nil},
		{[][]int{{}}, nil},
		{[][]int{nil, {}}, nil},
		{[][]int{{0}}, nil},
		{[][]int{{0, 0, 0}, {0, 0, 0}}, nil},
		{[][]int{{7}}, [][]int{{7}}},
		{[][]int{{-7}}, [][]int{{7}}},
		{[][]int{{0, -7, 3, 0}}, [][]int{{0, 7, -3, 0}}},
		{[][]int{{2, 4}, {3, 5}}, [][]int{{1, 1}, {0, 2}}},
		{[][]int{{3, 5}, {2, 4}}, [][]int{{1, 1}, {0, 2}}},
		{[][]int{{-3, -5}, {2, 4}}, [][]int{{1, 1}, {0, 2}}},
		{[][]int{{6}, {-10}, {15}}, [][]int{{1}}},
		{[][]int{{6}, {0}, {-10}}, [][]int{{2}}},
		{[][]int{{4}, {2}}, [][]int{{2}}},
		{[][]int{{2}, {4}}, [][]int{{2}}},
		{[][]int{{1, 2, 3}, {4, 5, 6}, {7, 8, 9}}, [][]int{{1, 2, 3}, {0, 3, 6}}},
		{[][]int{{1, 7}, {0, 3}}, [][]int{{1, 1}, {0, 3}}},
		{[][]int{{1, -7}, {0, 3}}, [][]int{{1, 2}, {0, 3}}},
		{[][]int{{1, 3}, {0, 3}}, [][]int{{1, 0}, {0, 3}}},
		{[][]int{{1, 2}, {0, -3}}, [][]int{{1, 2}, {0, 3}}},
		{[][]int{{0, 0, 5}, {0, 3, 1}, {2, 1, 1}}, [][]int{{2, 1, 1}, {0, 3, 1}, {0, 0, 5}}},
		{[][]int{{1, 5, 5, 9}, {0, 0, 2, 7}}, [][]int{{1, 5, 1, -5}, {0, 0, 2, 7}}},
		{[][]int{{1, 5, -1, 9}, {0, 0, 2, 7}}, [][]int{{1, 5, 1, 16}, {0, 0, 2, 7}}},
		{[][]int{{2, 1, 1}, {0, 2, 1}, {0, 0, 2}, {1, 0, 0}}, unitRows(3)},
		{[][]int{{2, 1, 1}, {0, 4, 2}, {0, 0, 2}, {1, 1, 0}}, [][]int{{1, 0, 1}, {0, 1, 1}, {0, 0, 2}}},
		{[][]int{{1, 8, 8}, {0, 3, 8}, {0, 0, 5}}, [][]int{{1, 2, 2}, {0, 3, 3}, {0, 0, 5}}},
		{[][]int{{api.MaxUnits, -api.MaxUnits}}, [][]int{{api.MaxUnits, -api.MaxUnits}}},
		{[][]int{{api.MaxUnits}, {api.MaxUnits - 1}}, [][]int{{1}}},
		{[][]int{{-api.MaxUnits}, {api.MaxUnits - 2}}, [][]int{{2}}},
	} {
		if h := hermite(t, c.m); !same(h, c.want) {
			t.Errorf("Hermite(%v) = %v, want %v", c.m, h, c.want)
		}
	}
}

// P6.1
func TestKernel(t *testing.T) {
	for _, c := range []struct{ m, want [][]int }{
		{nil, nil},
		{[][]int{}, nil},
		{[][]int{{}}, [][]int{{1}}},
		{[][]int{nil, {}}, [][]int{{1, 0}, {0, 1}}},
		{[][]int{{0}}, [][]int{{1}}},
		{[][]int{{5}}, nil},
		{[][]int{{0, 0}, {0, 0}, {0, 0}}, unitRows(3)},
		{[][]int{{2, 4}, {3, 5}}, nil},
		{[][]int{{1}, {2}, {3}}, [][]int{{1, 1, -1}, {0, 3, -2}}},
		{[][]int{{3}, {2}, {1}}, [][]int{{1, 0, -3}, {0, 1, -2}}},
		{[][]int{{6}, {10}}, [][]int{{5, -3}}},
		{[][]int{{6}, {-10}}, [][]int{{5, 3}}},
		{[][]int{{-6}, {-3}}, [][]int{{1, -2}}},
		{[][]int{{0}, {-3}}, [][]int{{1, 0}}},
		{[][]int{{4}, {0}, {4}}, [][]int{{1, 0, -1}, {0, 1, 0}}},
		{[][]int{{1, 2, 3}, {4, 5, 6}, {7, 8, 9}}, [][]int{{1, -2, 1}}},
		{[][]int{{2, 2}, {2, 2}, {2, 2}}, [][]int{{1, 0, -1}, {0, 1, -1}}},
		{[][]int{{1, 0}, {0, 1}, {2, 3}}, [][]int{{2, 3, -1}}},
		{[][]int{{2, 3}, {1, 0}, {0, 1}}, [][]int{{1, -2, -3}}},
		{[][]int{{2, 0}, {0, 2}, {1, 1}}, [][]int{{1, 1, -2}}},
		{[][]int{{2}, {3}, {6}}, [][]int{{3, 0, -1}, {0, 2, -1}}},
		{[][]int{{api.MaxUnits}, {api.MaxUnits - 1}}, [][]int{{api.MaxUnits - 1, -api.MaxUnits}}},
		{[][]int{{api.MaxUnits}, {-api.MaxUnits}}, [][]int{{1, 1}}},
	} {
		if k := kernel(t, c.m); !same(k, c.want) {
			t.Errorf("Kernel(%v) = %v, want %v", c.m, k, c.want)
		}
	}
}

// normalRows returns a list in normal form, with small entries, whose pivots stand in steps.
func normalRows(rank, columns, label int) [][]int {
	l := make([][]int, rank)
	column := func(i int) int { return i * columns / rank }
	for i := range l {
		l[i] = make([]int, columns)
		l[i][column(i)] = sample(1, 3, label, i)
		for j := column(i) + 1; j < columns; j++ {
			l[i][j] = sample(-9, 9, label, i, j)
		}
		for above := range i { // 0 to the pivot - 1
			l[above][column(i)] = sample(0, l[i][column(i)]-1, label, above, i, 1)
		}
	}
	return l
}

// P6.1, P6.5: a list in normal form, hidden by adding rows to each other.
func TestHiddenBasis(t *testing.T) {
	for label, size := range []struct{ rank, rows, columns int }{{3, 5, 4}, {10, 20, 15}, {40, 64, 128}, {64, 64, 128}, {64, 64, 64}, {30, 31, 128}} {
		want := normalRows(size.rank, size.columns, label)
		m := clone(want)
		for len(m) < size.rows {
			m = append(m, make([]int, size.columns))
		}
		for step := range 4 * size.rows {
			from, to := sample(0, size.rows-1, label, step, 1), sample(0, size.rows-1, label, step, 2)
			if from != to && fits(m[from], m[to]) {
				addRow(m[to], m[from], sample(-9, 9, label, step))
			}
		}
		if h := hermite(t, m); !same(h, want) {
			t.Errorf("Hermite of a hidden basis of %v: %.400s, want %.400s", size, fmt.Sprint(h), fmt.Sprint(want))
		}
		if lattice.Independent(m) != (size.rank == size.rows) {
			t.Errorf("Independent of a hidden basis of %v", size)
		}
		if !lattice.In(want, m[0]) || !lattice.In(want, m[size.rows-1]) {
			t.Errorf("In of a hidden basis of %v", size)
		}
	}
}

// addRow adds a multiple of a row to another one.
func addRow(to, from []int, times int) {
	for i, n := range from {
		to[i] += n * times
	}
}

// fits reports whether nine times the numbers of a row can be added to those of another one, in a matrix.
func fits(from, to []int) bool {
	for i, n := range from {
		if max(n, -n)*9+max(to[i], -to[i]) > api.MaxUnits {
			return false
		}
	}
	return true
}

// P6.1: rows with the unit rows below them have all rows as combinations, and each one of them makes one vector of the kernel.
func TestRowsAboveUnits(t *testing.T) {
	for label, size := range []struct{ rows, columns int }{{1, 1}, {2, 5}, {5, 2}, {10, 20}, {40, 24}, {32, 32}, {20, 44}} {
		m := sampleMatrix(size.rows, size.columns, api.MaxUnits, label)
		var want [][]int
		for i, row := range m {
			v := slices.Concat(unitRows(size.rows)[i], row)
			for j := range row {
				v[size.rows+j] = -row[j]
			}
			want = append(want, v)
		}
		m = append(m, unitRows(size.columns)...)
		if k := kernel(t, m); !same(k, want) {
			t.Errorf("Kernel of %v rows above unit rows: %.400s, want %.400s", size, fmt.Sprint(k), fmt.Sprint(want))
		}
		if h := hermite(t, m); !same(h, unitRows(size.columns)) {
			t.Errorf("Hermite of %v rows above unit rows: %.400s", size, fmt.Sprint(h))
		}
		if lattice.Independent(m) || !lattice.Independent(m[size.rows:]) {
			t.Errorf("Independent of %v rows above unit rows", size)
		}
	}
}

// matrixOf returns a matrix whose entries are all the same.
func matrixOf(rows, columns, n int) [][]int {
	return slices.Repeat([][]int{slices.Repeat([]int{n}, columns)}, rows)
}

// P6.2
func TestErrors(t *testing.T) {
	for i, c := range []struct {
		m    [][]int
		want api.Errno
	}{
		{matrixOf(64, 128, 1), api.OK},
		{matrixOf(65, 1, 1), api.ErrLimit},
		{make([][]int, 65), api.ErrLimit},
		{make([][]int, 64), api.OK},
		{make([][]int, 1<<16), api.ErrLimit},
		{matrixOf(1, 129, 1), api.ErrLimit},
		{matrixOf(1, 129, 0), api.ErrLimit},
		{matrixOf(64, 129, 1), api.ErrLimit},
		{[][]int{{1}, make([]int, 129)}, api.ErrLimit},         // also ErrArg
		{[][]int{{1}, {1, 2}, make([]int, 129)}, api.ErrLimit}, // also ErrArg, before it
		{append(make([][]int, 64), []int{1}), api.ErrLimit},
		{[][]int{{math.MaxInt}, make([]int, 129)}, api.ErrLimit}, // also ErrRange
		{[][]int{{1}, {1, 2}}, api.ErrArg},
		{[][]int{{1, 2}, {1}}, api.ErrArg},
		{[][]int{{1, 2}, {1, 2}, nil}, api.ErrArg},
		{[][]int{nil, {0}}, api.ErrArg},
		{[][]int{make([]int, 128), make([]int, 127)}, api.ErrArg},
		{[][]int{{api.MaxUnits + 1}, {1, 2}}, api.ErrArg}, // also ErrRange
		{[][]int{{api.MaxUnits + 1}}, api.ErrRange},
		{[][]int{{-api.MaxUnits - 1}}, api.ErrRange},
		{[][]int{{1, 2}, {3, math.MaxInt}}, api.ErrRange},
		{[][]int{{1, 2}, {math.MinInt, 1}}, api.ErrRange},
		{[][]int{{0, 0}, {0, 1 << 62}}, api.ErrRange},
		{[][]int{{api.MaxUnits}, {-api.MaxUnits}}, api.OK},
	} {
		h, e := lattice.Hermite(c.m)
		k, f := lattice.Kernel(c.m)
		if e != c.want || f != c.want || c.want != api.OK && (len(h) != 0 || len(k) != 0) {
			t.Errorf("%d: Hermite %d, Kernel %d, want %d", i, e, f, c.want)
		}
		if c.want != api.OK && lattice.Independent(c.m) { // P6.4
			t.Errorf("%d: independent", i)
		}
	}
}

// P6.2: entries of the result at the limits of an int. 2^63 - 1 is 153092023 * 60247241209.
func TestResultLimit(t *testing.T) {
	for _, c := range []struct {
		a, b, product int
		e             api.Errno
	}{
		{153092023, 60247241209, math.MaxInt, api.OK},
		{153092023, -60247241209, -math.MaxInt, api.OK},
		{1 << 31, -1 << 32, math.MinInt, api.OK},
		{1 << 31, 1 << 32, 0, api.ErrLimit},
		{1<<32 - 1, 1<<32 + 1, 0, api.ErrLimit}, // the lowest 64 bits are all 1
		{1 << 32, 1 << 32, 0, api.ErrLimit},     // the lowest 64 bits are all 0
		{1<<32 + 1, 1<<32 + 1, 0, api.ErrLimit},
		{api.MaxUnits, -api.MaxUnits, 0, api.ErrLimit},
		{3, 7, 21, api.OK},
	} {
		var wantHermite, wantKernel [][]int
		if c.e == api.OK {
			wantHermite, wantKernel = [][]int{{1, 0, c.product}, {0, 1, -c.b}}, [][]int{{1, -c.a, c.product}}
		}
		h, e := lattice.Hermite([][]int{{1, c.a, 0}, {0, 1, -c.b}})
		if e != c.e || !same(h, wantHermite) {
			t.Errorf("Hermite with %d * %d: %v, %d", c.a, c.b, h, e)
		}
		k, e := lattice.Kernel([][]int{{c.a, 0}, {1, c.b}, {0, 1}})
		if e != c.e || !same(k, wantKernel) {
			t.Errorf("Kernel with %d * %d: %v, %d", c.a, c.b, k, e)
		}
	}
	m := [][]int{{api.MaxUnits, 1}, {1, api.MaxUnits}} // the result of Kernel alone fits, and what Hermite computes is no result of Independent
	h, e := lattice.Hermite(m)
	if k, f := lattice.Kernel(m); e != api.ErrLimit || len(h) != 0 || f != api.OK || len(k) != 0 || !lattice.Independent(m) {
		t.Errorf("%v, %d, %v, %d", h, e, k, f)
	}
	m = [][]int{{1, 1 << 31, 0}, {0, 1, -1 << 32}, {0, 0, 1}} // greater on the way to the result
	if h := hermite(t, m); !same(h, unitRows(3)) {
		t.Errorf("%v", h)
	}
}

// P6.3
func TestIn(t *testing.T) {
	b := [][]int{{2, 1, 0}, {0, 3, 5}}
	for _, c := range []struct {
		b    [][]int
		v    []int
		want bool
	}{
		{nil, nil, true},
		{nil, []int{}, true},
		{nil, []int{0}, true},
		{[][]int{}, []int{0, 0}, true},
		{nil, []int{1}, false},
		{nil, []int{0, 0, -1}, false},
		{b, []int{0, 0, 0}, true},
		{b, []int{2, 1, 0}, true},
		{b, []int{-2, -1, 0}, true},
		{b, []int{0, 3, 5}, true},
		{b, []int{-4, 4, 10}, true},
		{b, []int{2, -2, -5}, true},
		{b, []int{1, 0, 0}, false},
		{b, []int{2, 4, 0}, false},
		{b, []int{2, 0, 0}, false},
		{b, []int{0, 0, 1}, false},
		{b, []int{0, 3, 6}, false},
		{b, []int{2, 1, 1}, false},
		{b, []int{2, 1}, false},
		{b, []int{2, 1, 0, 0}, false},
		{b, nil, false},
		{[][]int{{1, 1}, {0, 2}}, []int{3, 4}, false},
		{[][]int{{1, 1}, {0, 2}}, []int{3, 5}, true},
		{[][]int{{0, 5, 0}}, []int{0, -10, 0}, true},
		{[][]int{{0, 5, 0}}, []int{1, 5, 0}, false},
		{[][]int{{0, 5, 0}}, []int{0, 5, 1}, false},
	} {
		if got := lattice.In(c.b, c.v); got != c.want {
			t.Errorf("In(%v, %v) = %t", c.b, c.v, got)
		}
	}
}

// P6.3: lists that are not in normal form, with vectors that are combinations of them.
func TestInNotNormal(t *testing.T) {
	for _, c := range []struct {
		b [][]int
		v []int
	}{
		{[][]int{{-1}}, []int{1}},
		{[][]int{{0}}, []int{0}},
		{[][]int{{}}, nil},
		{[][]int{nil}, []int{}},
		{[][]int{{0, 0}}, []int{0, 0}},
		{[][]int{{1, 0}, {0, 0}}, []int{1, 0}},
		{[][]int{{0, 0}, {1, 0}}, []int{1, 0}},
		{[][]int{{1, 0}, {0, -1}}, []int{1, 0}},
		{[][]int{{0, 1}, {1, 0}}, []int{1, 1}},
		{[][]int{{2, 0}, {3, 0}}, []int{5, 0}},
		{[][]int{{2, 0}, {2, 1}}, []int{2, 0}},
		{[][]int{{2, 3}, {0, 3}}, []int{2, 3}},
		{[][]int{{2, 4}, {0, 3}}, []int{2, 4}},
		{[][]int{{2, -1}, {0, 3}}, []int{2, -1}},
		{[][]int{{2, math.MinInt}, {0, 3}}, []int{0, 3}},
		{[][]int{{2, math.MaxInt}, {0, math.MaxInt}}, []int{0, 0}},
		{[][]int{{1, 0, 5}, {0, 1, 0}, {0, 0, 5}}, []int{0, 0, 0}},
		{[][]int{{1, 0, 0}, {0, 1, -1}, {0, 0, 5}}, []int{0, 0, 0}},
		{[][]int{{1, 2}, {0}}, []int{1, 2}},
		{[][]int{{1, 2}, {0, 3, 0}}, []int{1, 2}},
		{[][]int{{1, 0}, nil}, []int{1, 0}},
		{[][]int{{math.MinInt}}, []int{math.MinInt}},
	} {
		if lattice.In(c.b, c.v) || lattice.In(c.b, make([]int, len(c.v))) {
			t.Errorf("In(%v, %v)", c.b, c.v)
		}
	}
}

// P6.3: at most 64 rows with at most 128 entries.
func TestInLimits(t *testing.T) {
	for rows := 62; rows <= 66; rows++ {
		v := make([]int, rows)
		v[rows-1] = 3
		if got := lattice.In(unitRows(rows), v); got != (rows <= 64) {
			t.Errorf("In with %d rows: %t", rows, got)
		}
	}
	for columns := 126; columns <= 130; columns++ {
		v := make([]int, columns)
		if got := lattice.In(nil, v); got != (columns <= 128) {
			t.Errorf("In with no rows of %d entries: %t", columns, got)
		}
		v[columns-1] = 1
		if got := lattice.In([][]int{v}, v); got != (columns <= 128) {
			t.Errorf("In with %d entries: %t", columns, got)
		}
	}
}

// P6.3: entries that can be any ints.
func TestInGreat(t *testing.T) {
	for _, c := range []struct {
		b    [][]int
		v    []int
		want bool
	}{
		{[][]int{{1 << 62}}, []int{math.MinInt}, true},
		{[][]int{{1 << 62}}, []int{math.MaxInt}, false},
		{[][]int{{math.MaxInt}}, []int{math.MaxInt}, true},
		{[][]int{{math.MaxInt}}, []int{-math.MaxInt}, true},
		{[][]int{{math.MaxInt}}, []int{math.MinInt}, false},
		{[][]int{{1, math.MinInt}}, []int{-1, math.MinInt}, false}, // 2^63 is not -2^63
		{[][]int{{1, math.MinInt}}, []int{2, 0}, false},            // -2^64 is not 0
		{[][]int{{1, math.MinInt}}, []int{1, math.MinInt}, true},
		{[][]int{{1, 1 << 32}}, []int{1 << 32, 0}, false},
		{[][]int{{1, 1 << 32}}, []int{1 << 32, 1 << 32}, false},
		{[][]int{{1, 0, 1 << 62}, {0, 1, 1 << 62}}, []int{4, -4, 0}, true}, // 2^64 - 2^64
		{[][]int{{1, 0, 1 << 62}, {0, 1, 1 << 62}}, []int{4, -3, 0}, false},
		{[][]int{{1, 0, 1 << 62}, {0, 1, -1 << 62}}, []int{math.MaxInt, math.MaxInt, 0}, true},
		{[][]int{{1, 0, 1 << 62}, {0, 1, -1 << 62}}, []int{math.MaxInt, math.MinInt, 0}, false},
		{[][]int{{1, math.MaxInt - 1}, {0, math.MaxInt}}, []int{math.MaxInt, math.MaxInt}, true},
		{[][]int{{1, math.MaxInt - 1}, {0, math.MaxInt}}, []int{math.MaxInt, math.MaxInt - 1}, false},
		{[][]int{{1, math.MaxInt - 1}, {0, math.MaxInt}}, []int{math.MinInt, 1}, true}, // -2^63 * (m - 1) is 1 modulo m = 2^63 - 1
		{[][]int{{1, math.MaxInt - 1}, {0, math.MaxInt}}, []int{math.MinInt, 0}, false},
	} {
		if got := lattice.In(c.b, c.v); got != c.want {
			t.Errorf("In(%v, %v) = %t", c.b, c.v, got)
		}
	}
}

// P6.3: the combinations of small lists, compared with all that there are.
func TestInAll(t *testing.T) {
	for _, b := range [][][]int{
		{{2, 1, 0}, {0, 3, 5}},
		{{2, 1, 3}, {0, 3, 1}, {0, 0, 4}},
		{{0, 2, -3}},
		{{3, 0, 1}, {0, 0, 2}},
		{{1, 0, 2}, {0, 1, -1}},
	} {
		all := map[[3]int]bool{}
		multiples := [3]int{}
		for multiples[0] = -12; multiples[0] <= 12; multiples[0]++ {
			for multiples[1] = -12; multiples[1] <= 12; multiples[1]++ {
				for multiples[2] = -12; multiples[2] <= 12; multiples[2]++ {
					v := [3]int{}
					for i, row := range b {
						addRow(v[:], row, multiples[i])
					}
					all[v] = true
				}
			}
		}
		for i := range 9 * 9 * 9 {
			v := [3]int{i%9 - 4, i/9%9 - 4, i/81 - 4}
			if got := lattice.In(b, v[:]); got != all[v] {
				t.Errorf("In(%v, %v) = %t", b, v, got)
			}
		}
	}
}

// P6.4
func TestIndependent(t *testing.T) {
	for _, c := range []struct {
		m    [][]int
		want bool
	}{
		{nil, true},
		{[][]int{}, true},
		{[][]int{{}}, false},
		{[][]int{nil}, false},
		{[][]int{{0}}, false},
		{[][]int{{-5}}, true},
		{[][]int{{1}, {1}}, false},
		{[][]int{{1}, {0}}, false},
		{[][]int{{2}, {3}}, false},
		{[][]int{{1, 2}, {2, 4}}, false},
		{[][]int{{1, 2}, {2, 3}}, true},
		{[][]int{{0, 1}, {1, 0}}, true},
		{[][]int{{0, 1}, {0, 2}}, false},
		{[][]int{{1, 2, 3}, {4, 5, 6}, {7, 8, 9}}, false},
		{[][]int{{1, 2, 3}, {4, 5, 6}, {7, 8, 10}}, true},
		{[][]int{{1, 0}, {0, 1}, {1, 1}}, false},
		{[][]int{{api.MaxUnits, -api.MaxUnits}, {-api.MaxUnits, api.MaxUnits}}, false},
		{[][]int{{api.MaxUnits, -api.MaxUnits}, {-api.MaxUnits, api.MaxUnits - 1}}, true},
		{matrixOf(2, 128, 1), false},
		{unitRows(64), true},
		{unitRows(65), false},
		{[][]int{{1, 0}, {0}}, false},
		{[][]int{{api.MaxUnits + 1}}, false},
		{matrixOf(1, 129, 1), false},
	} {
		if got := lattice.Independent(c.m); got != c.want {
			t.Errorf("Independent(%.80s) = %t", fmt.Sprint(c.m), got)
		}
	}
}

// matrices calls f with matrices of many shapes, whose results fit in ints.
func matrices(f func(m [][]int)) {
	label := 0
	for rows := range 7 {
		for columns := range 6 {
			for _, most := range []int{1, 2, 9, 100} {
				m := sampleMatrix(rows, columns, most, label)
				f(m)
				if rows > 2 { // dependent rows
					for j := range m[0] {
						m[1][j] = 3*m[0][j] - 2*m[2][j]
					}
					f(m)
				}
				label++
			}
		}
	}
	f(sampleMatrix(64, 6, 3, label))
	f(sampleMatrix(12, 128, 2, label))
}

// P6.1, P6.6, P6.7
func TestProperties(t *testing.T) {
	matrices(func(m [][]int) {
		columns := 0
		if len(m) > 0 {
			columns = len(m[0])
		}
		h, k := hermite(t, m), kernel(t, m)
		if !isNormal(h, columns) || !isNormal(k, len(m)) {
			t.Errorf("of %v: not in normal form: %v, %v", m, h, k)
		}
		if len(h)+len(k) != len(m) || lattice.Independent(m) != (len(k) == 0) {
			t.Errorf("of %v: %d and %d rows", m, len(h), len(k))
		}
		for _, row := range m {
			if !lattice.In(h, row) {
				t.Errorf("Hermite(%v) = %v: %v is no combination", m, h, row)
			}
		}
		for _, v := range k {
			if slices.ContainsFunc(sumOf(v, m), func(s string) bool { return s != "0" }) {
				t.Errorf("Kernel(%v) = %v: the sum of %v is not 0", m, k, v)
			}
		}
		if again := hermite(t, h); !same(again, h) || !lattice.Independent(h) || !lattice.Independent(k) {
			t.Errorf("Hermite(%v) = %v", h, again)
		}
	})
}

// P6.5
func TestUniqueness(t *testing.T) {
	label := 0
	matrices(func(m [][]int) {
		want, n := hermite(t, m), len(m)
		check := func(what string, changed [][]int) {
			if h := hermite(t, changed); !same(h, want) {
				t.Errorf("%s: Hermite(%v) = %v, want %v", what, changed, h, want)
			}
		}
		if n < 2 {
			return
		}
		label++
		i := sample(0, n-1, label, 1)
		j := (i + sample(1, n-1, label, 2)) % n
		changed := clone(m)
		addRow(changed[i], changed[j], sample(-9, 9, label))
		check("a multiple added", changed)
		changed[i], changed[j] = changed[j], changed[i]
		check("rows exchanged", changed)
		addRow(changed[j], changed[j], -2)
		check("a row negated", changed)
		slices.Reverse(changed)
		check("reversed", changed)
		combination := make([]int, len(m[0]))
		for at, row := range m {
			addRow(combination, row, sample(-5, 5, label, at, 3))
		}
		if n < 64 {
			check("a combination added", append(clone(m), combination))
			check("a combination added in front", append([][]int{combination}, m...))
		}
	})
}

// P6.6: a vector of which a multiple is in the kernel is in the kernel.
func TestSaturated(t *testing.T) {
	matrices(func(m [][]int) {
		k := kernel(t, m)
		for _, factor := range []int{2, 3, 5} {
			for at := range 20 {
				v := make([]int, len(m))
				for i, row := range k {
					addRow(v, row, sample(0, factor-1, at, i))
				}
				if slices.ContainsFunc(v, func(n int) bool { return n%factor != 0 }) {
					continue
				}
				for i := range v {
					v[i] /= factor
				}
				if !lattice.In(k, v) {
					t.Errorf("Kernel(%v) = %v: %d times %v is in it", m, k, factor, v)
				}
			}
		}
	})
}

// Arguments are neither changed nor kept, and results share no memory.
func TestMemory(t *testing.T) {
	m := sampleMatrix(7, 4, 9, 1)
	before := clone(m)
	h, k := hermite(t, m), kernel(t, m)
	b, v := clone(h), slices.Clone(m[0])
	lattice.In(b, v)
	lattice.Independent(m)
	if !same(m, before) || !same(b, h) || !slices.Equal(v, m[0]) {
		t.Error("an argument was changed")
	}
	for _, result := range [][][]int{h, k} {
		for i := range result {
			want := clone(result)
			full := result[i][:cap(result[i])]
			for j := range full {
				full[j] = math.MaxInt
			}
			copy(result[i], want[i])
			if !same(result, want) {
				t.Error("rows of a result share memory")
			}
		}
		for _, row := range result {
			clear(row)
		}
	}
	if !same(m, before) || !same(hermite(t, m), b) {
		t.Error("a result shares memory with an argument, or is kept")
	}
}
