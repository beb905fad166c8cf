package wire_test

import (
	"bytes"
	"math"
	"math/bits"
	"slices"
	"strings"
	"testing"

	"worldmint/api"
	"worldmint/wire"
)

// write returns the bytes of a writer after values, each of which is of a type that wire encodes.
func write(values ...any) []byte {
	var w wire.Writer
	for _, v := range values {
		appendTo(&w, v)
	}
	return w.Done()
}

func appendTo(w *wire.Writer, v any) {
	switch x := v.(type) {
	case int:
		w.Int(x)
	case uint64:
		w.Uint(x)
	case bool:
		w.Bool(x)
	case string:
		w.Text(x)
	case []byte:
		w.Raw(x)
	case []int:
		w.Ints(x)
	default:
		panic("not a type that wire encodes")
	}
}

// readLike reads a value of the type of v.
func readLike(r *wire.Reader, v any) any {
	switch v.(type) {
	case int:
		return r.Int()
	case uint64:
		return r.Uint()
	case bool:
		return r.Bool()
	case string:
		return r.Text()
	case []byte:
		return r.Raw()
	case []int:
		return r.Ints()
	}
	panic("not a type that wire encodes")
}

// same compares two values; nil and empty slices are the same.
func same(a, b any) bool {
	switch x := a.(type) {
	case []byte:
		y, ok := b.([]byte)
		return ok && bytes.Equal(x, y)
	case []int:
		y, ok := b.([]int)
		return ok && slices.Equal(x, y)
	}
	return a == b
}

// kinds has one value, the zero value, of each type that wire encodes.
func kinds() []any { return []any{0, uint64(0), false, "", []byte(nil), []int(nil)} }

// join returns the concatenation of byte slices.
func join(parts ...[]byte) []byte { return slices.Concat(parts...) }

// continued returns others behind n bytes of 128, which say that a varint goes on.
func continued(n int, others ...byte) []byte {
	return append(bytes.Repeat([]byte{128}, n), others...)
}

// P2.1: the bytes of each kind of values.
func TestEncodings(t *testing.T) {
	long := strings.Repeat("x", 300)
	for _, c := range []struct {
		v    any
		want []byte
	}{
		{uint64(0), []byte{0}},
		{uint64(1), []byte{1}},
		{uint64(127), []byte{127}},
		{uint64(128), []byte{128, 1}},
		{uint64(300), []byte{172, 2}},
		{uint64(16383), []byte{255, 127}},
		{uint64(16384), []byte{128, 128, 1}},
		{uint64(math.MaxInt64), []byte{255, 255, 255, 255, 255, 255, 255, 255, 127}},
		{uint64(1 << 63), continued(9, 1)},
		{uint64(math.MaxUint64), []byte{255, 255, 255, 255, 255, 255, 255, 255, 255, 1}},
		{0, []byte{0}},
		{-1, []byte{1}},
		{1, []byte{2}},
		{63, []byte{126}},
		{-64, []byte{127}},
		{64, []byte{128, 1}},
		{-65, []byte{129, 1}},
		{math.MaxInt, []byte{254, 255, 255, 255, 255, 255, 255, 255, 255, 1}},
		{math.MinInt, []byte{255, 255, 255, 255, 255, 255, 255, 255, 255, 1}},
		{false, []byte{0}},
		{true, []byte{1}},
		{"", []byte{0}},
		{"ab", []byte{2, 97, 98}},
		{"\xff\x00é", []byte{4, 255, 0, 195, 169}},
		{long, join([]byte{172, 2}, []byte(long))},
		{[]byte(nil), []byte{0}},
		{[]byte{}, []byte{0}},
		{[]byte{0, 255, 128}, []byte{3, 0, 255, 128}},
		{[]byte(long), join([]byte{172, 2}, []byte(long))},
		{[]int(nil), []byte{0}},
		{[]int{}, []byte{0}},
		{[]int{1, -1, 64}, []byte{3, 2, 1, 128, 1}},
		{make([]int, 128), join([]byte{128, 1}, make([]byte, 128))},
	} {
		if got := write(c.v); !bytes.Equal(got, c.want) {
			t.Errorf("%#v is written as %v, want %v", c.v, got, c.want)
		}
	}
}

// P2.1: values are appended in order, and after Done too; each result of Done is new.
func TestDone(t *testing.T) {
	var w wire.Writer
	if got := w.Done(); len(got) != 0 {
		t.Errorf("a zero Writer has the bytes %v", got)
	}
	w.Text("ab")
	w.Int(-1)
	first, second := w.Done(), w.Done()
	want := []byte{2, 97, 98, 1}
	clear(first[:cap(first)])
	if !bytes.Equal(second, want) || !bytes.Equal(w.Done(), want) {
		t.Errorf("a result of Done shares memory: %v, %v", second, w.Done())
	}
	w.Bool(true)
	w.Uint(300)
	if !bytes.Equal(second, want) {
		t.Errorf("an earlier result of Done has changed to %v", second)
	}
	if got := w.Done(); !bytes.Equal(got, join(want, []byte{1, 172, 2})) {
		t.Errorf("after more values: %v", got)
	}
}

// P2.1: arguments are neither changed nor kept.
func TestWriterArguments(t *testing.T) {
	b, l := []byte{7, 8, 9}, []int{-7, 8, -9}
	var w wire.Writer
	w.Raw(b[:2])
	w.Ints(l[:2])
	w.Uint(5)
	if !bytes.Equal(b, []byte{7, 8, 9}) || !slices.Equal(l, []int{-7, 8, -9}) {
		t.Errorf("arguments were changed to %v and %v", b, l)
	}
	clear(b)
	clear(l)
	if got := w.Done(); !bytes.Equal(got, []byte{2, 7, 8, 2, 13, 16, 5}) {
		t.Errorf("arguments were kept: %v", got)
	}
}

// P2.2: a reader begins at the beginning of b, is not affected by later changes, and changes nothing itself.
func TestReadCopies(t *testing.T) {
	b := []byte{1, 2, 97, 98, 2, 3, 4, 5}
	r := wire.Read(b[:7])
	before := r.Uint()
	if !bytes.Equal(b, []byte{1, 2, 97, 98, 2, 3, 4, 5}) {
		t.Errorf("b was changed to %v", b)
	}
	clear(b)
	s := r.Text()
	if raw := r.Raw(); before != 1 || s != "ab" || !bytes.Equal(raw, []byte{3, 4}) || r.End() != api.OK {
		t.Errorf("read %d, %q, %v and %d", before, s, raw, r.End())
	}
	if r := wire.Read(nil); r.End() != api.OK {
		t.Errorf("a reader of nothing begins with the error %d", r.End())
	}
}

// P2.2: from the first error on, nothing is read, and the error stays.
func TestFirstErrorStays(t *testing.T) {
	for _, c := range []struct {
		b    []byte
		v    any
		want api.Errno
	}{
		{[]byte{128, 0, 1, 1, 1}, uint64(0), api.ErrForm},
		{[]byte{128, 0, 128, 0}, 0, api.ErrForm},
		{[]byte{2, 1, 1, 1}, false, api.ErrForm},
		{[]byte{9, 1, 1, 1}, "", api.ErrMore},
		{[]byte{9, 2, 2}, []byte(nil), api.ErrMore},
		{[]byte{9, 1, 1}, []int(nil), api.ErrMore},
		{[]byte{2, 128, 0, 1, 1}, []int(nil), api.ErrForm},
		{[]byte{128}, uint64(0), api.ErrMore},
		{nil, false, api.ErrMore},
	} {
		for _, v := range kinds() {
			r := wire.Read(c.b)
			for _, like := range []any{c.v, v, v} {
				if got := readLike(r, like); !same(got, like) {
					t.Errorf("%v: read %#v after an error", c.b, got)
				}
				if e := r.End(); e != c.want {
					t.Errorf("%v: End returns %d, want %d", c.b, e, c.want)
				}
			}
		}
	}
}

// P2.2: that bytes are left is not recorded.
func TestEnd(t *testing.T) {
	r := wire.Read([]byte{5, 0, 1})
	for _, want := range []uint64{5, 0, 1} {
		for range 2 {
			if e := r.End(); e != api.ErrForm {
				t.Errorf("before %d, End returns %d", want, e)
			}
		}
		if got := r.Uint(); got != want {
			t.Errorf("read %d, want %d", got, want)
		}
	}
	for range 2 {
		if e := r.End(); e != api.OK {
			t.Errorf("at the end, End returns %d", e)
		}
	}
	if got := r.Uint(); got != 0 || r.End() != api.ErrMore {
		t.Errorf("behind the end: %d, %d", got, r.End())
	}
}

// reading is one value that is read from bytes, what it is, and what End returns then.
type reading struct {
	b    []byte
	want any
	e    api.Errno
}

func (c reading) check(t *testing.T) {
	t.Helper()
	r := wire.Read(c.b)
	if got := readLike(r, c.want); !same(got, c.want) {
		t.Errorf("from %v: %#v, want %#v", c.b, got, c.want)
	}
	if e := r.End(); e != c.e {
		t.Errorf("%T from %v: End returns %d, want %d", c.want, c.b, e, c.e)
	}
}

// P2.3
func TestUint(t *testing.T) {
	for _, c := range []struct {
		b    []byte
		want uint64
		e    api.Errno
	}{
		{[]byte{0}, 0, api.OK},
		{[]byte{127}, 127, api.OK},
		{[]byte{172, 2}, 300, api.OK},
		{continued(1, 1), 128, api.OK},
		{continued(8, 1), 1 << 56, api.OK},
		{continued(9, 1), 1 << 63, api.OK},
		{append(bytes.Repeat([]byte{255}, 9), 1), math.MaxUint64, api.OK},
		{[]byte{255, 128, 1}, 127 + 1<<14, api.OK},
		{[]byte{5, 5}, 5, api.ErrForm},
		{[]byte{0, 0}, 0, api.ErrForm},
		{nil, 0, api.ErrMore},
		{continued(1), 0, api.ErrMore},
		{[]byte{255}, 0, api.ErrMore},
		{continued(9), 0, api.ErrMore},
		{continued(1, 0), 0, api.ErrForm},
		{continued(2, 0), 0, api.ErrForm},
		{[]byte{255, 0}, 0, api.ErrForm},
		{continued(1, 0, 1), 0, api.ErrForm},
		{continued(8, 0), 0, api.ErrForm},
		{continued(9, 0), 0, api.ErrForm},
		{continued(9, 2), 0, api.ErrForm},
		{continued(9, 127), 0, api.ErrForm},
		{continued(10), 0, api.ErrForm}, // the tenth byte is greater than 1, and no byte is missing before it
		{continued(9, 129), 0, api.ErrForm},
		{continued(12, 1), 0, api.ErrForm},
	} {
		reading{c.b, c.want, c.e}.check(t)
	}
}

// P2.4
func TestInt(t *testing.T) {
	for _, c := range []reading{
		{[]byte{0}, 0, api.OK},
		{[]byte{1}, -1, api.OK},
		{[]byte{2}, 1, api.OK},
		{[]byte{127}, -64, api.OK},
		{[]byte{128, 1}, 64, api.OK},
		{[]byte{129, 1}, -65, api.OK},
		{[]byte{254, 255, 255, 255, 255, 255, 255, 255, 255, 1}, math.MaxInt, api.OK},
		{[]byte{255, 255, 255, 255, 255, 255, 255, 255, 255, 1}, math.MinInt, api.OK},
		{continued(9, 1), 1 << 62, api.OK},
		{[]byte{1, 1}, -1, api.ErrForm},
		{nil, 0, api.ErrMore},
		{[]byte{129}, 0, api.ErrMore},
		{[]byte{128, 0}, 0, api.ErrForm},
		{[]byte{129, 0}, 0, api.ErrForm},
		{[]byte{255, 255, 255, 255, 255, 255, 255, 255, 255, 2}, 0, api.ErrForm},
	} {
		c.check(t)
	}
}

// P2.4
func TestBool(t *testing.T) {
	reading{nil, false, api.ErrMore}.check(t)
	for b := range 256 {
		want, e := b == 1, api.OK
		if b > 1 {
			e = api.ErrForm
		}
		reading{[]byte{byte(b)}, want, e}.check(t)
	}
	reading{[]byte{1, 0}, true, api.ErrForm}.check(t) // one byte is read
	reading{[]byte{128, 1}, false, api.ErrForm}.check(t)
}

// P2.5: a text and a byte slice are read from the same bytes.
func TestTextAndRaw(t *testing.T) {
	long := strings.Repeat("\x80", 200)
	for _, c := range []struct {
		b    []byte
		want string
		e    api.Errno
	}{
		{[]byte{0}, "", api.OK},
		{[]byte{2, 97, 98}, "ab", api.OK},
		{[]byte{3, 0, 255, 128}, "\x00\xff\x80", api.OK},
		{join([]byte{200, 1}, []byte(long)), long, api.OK},
		{[]byte{1, 97, 98}, "a", api.ErrForm},
		{nil, "", api.ErrMore},
		{[]byte{128}, "", api.ErrMore},
		{[]byte{128, 0}, "", api.ErrForm},
		{[]byte{129, 0, 97}, "", api.ErrForm},
		{continued(9, 2), "", api.ErrForm},
		{[]byte{1}, "", api.ErrMore},
		{[]byte{3, 97, 98}, "", api.ErrMore},
		{join([]byte{201, 1}, []byte(long)), "", api.ErrMore},
		{append(continued(9, 1), 97), "", api.ErrMore},
		{append(bytes.Repeat([]byte{255}, 9), 1, 97), "", api.ErrMore},
	} {
		reading{c.b, c.want, c.e}.check(t)
		reading{c.b, []byte(c.want), c.e}.check(t)
	}
}

// P2.5
func TestInts(t *testing.T) {
	for _, c := range []struct {
		b    []byte
		want []int
		e    api.Errno
	}{
		{[]byte{0}, nil, api.OK},
		{[]byte{3, 2, 1, 128, 1}, []int{1, -1, 64}, api.OK},
		{join([]byte{128, 1}, make([]byte, 128)), make([]int, 128), api.OK},
		{[]byte{2, 1, 1, 1}, []int{-1, -1}, api.ErrForm},
		{nil, nil, api.ErrMore},
		{[]byte{128}, nil, api.ErrMore},
		{[]byte{128, 0}, nil, api.ErrForm},
		{[]byte{1}, nil, api.ErrMore},
		{[]byte{3, 128, 0}, nil, api.ErrMore}, // the length is examined first
		{[]byte{2, 128, 0}, nil, api.ErrForm},
		{[]byte{2, 4, 128}, nil, api.ErrMore},
		{[]byte{2, 128, 1}, nil, api.ErrMore}, // long enough for two elements of one byte
		{[]byte{3, 4, 129, 0, 4}, nil, api.ErrForm},
		{append(continued(9, 1), 2), nil, api.ErrMore},
		{append(bytes.Repeat([]byte{255}, 9), 1, 2), nil, api.ErrMore},
	} {
		reading{c.b, c.want, c.e}.check(t)
	}
}

// P2.5: the slice of Raw is new: changing it, or appending to it, changes nothing that is read later.
func TestRawIsNew(t *testing.T) {
	r := wire.Read([]byte{2, 1, 2, 7, 2, 1, 3})
	first := r.Raw()
	clear(first[:cap(first)])
	if n := append(first, 9, 9, 9); len(n) != 5 {
		t.Error(n)
	}
	if n, l := r.Uint(), r.Ints(); n != 7 || !slices.Equal(l, []int{-1, -2}) || r.End() != api.OK {
		t.Errorf("read %d, %v and %d behind a slice that was changed", n, l, r.End())
	}
}

// samples returns values of each kind, at the edges of numbers of bytes among them.
func samples() []any {
	l := []any{false, true, "", "a", "\xff\x80\x00", strings.Repeat("é", 100), []byte(nil), []byte{128}, make([]byte, 127), bytes.Repeat([]byte{200}, 128), []int(nil), []int{0}, []int{1, -1, math.MaxInt, math.MinInt, 64, -65}, slices.Repeat([]int{-70}, 130)}
	for i := range 64 {
		for d := -1; d <= 1; d++ {
			n := 1<<i + d
			l = append(l, uint64(n), n, -n)
		}
	}
	return l
}

// sequences returns sequences of values in which each two kinds follow each other.
func sequences() [][]any {
	all := samples()
	l := [][]any{{}, all, {"a", []byte("b"), []int{3}, true, uint64(4), -5}}
	for i, v := range all {
		l = append(l, []any{v}, []any{v, all[(i*7+3)%len(all)], all[(i*5+1)%len(all)]})
	}
	for i, a := range kinds() {
		for _, b := range kinds()[i:] {
			l = append(l, []any{a, b}, []any{b, a, b})
		}
	}
	return l
}

// P2.6
func TestRoundTrip(t *testing.T) {
	for _, values := range sequences() {
		r := wire.Read(write(values...))
		for i, v := range values {
			if got := readLike(r, v); !same(got, v) {
				t.Fatalf("value %d of %#v is read as %#v", i, values, got)
			}
		}
		if e := r.End(); e != api.OK {
			t.Errorf("%#v: End returns %d", values, e)
		}
	}
}

// again reports whether values like some others can be read from b so that nothing is left, and whether they are written as b.
func again(b []byte, like []any) (read, written bool) {
	r := wire.Read(b)
	values := make([]any, len(like))
	for i, v := range like {
		values[i] = readLike(r, v)
	}
	if r.End() != api.OK {
		return false, false
	}
	return true, bytes.Equal(write(values...), b)
}

// allOf returns all sequences of at most that many bytes of an alphabet.
func allOf(alphabet []byte, most int) [][]byte {
	l, last := [][]byte{nil}, [][]byte{nil}
	for range most {
		var next [][]byte
		for _, b := range last {
			for _, c := range alphabet {
				next = append(next, append(slices.Clone(b), c))
			}
		}
		l, last = append(l, next...), next
	}
	return l
}

// P2.7: all short sequences of some bytes, and long varints, are read as one value, or as two.
func TestOneEncoding(t *testing.T) {
	alphabet := []byte{0, 1, 2, 127, 128, 129, 255}
	inputs := allOf(alphabet, 4)
	for _, end := range allOf(alphabet, 3) {
		inputs = append(inputs, continued(7, end...), continued(8, end...), append(bytes.Repeat([]byte{255}, 9), end...))
	}
	for a := range 256 {
		for b := range 256 {
			inputs = append(inputs, []byte{byte(a), byte(b)})
		}
	}
	accepted := 0
	for _, b := range inputs {
		for _, first := range kinds() {
			for _, l := range [][]any{{first}, {first, 0}, {first, []int(nil)}} {
				read, written := again(b, l)
				if read && !written {
					t.Errorf("%v is another encoding of what is read from it as %T", b, first)
				}
				if read {
					accepted++
				}
			}
		}
	}
	if accepted < 10000 {
		t.Errorf("only %d of the inputs were read without an error", accepted)
	}
}

// P2.8: proper prefixes.
func TestPrefixes(t *testing.T) {
	for _, values := range sequences() {
		b := write(values...)
		for n := range len(b) {
			if n > 300 && n < len(b)-300 { // of long sequences, the ends are enough
				continue
			}
			r := wire.Read(b[:n])
			for _, v := range values {
				readLike(r, v)
			}
			if e := r.End(); e != api.ErrMore {
				t.Fatalf("%d of %d bytes of %#v: End returns %d", n, len(b), values, e)
			}
		}
	}
}

// P2.8: a varint has one byte for every 7 bits that are needed, at least one.
func TestLengths(t *testing.T) {
	for _, v := range samples() {
		n, ok := v.(uint64)
		if !ok {
			continue
		}
		if got, want := len(write(n)), max(1, (bits.Len64(n)+6)/7); got != want {
			t.Errorf("%d has %d bytes, want %d", n, got, want)
		}
		if zigzag := int(n>>1) ^ -int(n&1); !bytes.Equal(write(zigzag), write(n)) {
			t.Errorf("%d is written as %v, want %v", zigzag, write(zigzag), write(n))
		}
	}
}
