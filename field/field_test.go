package field

import (
	"math"
	"slices"
	"testing"

	"remontoire/api"
)

// words have each bit set and clear in turn, and the edges of a word.
var words = []uint64{
	0, 1, 1 << 63, 1<<63 | 1, math.MaxUint64, math.MaxInt64,
	0x123456789abcdef0, 0xfedcba9876543210, 0xaaaaaaaaaaaaaaaa, 0x5555555555555555,
}

// wrong are fields that no word has; the sums of some wrap round.
var wrong = []Field{
	{}, {0, 0}, {63, 0}, {0, -1}, {5, -5}, {0, 65}, {-1, 1}, {-1, 64}, {-64, 64}, {1, 64}, {60, 5}, {63, 2}, {64, 0}, {64, 1},
	{math.MaxInt, 1}, {math.MaxInt, 64}, {1, math.MaxInt}, {math.MaxInt, math.MaxInt},
	{math.MinInt, 1}, {1, math.MinInt}, {math.MinInt, math.MinInt}, {-8, 16}, {math.MinInt, 64},
}

// all tells each field that a word has.
func all() []Field {
	var l []Field
	for size := 1; size <= 64; size++ {
		for at := 0; at+size <= 64; at++ {
			l = append(l, Field{at, size})
		}
	}
	return l
}

// bit tells bit i of a word, as a number.
func bit(w uint64, i int) uint64 { return w >> i & 1 }

// power tells 2^i.
func power(i int) uint64 { return uint64(1) << i }

// has tells whether a field has a bit.
func has(f Field, i int) bool { return f.At <= i && i < f.At+f.Size }

// number reckons what stands in a field, bit by bit.
func number(f Field, w uint64) uint64 {
	var n uint64
	for i := 0; i < f.Size; i++ {
		n += bit(w, f.At+i) * power(i)
	}
	return n
}

// P1.1.
func TestRight(t *testing.T) {
	for at := -3; at <= 70; at++ {
		for size := -3; size <= 70; size++ {
			want := 1 <= size && size <= 64 && at >= 0 && at+size <= 64
			if got := (Field{at, size}).Right(); got != want {
				t.Errorf("Right of %d, %d: %v", at, size, got)
			}
		}
	}
	for _, f := range wrong {
		if f.Right() {
			t.Errorf("Right of %v", f)
		}
	}
}

// P1.1.
func TestMost(t *testing.T) {
	for _, f := range all() {
		var want uint64
		for i := 0; i < f.Size; i++ {
			want += power(i)
		}
		if got := f.Most(); got != want {
			t.Errorf("Most of %v: %x", f, got)
		}
	}
	if (Field{63, 1}).Most() != 1 || (Field{0, 64}).Most() != math.MaxUint64 {
		t.Error("Most of the edges")
	}
}

// P1.1.
func TestGet(t *testing.T) {
	for _, f := range all() {
		for _, w := range words {
			if got, want := f.Get(w), number(f, w); got != want {
				t.Errorf("Get of %v of %x: %x, not %x", f, w, got, want)
			}
		}
	}
}

// P1.1.
func TestSigned(t *testing.T) {
	for _, f := range all() {
		for _, w := range words {
			want := int64(number(f, w))
			if bit(w, f.At+f.Size-1) == 1 && f.Size < 64 {
				want -= int64(1) << f.Size
			}
			if got := f.Signed(w); got != want {
				t.Errorf("Signed of %v of %x: %d, not %d", f, w, got, want)
			}
		}
	}
}

// P1.1: edges, by hand.
func TestSignedEdges(t *testing.T) {
	for _, c := range []struct {
		f    Field
		w    uint64
		want int64
	}{
		{Field{0, 1}, 1, -1}, {Field{0, 1}, 2, 0}, {Field{63, 1}, 1 << 63, -1},
		{Field{0, 8}, 0x7f, 127}, {Field{0, 8}, 0x80, -128}, {Field{0, 8}, 0xff, -1}, {Field{4, 8}, 0x7ff, 127},
		{Field{0, 64}, 1 << 63, math.MinInt64}, {Field{0, 64}, math.MaxUint64, -1}, {Field{0, 64}, math.MaxInt64, math.MaxInt64},
		{Field{1, 63}, 1 << 63, -1 << 62}, {Field{0, 63}, math.MaxUint64, -1},
	} {
		if got := c.f.Signed(c.w); got != c.want {
			t.Errorf("Signed of %v of %x: %d, not %d", c.f, c.w, got, c.want)
		}
	}
}

// P1.1, P1.2: a field that isn't Right has nothing, and takes nothing.
func TestWrongFields(t *testing.T) {
	for _, f := range wrong {
		if f.Most() != 0 {
			t.Errorf("Most of %v", f)
		}
		for _, w := range words {
			if f.Get(w) != 0 || f.Signed(w) != 0 {
				t.Errorf("Get, Signed of %v of %x", f, w)
			}
			for _, n := range words {
				if x, e := f.Put(w, n); x != 0 || e != api.ErrArg {
					t.Errorf("Put of %x in %v: %x, %d", n, f, x, e)
				}
			}
		}
	}
}

// P1.2.
func TestPut(t *testing.T) {
	for _, f := range all() {
		for _, w := range words {
			for _, n := range []uint64{0, 1, f.Most() / 2, f.Most() - 1, f.Most()} {
				got, e := f.Put(w, n)
				if e != api.OK {
					t.Errorf("Put of %x in %v: %d", n, f, e)
				}
				for i := 0; i < 64; i++ {
					want := bit(w, i)
					if has(f, i) {
						want = bit(n, i-f.At)
					}
					if bit(got, i) != want {
						t.Fatalf("Put of %x in %v of %x: %x", n, f, w, got)
					}
				}
			}
		}
	}
	if w, e := (Field{8, 4}).Put(0, 5); w != 0x500 || e != api.OK {
		t.Errorf("the example: %x, %d", w, e)
	}
}

// P1.2: a number above Most.
func TestPutTooMuch(t *testing.T) {
	for _, f := range all() {
		if f.Size == 64 {
			continue // no number is above its Most
		}
		for _, n := range []uint64{f.Most() + 1, f.Most() + 2, 1 << 63, math.MaxUint64} {
			if n <= f.Most() {
				continue
			}
			if w, e := f.Put(math.MaxUint64, n); w != 0 || e != api.ErrArg {
				t.Errorf("Put of %x in %v: %x, %d", n, f, w, e)
			}
		}
	}
}

// P1.3.
func TestApart(t *testing.T) {
	l := all()
	for _, a := range l {
		for _, b := range l {
			want := true
			for i := 0; i < 64; i++ {
				if has(a, i) && has(b, i) {
					want = false
				}
			}
			if Apart(a, b) != want {
				t.Fatalf("Apart of %v, %v: %v", a, b, !want)
			}
		}
		for _, b := range wrong {
			if !Apart(a, b) || !Apart(b, a) {
				t.Errorf("Apart of %v, %v", a, b)
			}
		}
	}
	for _, a := range wrong {
		for _, b := range wrong {
			if !Apart(a, b) {
				t.Errorf("Apart of %v, %v", a, b)
			}
		}
	}
}

// P1.3.
func TestJoin(t *testing.T) {
	for _, c := range []struct {
		l    []Field
		n    []uint64
		want uint64
	}{
		{nil, nil, 0}, {[]Field{}, []uint64{}, 0},
		{[]Field{{8, 4}}, []uint64{5}, 0x500},
		{[]Field{{0, 64}}, []uint64{math.MaxUint64}, math.MaxUint64},
		{[]Field{{63, 1}, {0, 1}}, []uint64{1, 1}, 1<<63 | 1},
		{[]Field{{0, 8}, {8, 56}}, []uint64{0x7f, 1<<56 - 1}, 0xffffffffffffff7f},
		{[]Field{{32, 32}, {0, 16}, {16, 16}}, []uint64{0x89abcdef, 0x4567, 0x0123}, 0x89abcdef01234567},
		{[]Field{{4, 4}, {12, 4}}, []uint64{0, 0}, 0},
	} {
		if w, e := Join(c.l, c.n...); w != c.want || e != api.OK {
			t.Errorf("Join of %x in %v: %x, %d", c.n, c.l, w, e)
		}
	}
}

// P1.3: as many numbers as fields, all Apart, all Put.
func TestJoinWrong(t *testing.T) {
	for _, c := range []struct {
		l []Field
		n []uint64
	}{
		{nil, []uint64{0}}, {[]Field{{0, 8}}, nil}, {[]Field{{0, 8}, {8, 8}}, []uint64{1}}, {[]Field{{0, 8}}, []uint64{1, 2}},
		{[]Field{{0, 8}, {7, 1}}, []uint64{0, 0}}, {[]Field{{7, 1}, {0, 8}}, []uint64{0, 0}},
		{[]Field{{0, 8}, {0, 8}}, []uint64{3, 3}}, {[]Field{{0, 8}, {16, 8}, {4, 8}}, []uint64{1, 1, 0}},
		{[]Field{{0, 8}, {16, 8}, {23, 8}}, []uint64{1, 1, 0}}, {[]Field{{0, 64}, {63, 1}}, []uint64{0, 0}},
		{[]Field{{0, 8}}, []uint64{256}}, {[]Field{{0, 8}, {8, 1}}, []uint64{255, 2}}, {[]Field{{0, 8}, {8, 1}}, []uint64{256, 1}},
		{[]Field{{60, 5}}, []uint64{0}}, {[]Field{{0, 8}, {}}, []uint64{1, 0}}, {[]Field{{-1, 1}, {0, 8}}, []uint64{0, 1}},
		{[]Field{{math.MaxInt, 64}}, []uint64{0}},
	} {
		if w, e := Join(c.l, c.n...); w != 0 || e != api.ErrArg {
			t.Errorf("Join of %x in %v: %x, %d", c.n, c.l, w, e)
		}
	}
}

// P1.3.
func TestSplit(t *testing.T) {
	if s := Split(nil, math.MaxUint64); len(s) != 0 {
		t.Error(s)
	}
	l := []Field{{0, 8}, {8, 56}, {4, 8}, {60, 5}, {0, 64}, {63, 1}, {}, {0, 8}}
	want := []uint64{0xf1, 0x8000000000abcd, 0xdf, 0, 0x8000000000abcdf1, 1, 0, 0xf1}
	if s := Split(l, 0x8000000000abcdf1); !slices.Equal(s, want) {
		t.Errorf("%x", s)
	}
}

// P1.4: what is put is got, and told with its sign.
func TestPutIsGot(t *testing.T) {
	for _, f := range all() {
		for _, w := range words {
			for _, v := range words {
				n := v & f.Most()
				if x, e := f.Put(w, n); e != api.OK || f.Get(x) != n {
					t.Errorf("Get of %v of %x: %x", f, x, n)
				}
			}
		}
	}
}

// P1.4: so is what is joined, however the word is cut, whatever the order of the fields.
func TestJoinedIsSplit(t *testing.T) {
	for step := 1; step <= 64; step++ {
		var l []Field
		for at := 0; at < 64; at += step {
			l = append(l, Field{at, min(step, 64-at)})
		}
		for range 2 {
			for _, w := range words {
				n := Split(l, w)
				if x, e := Join(l, n...); x != w || e != api.OK {
					t.Errorf("Join of %x in %v: %x, %d", n, l, x, e)
				}
				if !slices.Equal(Split(l, w), n) {
					t.Errorf("Split of %x in %v", w, l)
				}
			}
			slices.Reverse(l)
		}
	}
}

// Rule 'Memory': what is handed in stays as it is, its spare room included, and what is told is new.
func TestMemory(t *testing.T) {
	l := []Field{{0, 8}, {8, 8}, {1, 1}}
	n := []uint64{1, 2, 3}
	w, e := Join(l[:2], n[:2]...)
	s := Split(l[:2], w)
	if w != 0x201 || e != api.OK || !slices.Equal(l, []Field{{0, 8}, {8, 8}, {1, 1}}) || !slices.Equal(n, []uint64{1, 2, 3}) {
		t.Error(w, e, l, n)
	}
	s[0] = 9
	if again := Split(l[:2], w); !slices.Equal(again, []uint64{1, 2}) {
		t.Error(again)
	}
}
