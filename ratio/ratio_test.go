package ratio

import (
	"math"
	"math/big"
	"slices"
	"testing"

	"remontoire/api"
)

const most = math.MaxUint64

// edges are small numbers, those about 2^32, 2^63 and 2^64, primes, and numbers of many divisors.
var edges = []uint64{
	0, 1, 2, 3, 4, 6, 10, 60, 5040,
	1<<32 - 1, 1 << 32, 1<<32 + 1, 4294967291, 6442450941,
	1<<63 - 1, 1 << 63, 1<<63 + 1, 18446744073709551557, 6148914691236517205, most - 1, most,
}

// pairs tells each fraction of two edges, Right or not.
func pairs() []Ratio {
	var l []Ratio
	for _, num := range edges {
		for _, den := range edges {
			l = append(l, Ratio{num, den})
		}
	}
	return l
}

// wide makes a number without bounds.
func wide(n uint64) *big.Int { return new(big.Int).SetUint64(n) }

// times multiplies, without bounds.
func times(a, b *big.Int) *big.Int { return new(big.Int).Mul(a, b) }

// common reckons the greatest common divisor in another way than the package.
func common(a, b uint64) uint64 { return new(big.Int).GCD(nil, nil, wide(a), wide(b)).Uint64() }

// up divides, without bounds, rounded up.
func up(num, den *big.Int) *big.Int {
	q, r := new(big.Int).QuoRem(num, den, new(big.Int))
	if r.Sign() > 0 {
		q.Add(q, big.NewInt(1))
	}
	return q
}

// sumOf reckons what Add answers by the document's words, without bounds on the way.
func sumOf(a, b Ratio) (Ratio, api.Errno) {
	for _, r := range []Ratio{a, b} {
		if r.Den == 0 || common(r.Num, r.Den) != 1 {
			return Ratio{}, api.ErrArg
		}
	}
	g := common(a.Den, b.Den)
	x, y := times(wide(a.Num), wide(b.Den/g)), times(wide(b.Num), wide(a.Den/g))
	sum, den := new(big.Int).Add(x, y), times(wide(a.Den/g), wide(b.Den))
	for _, n := range []*big.Int{x, y, sum, den} {
		if !n.IsUint64() {
			return Ratio{}, api.ErrOver
		}
	}
	d := common(sum.Uint64(), den.Uint64())
	return Ratio{sum.Uint64() / d, den.Uint64() / d}, api.OK
}

// P2.1.
func TestOf(t *testing.T) {
	for _, r := range pairs() {
		got, e := Of(r.Num, r.Den)
		if r.Den == 0 {
			if got != (Ratio{}) || e != api.ErrArg {
				t.Errorf("Of %v: %v, %d", r, got, e)
			}
			continue
		}
		g := common(r.Num, r.Den)
		if want := (Ratio{r.Num / g, r.Den / g}); got != want || e != api.OK {
			t.Errorf("Of %v: %v, %d, not %v", r, got, e, want)
		}
		if !got.Right() {
			t.Errorf("Of %v: %v isn't Right", r, got)
		}
	}
}

// P2.1: edges, by hand.
func TestOfEdges(t *testing.T) {
	for _, c := range []struct {
		num, den uint64
		want     Ratio
	}{
		{0, 1, Ratio{0, 1}}, {0, 7, Ratio{0, 1}}, {0, most, Ratio{0, 1}}, {1, 1, Ratio{1, 1}},
		{6, 8, Ratio{3, 4}}, {8, 6, Ratio{4, 3}}, {12, 4, Ratio{3, 1}}, {7, 9, Ratio{7, 9}},
		{most, most, Ratio{1, 1}}, {most, 1, Ratio{most, 1}}, {1, most, Ratio{1, most}},
		{most, most - 1, Ratio{most, most - 1}}, {most, 3, Ratio{6148914691236517205, 1}},
		{1 << 63, 1 << 62, Ratio{2, 1}}, {1 << 32, 1 << 63, Ratio{1, 1 << 31}},
	} {
		if got, e := Of(c.num, c.den); got != c.want || e != api.OK {
			t.Errorf("Of %d, %d: %v, %d", c.num, c.den, got, e)
		}
	}
	for _, num := range []uint64{0, 1, most} {
		if got, e := Of(num, 0); got != (Ratio{}) || e != api.ErrArg {
			t.Errorf("Of %d, 0: %v, %d", num, got, e)
		}
	}
}

// P2.1.
func TestRight(t *testing.T) {
	for _, r := range pairs() {
		if want := r.Den > 0 && common(r.Num, r.Den) == 1; r.Right() != want {
			t.Errorf("Right of %v: %v", r, !want)
		}
	}
	for _, r := range []Ratio{{0, 1}, {1, 1}, {most, 1}, {1, most}, {most, most - 1}, {3, 4}} {
		if !r.Right() {
			t.Errorf("Right of %v", r)
		}
	}
	for _, r := range []Ratio{{}, {1, 0}, {most, 0}, {0, 2}, {0, most}, {2, 2}, {most, most}, {2, 4}, {most, 3}} {
		if r.Right() {
			t.Errorf("Right of %v", r)
		}
	}
}

// P2.1.
func TestCompare(t *testing.T) {
	l := pairs()
	for _, a := range l {
		for _, b := range l {
			want := 0
			if a.Den > 0 && b.Den > 0 {
				want = times(wide(a.Num), wide(b.Den)).Cmp(times(wide(b.Num), wide(a.Den)))
			}
			if got := Compare(a, b); got != want {
				t.Fatalf("Compare of %v, %v: %d, not %d", a, b, got, want)
			}
		}
	}
}

// P2.1: edges, by hand.
func TestCompareEdges(t *testing.T) {
	for _, c := range []struct {
		a, b Ratio
		want int
	}{
		{Ratio{1, 2}, Ratio{1, 3}, 1}, {Ratio{1, 3}, Ratio{1, 2}, -1}, {Ratio{1, 2}, Ratio{1, 2}, 0},
		{Ratio{2, 4}, Ratio{1, 2}, 0}, {Ratio{0, 5}, Ratio{0, 1}, 0}, {Ratio{0, 1}, Ratio{1, most}, -1},
		{Ratio{most, most - 1}, Ratio{most - 1, most - 2}, -1}, {Ratio{most - 1, most}, Ratio{most - 2, most - 1}, 1},
		{Ratio{most, 1}, Ratio{most - 1, 1}, 1}, {Ratio{1, most}, Ratio{1, most - 1}, -1}, {Ratio{most, 1}, Ratio{1, most}, 1},
		// Products 2^64 and 0, alike in their low words, then 2^64 and 3, whose low words are the other way round.
		{Ratio{1 << 32, 1}, Ratio{0, 1 << 32}, 1}, {Ratio{1 << 62, 3}, Ratio{1, 4}, 1}, {Ratio{1, 4}, Ratio{1 << 62, 3}, -1},
		{Ratio{1, 0}, Ratio{1, 2}, 0}, {Ratio{1, 2}, Ratio{1, 0}, 0}, {Ratio{0, 0}, Ratio{most, 1}, 0}, {Ratio{most, 1}, Ratio{}, 0}, {Ratio{}, Ratio{}, 0},
	} {
		if got := Compare(c.a, c.b); got != c.want {
			t.Errorf("Compare of %v, %v: %d", c.a, c.b, got)
		}
	}
}

// P2.2.
func TestAdd(t *testing.T) {
	l := pairs()
	for _, a := range l {
		for _, b := range l {
			got, e := Add(a, b)
			want, wantE := sumOf(a, b)
			if got != want || e != wantE {
				t.Fatalf("Add of %v, %v: %v, %d, not %v, %d", a, b, got, e, want, wantE)
			}
		}
	}
}

// P2.2: each number on the way, just within a word.
func TestAddWithin(t *testing.T) {
	for _, c := range []struct{ a, b, want Ratio }{
		{Ratio{1, 2}, Ratio{1, 3}, Ratio{5, 6}}, {Ratio{3, 4}, Ratio{5, 6}, Ratio{19, 12}}, {Ratio{1, 6}, Ratio{1, 3}, Ratio{1, 2}},
		{Ratio{0, 1}, Ratio{0, 1}, Ratio{0, 1}}, {Ratio{0, 1}, Ratio{most, most - 1}, Ratio{most, most - 1}}, {Ratio{most, 1}, Ratio{0, 1}, Ratio{most, 1}},
		{Ratio{most - 1, 1}, Ratio{1, 1}, Ratio{most, 1}},                           // the sum is 2^64 - 1
		{Ratio{1<<63 - 1, 1}, Ratio{1, 2}, Ratio{most, 2}},                          // a product, and the sum
		{Ratio{1, 1<<32 - 1}, Ratio{1, 1<<32 + 1}, Ratio{1 << 33, most}},            // what it is divided by
		{Ratio{1, 1 << 63}, Ratio{1, 1 << 63}, Ratio{1, 1 << 62}},                   // only as g is taken out
		{Ratio{most, 1 << 63}, Ratio{0, 1}, Ratio{most, 1 << 63}},                   // a product with 0
		{Ratio{1, 1 << 63}, Ratio{most >> 1, 1 << 63}, Ratio{1, 1}},                 // a whole
		{Ratio{1, most}, Ratio{most - 1, most}, Ratio{1, 1}},                        // a whole, at the edge
		{Ratio{1, 6442450941}, Ratio{1, 3}, Ratio{2147483648, 6442450941}},          // one Den in the other
		{Ratio{6148914691236517205, 1}, Ratio{0, 1}, Ratio{most / 3, 1}},            // nothing added
		{Ratio{1<<63 - 1, 1 << 62}, Ratio{1, 1 << 62}, Ratio{2, 1}},                 // much in common
		{Ratio{most - 2, 2}, Ratio{1, 2}, Ratio{(most - 1) / 2, 1}},                 // the sum is 2^64 - 2
		{Ratio{1, 1 << 31}, Ratio{1, 1<<33 - 1}, Ratio{10737418239, 1<<64 - 1<<31}}, // what it is divided by, nearly
	} {
		if got, e := Add(c.a, c.b); got != c.want || e != api.OK {
			t.Errorf("Add of %v, %v: %v, %d", c.a, c.b, got, e)
		}
		if got, e := Add(c.b, c.a); got != c.want || e != api.OK {
			t.Errorf("Add of %v, %v: %v, %d", c.b, c.a, got, e)
		}
	}
}

// P2.2: each number on the way, just above a word, the others within; then fractions that aren't Right, of which that is told first.
func TestAddWrong(t *testing.T) {
	for _, c := range []struct {
		a, b Ratio
		want api.Errno
	}{
		{Ratio{1 << 63, 1}, Ratio{1, 2}, api.ErrOver},         // a product is 2^64
		{Ratio{1 << 63, 1}, Ratio{0, 1}, api.OK},              // none is
		{Ratio{1<<63 - 1, 1}, Ratio{3, 2}, api.ErrOver},       // both products are within, the sum is not
		{Ratio{most, 1}, Ratio{1, 1}, api.ErrOver},            // the sum is 2^64
		{Ratio{most, 2}, Ratio{most, 2}, api.ErrOver},         // the sum is too great, though not if it were divided
		{Ratio{1, 1 << 32}, Ratio{1, 1<<32 + 1}, api.ErrOver}, // what it is divided by
		{Ratio{1, 3 << 62}, Ratio{1, 1 << 63}, api.ErrOver},   // that is 2 times 3 << 62, with g taken out
		{Ratio{most, most - 1}, Ratio{1, most}, api.ErrOver},  // a product, and what it is divided by
		{Ratio{2, 4}, Ratio{1, 2}, api.ErrArg}, {Ratio{0, 2}, Ratio{1, 2}, api.ErrArg}, {Ratio{}, Ratio{1, 2}, api.ErrArg},
		{Ratio{1, 0}, Ratio{1, 2}, api.ErrArg}, {Ratio{most, most}, Ratio{most, 1}, api.ErrArg}, {Ratio{}, Ratio{}, api.ErrArg},
		{Ratio{most, 3}, Ratio{most, 1}, api.ErrArg}, {Ratio{0, most}, Ratio{0, 1}, api.ErrArg},
	} {
		for range 2 {
			got, e := Add(c.a, c.b)
			if e != c.want || e != api.OK && got != (Ratio{}) {
				t.Errorf("Add of %v, %v: %v, %d", c.a, c.b, got, e)
			}
			c.a, c.b = c.b, c.a
		}
	}
}

// P2.2: from 0 / 1 on, one by one, the first error.
func TestSum(t *testing.T) {
	for _, c := range []struct {
		l    []Ratio
		want Ratio
		e    api.Errno
	}{
		{nil, Ratio{0, 1}, api.OK}, {[]Ratio{}, Ratio{0, 1}, api.OK}, {[]Ratio{{0, 1}, {0, 1}}, Ratio{0, 1}, api.OK},
		{[]Ratio{{1, 2}, {1, 3}, {1, 6}}, Ratio{1, 1}, api.OK}, {[]Ratio{{most, most - 1}}, Ratio{most, most - 1}, api.OK},
		{[]Ratio{{most - 2, 1}, {1, 1}, {1, 1}}, Ratio{most, 1}, api.OK}, {[]Ratio{{most - 2, 1}, {1, 1}, {1, 1}, {1, 1}}, Ratio{}, api.ErrOver},
		{[]Ratio{{2, 4}}, Ratio{}, api.ErrArg}, {[]Ratio{{}}, Ratio{}, api.ErrArg}, {[]Ratio{{1, 2}, {1, 0}, {1, 2}}, Ratio{}, api.ErrArg}, {[]Ratio{{1, 2}, {0, 2}}, Ratio{}, api.ErrArg},
		{[]Ratio{{most, 1}, {1, 1}, {1, 0}}, Ratio{}, api.ErrOver}, {[]Ratio{{1, 0}, {most, 1}, {1, 1}}, Ratio{}, api.ErrArg}, {[]Ratio{{most, 1}, {1, 0}, {1, 1}}, Ratio{}, api.ErrArg},
		// In one order what is divided by is too great, in the other it never is.
		{[]Ratio{{1, 1 << 63}, {1<<63 - 1, 1 << 63}, {1, 3}}, Ratio{4, 3}, api.OK}, {[]Ratio{{1, 1 << 63}, {1, 3}, {1<<63 - 1, 1 << 63}}, Ratio{}, api.ErrOver},
	} {
		if got, e := Sum(c.l...); got != c.want || e != c.e {
			t.Errorf("Sum of %v: %v, %d", c.l, got, e)
		}
	}
}

// P2.3.
func TestFloorCeil(t *testing.T) {
	for _, r := range pairs() {
		var floor, ceil uint64
		if r.Den > 0 {
			floor = new(big.Int).Quo(wide(r.Num), wide(r.Den)).Uint64()
			ceil = up(wide(r.Num), wide(r.Den)).Uint64()
		}
		if r.Floor() != floor || r.Ceil() != ceil {
			t.Errorf("Floor, Ceil of %v: %d, %d, not %d, %d", r, r.Floor(), r.Ceil(), floor, ceil)
		}
	}
}

// P2.3: edges, by hand.
func TestFloorCeilEdges(t *testing.T) {
	for _, c := range []struct {
		r           Ratio
		floor, ceil uint64
	}{
		{Ratio{19, 12}, 1, 2}, {Ratio{0, 1}, 0, 0}, {Ratio{0, 9}, 0, 0}, {Ratio{1, 1}, 1, 1}, {Ratio{4, 2}, 2, 2}, {Ratio{5, 2}, 2, 3},
		{Ratio{most, 1}, most, most}, {Ratio{most, most}, 1, 1}, {Ratio{1, most}, 0, 1}, {Ratio{most, most - 1}, 1, 2}, {Ratio{most - 1, most}, 0, 1},
		{Ratio{most, 2}, 1<<63 - 1, 1 << 63}, {Ratio{}, 0, 0}, {Ratio{1, 0}, 0, 0}, {Ratio{most, 0}, 0, 0},
	} {
		if c.r.Floor() != c.floor || c.r.Ceil() != c.ceil {
			t.Errorf("Floor, Ceil of %v: %d, %d", c.r, c.r.Floor(), c.r.Ceil())
		}
	}
}

// P2.3, P2.4: rounded up, thus never less, and by less than one more.
func TestFixed(t *testing.T) {
	for _, r := range pairs() {
		for power := -1; power <= 64; power++ {
			n, e := r.Fixed(power)
			if r.Den == 0 || power < 0 || power > 63 {
				if n != 0 || e != api.ErrArg {
					t.Errorf("Fixed of %v, %d: %d, %d", r, power, n, e)
				}
				continue
			}
			num, den := new(big.Int).Lsh(wide(r.Num), uint(power)), wide(r.Den)
			if want := up(num, den); !want.IsUint64() {
				if n != 0 || e != api.ErrOver {
					t.Errorf("Fixed of %v, %d: %d, %d, not ErrOver", r, power, n, e)
				}
				continue
			} else if n != want.Uint64() || e != api.OK {
				t.Errorf("Fixed of %v, %d: %d, %d, not %v", r, power, n, e, want)
			}
			above := new(big.Int).Sub(times(wide(n), den), num)
			if above.Sign() < 0 || above.Cmp(den) >= 0 {
				t.Errorf("Fixed of %v, %d: %d is less, or more by one", r, power, n)
			}
		}
	}
}

// P2.3: edges, by hand.
func TestFixedEdges(t *testing.T) {
	for _, c := range []struct {
		r     Ratio
		power int
		want  uint64
		e     api.Errno
	}{
		{Ratio{5, 6}, 4, 14, api.OK}, {Ratio{1, 2}, 0, 1, api.OK}, {Ratio{1, 2}, 1, 1, api.OK}, {Ratio{2, 4}, 2, 2, api.OK}, {Ratio{0, 1}, 63, 0, api.OK}, {Ratio{0, most}, 63, 0, api.OK},
		{Ratio{1, 1}, 63, 1 << 63, api.OK}, {Ratio{2, 1}, 63, 0, api.ErrOver}, {Ratio{1, most}, 63, 1, api.OK}, {Ratio{most, most}, 63, 1 << 63, api.OK},
		{Ratio{most, 1}, 0, most, api.OK}, {Ratio{most, 1}, 1, 0, api.ErrOver}, {Ratio{most, 2}, 1, most, api.OK}, {Ratio{most, 2}, 2, 0, api.ErrOver},
		{Ratio{1<<63 - 1, 1}, 1, most - 1, api.OK}, {Ratio{1 << 63, 1}, 1, 0, api.ErrOver}, {Ratio{most, 1 << 63}, 63, most, api.OK}, {Ratio{most, 1<<63 - 1}, 63, 0, api.ErrOver},
		{Ratio{most - 1, most}, 63, 1 << 63, api.OK}, {Ratio{most, most - 1}, 63, 1<<63 + 1, api.OK}, {Ratio{3, 4}, 63, 3 << 61, api.OK},
		{Ratio{1, 0}, 0, 0, api.ErrArg}, {Ratio{}, 63, 0, api.ErrArg}, {Ratio{most, 0}, 1, 0, api.ErrArg},
		{Ratio{1, 2}, -1, 0, api.ErrArg}, {Ratio{1, 2}, 64, 0, api.ErrArg}, {Ratio{1, 2}, math.MinInt, 0, api.ErrArg}, {Ratio{1, 2}, math.MaxInt, 0, api.ErrArg},
		{Ratio{most, 1}, 64, 0, api.ErrArg}, {Ratio{most, 1}, -1, 0, api.ErrArg},
	} {
		if got, e := c.r.Fixed(c.power); got != c.want || e != c.e {
			t.Errorf("Fixed of %v, %d: %d, %d", c.r, c.power, got, e)
		}
	}
}

// orders tells a list in each of its orders.
func orders(l []Ratio) [][]Ratio {
	if len(l) == 0 {
		return [][]Ratio{nil}
	}
	var all [][]Ratio
	for i, first := range l {
		for _, rest := range orders(slices.Concat(l[:i], l[i+1:])) {
			all = append(all, append([]Ratio{first}, rest...))
		}
	}
	return all
}

// P2.4: a sum in any order is the same, as long as there is no error.
func TestAnyOrder(t *testing.T) {
	for _, l := range [][]Ratio{
		{{1, 2}, {1, 3}, {1, 6}}, {{1, 2}, {2, 3}, {3, 4}, {4, 5}, {5, 6}}, {{0, 1}, {7, 9}, {9, 7}, {1, 63}},
		{{most - 3, 1}, {1, 1}, {2, 1}}, {{1, most}, {most - 2, most}, {1, most}}, {{1, 1 << 63}, {1<<63 - 1, 1 << 63}, {1, 3}},
		{{1, 1<<32 - 1}, {1, 1<<32 + 1}, {1, 3}, {1, 5}}, {{1, 1048576}, {2, 1048575}, {3, 1048573}},
	} {
		var sum Ratio
		for i, order := range orders(l) {
			got, e := Sum(order...)
			if i == 0 {
				sum = got
			}
			if e == api.OK && got != sum || e != api.OK && e != api.ErrOver || i == 0 && e != api.OK {
				t.Errorf("Sum of %v: %v, %d, not %v", order, got, e, sum)
			}
		}
	}
}

// Rule 'Memory': what is handed in stays as it is, its spare room included.
func TestMemory(t *testing.T) {
	l := []Ratio{{1, 2}, {1, 3}, {5, 7}}
	if sum, e := Sum(l[:2]...); sum != (Ratio{5, 6}) || e != api.OK || !slices.Equal(l, []Ratio{{1, 2}, {1, 3}, {5, 7}}) {
		t.Error(sum, e, l)
	}
}
