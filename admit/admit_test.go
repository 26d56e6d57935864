package admit

import (
	"fmt"
	"math"
	"math/big"
	"slices"
	"strings"
	"testing"

	"remontoire/api"
	"remontoire/supply"
)

// These are what the chapters and the document say of the limits.
const (
	wantWhole  = 4294967296
	wantPeriod = 1048576
)

// lowest and highest are the edges of an int.
const (
	lowest  = math.MinInt
	highest = math.MaxInt
)

// of tells a reservation.
func of(budget, period int) supply.Reserve { return supply.Reserve{Budget: budget, Period: period} }

// Reservations that the tests below take again and again.
var (
	all    = of(1, 1)
	half   = of(1, 2)
	third  = of(1, 3)
	fourth = of(1, 4)
	least  = of(1, wantPeriod)
)

// right are reservations that may be: ordinary ones, and the edges of both parts.
var right = []supply.Reserve{
	all, half, third, fourth, least, of(2, 5), of(3, 10), of(2, 4), of(7, 7), of(6, 7), of(37, 1000), of(1, 5), of(3, 1024),
	of(wantPeriod, wantPeriod), of(wantPeriod-1, wantPeriod), of(wantPeriod/2, wantPeriod), of(1, wantPeriod-1), of(wantPeriod-1, wantPeriod-1), of(wantPeriod-2, wantPeriod-1), of(65535, 65537), of(12345, 1000003),
}

// wrong are reservations that may not be; the sums and products of some wrap round.
var wrong = []supply.Reserve{
	{}, of(0, 1), of(0, 5), of(0, wantPeriod), of(-1, 5), of(-1, -1), of(-5, -2), of(lowest, 5), of(lowest, lowest), of(lowest, highest),
	of(1, 0), of(1, -1), of(1, lowest), of(2, 1), of(6, 5), of(highest, 5), of(wantPeriod+1, wantPeriod), of(1<<32, 1), of(1<<32+1, 1<<32+2),
	of(1, wantPeriod+1), of(wantPeriod, wantPeriod+1), of(wantPeriod+1, wantPeriod+1), of(1, 1<<32), of(1, highest), of(highest, highest),
}

// anybody are those who may have a reservation, and any number may.
var anybody = []int{0, 1, 2, 3, 7, 8, -1, -2, -8, 1 << 20, 1 << 32, -1 << 32, 1<<32 + 1, lowest, lowest + 1, highest - 1, highest}

// isRight tells whether there may be a reservation, by the words of P4.1.
func isRight(r supply.Reserve) bool {
	return r.Budget >= 1 && r.Period >= r.Budget && r.Period <= wantPeriod
}

// wantShare tells what Share must answer, reckoned without bounds.
func wantShare(r supply.Reserve) uint64 {
	if !isRight(r) {
		return 0
	}
	n := new(big.Int).Mul(big.NewInt(wantWhole), big.NewInt(int64(r.Budget)))
	n, rest := n.DivMod(n, big.NewInt(int64(r.Period)), new(big.Int))
	if rest.Sign() > 0 {
		n.Add(n, big.NewInt(1))
	}
	return n.Uint64()
}

// entry is a reservation of the plain list: who has it, or, if it was given back, until when it counts on.
type entry struct {
	who   int
	r     supply.Reserve
	back  bool
	until int
}

// plain is a list of the reservations that count, against which a book's answers are held.
type plain struct {
	l    []entry
	tick int
}

// place tells where the reservation stands that somebody has; -1: there is none.
func (p *plain) place(who int) int {
	return slices.IndexFunc(p.l, func(x entry) bool { return !x.back && x.who == who })
}

// used tells what Used must answer.
func (p *plain) used() uint64 {
	sum := uint64(0)
	for _, x := range p.l {
		sum += wantShare(x.r)
	}
	return sum
}

// pending tells what Pending must answer.
func (p *plain) pending() int {
	n := 0
	for _, x := range p.l {
		if x.back {
			n++
		}
	}
	return n
}

// admit tells what Admit must answer, and takes the reservation in the list.
func (p *plain) admit(who int, r supply.Reserve) api.Errno {
	switch {
	case !isRight(r):
		return api.ErrArg
	case p.place(who) >= 0:
		return api.ErrTwice
	case p.used()+wantShare(r) > wantWhole:
		return api.ErrOver
	}
	p.l = append(p.l, entry{who: who, r: r})
	return api.OK
}

// release tells what Release must answer, and gives the reservation of the list back.
func (p *plain) release(who, until int) api.Errno {
	place := p.place(who)
	switch {
	case place < 0:
		return api.ErrNone
	case until <= p.tick:
		p.l = slices.Delete(p.l, place, place+1)
	default:
		p.l[place].back, p.l[place].until = true, until
	}
	return api.OK
}

// advance tells what Advance must answer, and goes on in the list.
func (p *plain) advance(now int) int {
	if now < p.tick {
		return 0
	}
	was := len(p.l)
	p.tick = now
	p.l = slices.DeleteFunc(p.l, func(x entry) bool { return x.back && x.until <= now })
	return was - len(p.l)
}

// pair is a book, the plain list that it must be like, and what was called on both.
type pair struct {
	b      *Book
	p      plain
	called []string
}

// both tells a zero book and an empty list, behind these calls.
func both(t *testing.T, calls ...func(*testing.T, *pair)) *pair {
	t.Helper()
	x := &pair{b: &Book{}}
	for _, call := range calls {
		call(t, x)
		x.hold(t)
	}
	return x
}

// calls tells what was called, for what a test says.
func (x *pair) calls() string {
	return strings.Join(x.called[max(0, len(x.called)-16):], ", ")
}

// note keeps what is called.
func (x *pair) note(what string, args ...any) {
	x.called = append(x.called, what+" "+fmt.Sprint(args...))
}

// admit takes a reservation in both, and holds the answers.
func (x *pair) admit(t *testing.T, who int, r supply.Reserve) api.Errno {
	t.Helper()
	x.note("Admit", who, r)
	want, got := x.p.admit(who, r), x.b.Admit(who, r)
	if got != want {
		t.Errorf("%s: error %d, not %d", x.calls(), got, want)
	}
	return got
}

// release gives a reservation of both back, and holds the answers.
func (x *pair) release(t *testing.T, who, until int) api.Errno {
	t.Helper()
	x.note("Release", who, until)
	want, got := x.p.release(who, until), x.b.Release(who, until)
	if got != want {
		t.Errorf("%s: error %d, not %d", x.calls(), got, want)
	}
	return got
}

// advance goes on in both, and holds the answers.
func (x *pair) advance(t *testing.T, now int) int {
	t.Helper()
	x.note("Advance", now)
	want, got := x.p.advance(now), x.b.Advance(now)
	if got != want {
		t.Errorf("%s: %d, not %d", x.calls(), got, want)
	}
	return got
}

// hold holds Used, Pending, Has of anybody, and P13.4.
func (x *pair) hold(t *testing.T) {
	t.Helper()
	if got, want := x.b.Used(), x.p.used(); got != want || got > wantWhole {
		t.Errorf("%s: Used %d, not %d", x.calls(), got, want)
	}
	if got, want := x.b.Pending(), x.p.pending(); got != want {
		t.Errorf("%s: Pending %d, not %d", x.calls(), got, want)
	}
	for _, who := range anybody {
		x.holdHas(t, who)
	}
	sum := new(big.Rat)
	for _, y := range x.p.l {
		x.holdHas(t, y.who)
		if x.b.Has(y.who) && !y.back {
			sum.Add(sum, big.NewRat(int64(y.r.Budget), int64(y.r.Period)))
		}
	}
	if sum.Cmp(big.NewRat(1, 1)) > 0 {
		t.Errorf("%s: together %v", x.calls(), sum)
	}
}

// holdHas holds Has of somebody.
func (x *pair) holdHas(t *testing.T, who int) {
	t.Helper()
	if got, want := x.b.Has(who), x.p.place(who) >= 0; got != want {
		t.Errorf("%s: Has %d: %v", x.calls(), who, got)
	}
}

// is holds what was answered.
func (x *pair) is(t *testing.T, got, want api.Errno) {
	t.Helper()
	x.hold(t)
	if got != want {
		t.Errorf("%s: error %d, not %d", x.calls(), got, want)
	}
}

// tells holds Used and Pending.
func (x *pair) tells(t *testing.T, used uint64, pending int) {
	t.Helper()
	x.hold(t)
	if x.b.Used() != used || x.b.Pending() != pending {
		t.Errorf("%s: %d used, %d pending, not %d, %d", x.calls(), x.b.Used(), x.b.Pending(), used, pending)
	}
}

// takes tells a call of Admit.
func takes(who int, r supply.Reserve) func(*testing.T, *pair) {
	return func(t *testing.T, x *pair) { x.admit(t, who, r) }
}

// gives tells a call of Release.
func gives(who, until int) func(*testing.T, *pair) {
	return func(t *testing.T, x *pair) { x.release(t, who, until) }
}

// goes tells a call of Advance.
func goes(now int) func(*testing.T, *pair) {
	return func(t *testing.T, x *pair) { x.advance(t, now) }
}

// The chapter's example; the limits are the document's.
func TestExample(t *testing.T) {
	if Whole != wantWhole || api.MaxPeriod != wantPeriod {
		t.Error("limits")
	}
	b := &Book{}
	if x, y, z := b.Admit(1, half), b.Admit(2, half), b.Admit(3, of(1, 1000000)); x != api.OK || y != api.OK || z != api.ErrOver {
		t.Errorf("errors %d, %d, %d", x, y, z)
	}
}

// P13.1: of parts that are a whole number of 2^32nds, and of parts that aren't.
func TestShare(t *testing.T) {
	for _, x := range []struct {
		r    supply.Reserve
		want uint64
	}{
		{all, wantWhole}, {of(7, 7), wantWhole}, {of(wantPeriod, wantPeriod), wantWhole}, {of(wantPeriod-1, wantPeriod-1), wantWhole},
		{half, 1 << 31}, {fourth, 1 << 30}, {of(3, 4), 3 << 30}, {of(3, 6), 1 << 31}, {least, 4096}, {of(wantPeriod-1, wantPeriod), wantWhole - 4096}, {of(3, 1024), 12582912},
		{third, 1431655766}, {of(2, 3), 2863311531}, {of(1, 5), 858993460}, {of(2, 5), 1717986919}, {of(4, 5), 3435973837}, {of(1, 7), 613566757}, {of(3, 10), 1288490189},
		{of(1, wantPeriod-1), 4097}, {of(wantPeriod-2, wantPeriod-1), 4294963200}, {of(1, 65537), 65536}, {of(1, 1000000), 4295},
	} {
		if got := Share(x.r); got != x.want {
			t.Errorf("Share of %v: %d, not %d", x.r, got, x.want)
		}
	}
}

// P13.1: 0 of a reservation that isn't Right.
func TestShareWrong(t *testing.T) {
	for _, r := range wrong {
		if got := Share(r); got != 0 {
			t.Errorf("Share of %v: %d", r, got)
		}
	}
	for _, from := range []int{-4, wantPeriod - 3} {
		for budget := from; budget < from+8; budget++ {
			for period := from; period < from+8; period++ {
				if got, want := Share(of(budget, period)), wantShare(of(budget, period)); got != want {
					t.Errorf("Share of %d, %d: %d, not %d", budget, period, got, want)
				}
			}
		}
	}
}

// P13.1: held against what is reckoned without bounds, of the least and the greatest Budgets of many Periods, and of all Budgets of some.
func TestShareMany(t *testing.T) {
	same := func(budget, period int) {
		if got, want := Share(of(budget, period)), wantShare(of(budget, period)); got != want {
			t.Errorf("Share of %d, %d: %d, not %d", budget, period, got, want)
		}
	}
	for period := 1; period <= wantPeriod; period += 1 + period/64 {
		for _, budget := range []int{1, 2, 3, period / 3, period / 2, period - 2, period - 1, period, period + 1} {
			same(budget, period)
		}
	}
	for _, period := range []int{1, 2, 3, 6, 7, 64, 100, 243, 1000, 1024, 4095, 4096, 4097} {
		for budget := range period + 2 {
			same(budget, period)
		}
	}
	for _, r := range right {
		same(r.Budget, r.Period)
	}
}

// P13.2, P13.3: the zero Book has no reservations, at tick 0.
func TestZero(t *testing.T) {
	x := both(t)
	x.tells(t, 0, 0)
	for _, who := range anybody {
		x.is(t, x.release(t, who, 5), api.ErrNone)
	}
	x.tells(t, 0, 0)
	// At tick 0 what counts on until tick 0 counts no more; until tick 1, it does.
	x = both(t, takes(1, half), takes(2, fourth), gives(1, 0))
	x.tells(t, 1<<30, 0)
	x = both(t, takes(1, half), takes(2, fourth), gives(1, 1))
	x.tells(t, 3<<30, 1)
	for _, now := range []int{lowest, -1, 0} {
		if n := x.advance(t, now); n != 0 {
			t.Errorf("Advance to %d: %d", now, n)
		}
		x.tells(t, 3<<30, 1)
	}
}

// P13.2: each error of Admit, and which one comes where several hold. Nothing changes with one.
func TestAdmitErrors(t *testing.T) {
	for _, x := range []struct {
		who  int
		r    supply.Reserve
		want api.Errno
	}{
		{3, of(0, 4), api.ErrArg}, {3, of(5, 4), api.ErrArg}, {3, of(1, wantPeriod+1), api.ErrArg},
		{1, least, api.ErrTwice}, {2, least, api.ErrTwice}, {3, half, api.ErrOver}, {3, all, api.ErrOver},
		// Not Right, of who has one, and more than there is room for.
		{1, of(0, 4), api.ErrArg}, {1, of(5, 4), api.ErrArg}, {3, of(9, 8), api.ErrArg}, {2, of(1<<20+1, 1<<20+1), api.ErrArg},
		// Of who has one, and more than there is room for.
		{1, half, api.ErrTwice}, {1, all, api.ErrTwice}, {2, of(wantPeriod, wantPeriod), api.ErrTwice},
		// Of who gave one back that counts on: ErrOver alone.
		{4, half, api.ErrOver}, {4, of(5, 4), api.ErrArg},
		{3, fourth, api.OK}, {4, fourth, api.OK},
	} {
		y := both(t, takes(1, fourth), takes(4, fourth), takes(2, fourth), gives(4, 9))
		y.tells(t, 3<<30, 1)
		y.is(t, y.admit(t, x.who, x.r), x.want)
	}
	for _, r := range wrong {
		for _, who := range []int{0, 1, 2, -1} {
			y := both(t, takes(1, fourth), takes(2, of(3, 4)))
			y.is(t, y.admit(t, who, r), api.ErrArg)
			y.tells(t, wantWhole, 0)
		}
	}
}

// P13.2: Shares that are together Whole are taken in, and not one more, be it ever so small; of each Period the Shares are rounded up one by one.
func TestWhole(t *testing.T) {
	for _, l := range [][]supply.Reserve{
		{all}, {of(5, 5)}, {of(wantPeriod, wantPeriod)}, {half, half}, {half, fourth, fourth}, {of(3, 4), fourth}, {least, of(wantPeriod-1, wantPeriod)}, {of(3, 6), of(2, 8), of(5, 20)}, slices.Repeat([]supply.Reserve{of(2, 32)}, 16),
	} {
		x := both(t)
		for i, r := range l {
			x.is(t, x.admit(t, i, r), api.OK)
		}
		x.tells(t, wantWhole, 0)
		for _, r := range []supply.Reserve{least, of(1, 1000000), half, all} {
			x.is(t, x.admit(t, -1, r), api.ErrOver)
		}
		x.is(t, x.release(t, 0, 0), api.OK)
		x.is(t, x.admit(t, -1, l[0]), api.OK)
		x.tells(t, wantWhole, 0)
	}
	for _, l := range [][]supply.Reserve{
		{third, third, third}, {third, of(2, 3)}, slices.Repeat([]supply.Reserve{of(1, 5)}, 5), {half, third, of(1, 6)}, {of(1, wantPeriod-1), of(wantPeriod-2, wantPeriod-1)}, {all, least}, {least, all}, {half, half, least}, {of(wantPeriod-1, wantPeriod), of(1, wantPeriod-1)}, {half, of(wantPeriod/2+1, wantPeriod)},
	} {
		x, last := both(t), len(l)-1
		for i, r := range l[:last] {
			x.is(t, x.admit(t, i, r), api.OK)
		}
		x.is(t, x.admit(t, last, l[last]), api.ErrOver)
		x.is(t, x.admit(t, last, of(0, 1)), api.ErrArg)
	}
}

// P13.2: as many as there may be, each with the least Share; one given back leaves room for just one.
func TestMost(t *testing.T) {
	b := &Book{}
	for who := range wantPeriod {
		if e := b.Admit(who, least); e != api.OK {
			t.Fatalf("Admit %d: error %d", who, e)
		}
	}
	if e := b.Admit(-1, least); e != api.ErrOver || b.Used() != wantWhole || b.Has(-1) || !b.Has(0) || !b.Has(wantPeriod-1) {
		t.Errorf("one more: error %d, %d used", e, b.Used())
	}
	for who := range wantPeriod {
		// Some until ticks that are neither rising nor falling.
		if e := b.Release(who, 1+who*7919%1000); e != api.OK {
			t.Fatalf("Release %d: error %d", who, e)
		}
	}
	gone := 0
	for now := range 1002 {
		gone += b.Advance(now)
		if left := wantPeriod - gone; b.Pending() != left || b.Used() != uint64(left)*4096 {
			t.Fatalf("at %d: %d pending, %d used, and %d went", now, b.Pending(), b.Used(), gone)
		}
		want := api.ErrOver
		if now > 0 {
			want = api.OK
		}
		if e := b.Admit(-1, least); e != want || now > 0 && (b.Release(-1, now) != api.OK) {
			t.Fatalf("at %d: error %d", now, e)
		}
	}
	if gone != wantPeriod || b.Used() != 0 {
		t.Errorf("%d went, %d used", gone, b.Used())
	}
}

// P13.2: who may be any number.
func TestAnybody(t *testing.T) {
	x := both(t)
	for i, who := range anybody {
		x.is(t, x.release(t, who, 3), api.ErrNone)
		x.is(t, x.admit(t, who, of(1, 20+i)), api.OK)
		x.is(t, x.admit(t, who, of(1, 20+i)), api.ErrTwice)
	}
	for i, who := range anybody {
		x.is(t, x.release(t, who, i%3), api.OK)
		x.is(t, x.release(t, who, i%3), api.ErrNone)
	}
	x.advance(t, 2)
	x.tells(t, 0, 0)
}

// P13.2, P13.3: who gave one back that counts on may take one in again, and give it back again; each counts by itself, until its own tick.
func TestAgain(t *testing.T) {
	x := both(t)
	for i := range 4 {
		x.is(t, x.admit(t, 1, fourth), api.OK)
		x.is(t, x.admit(t, 1, fourth), api.ErrTwice)
		x.is(t, x.release(t, 1, 10-i), api.OK)
		x.tells(t, uint64(i+1)<<30, i+1)
	}
	x.is(t, x.admit(t, 1, least), api.ErrOver)
	for now, want := range []int{0, 0, 0, 0, 0, 0, 0, 1, 1, 1, 1} {
		if n := x.advance(t, now); n != want {
			t.Errorf("Advance to %d: %d, not %d", now, n, want)
		}
		x.tells(t, uint64(min(4, 10-now))<<30, min(4, 10-now))
	}
	// It may have one and several that count on, of different Shares; what it has stays.
	x = both(t, takes(1, half), gives(1, 20), takes(1, fourth), gives(1, 20), takes(1, of(1, 8)), goes(19))
	x.tells(t, 7<<29, 2)
	if n := x.advance(t, 20); n != 2 || !x.b.Has(1) {
		t.Errorf("Advance to 20: %d, Has %v", n, x.b.Has(1))
	}
	x.tells(t, 1<<29, 0)
	x.is(t, x.admit(t, 1, of(1, 8)), api.ErrTwice)
}

// P13.3: Release of who has none, of who never had one and of who gave it back, counts on or not.
func TestReleaseNone(t *testing.T) {
	x := both(t, takes(1, half), takes(2, fourth), gives(1, 0), gives(2, 5))
	for _, who := range []int{0, 1, 2, 3, -1, lowest, highest} {
		for _, until := range []int{lowest, -1, 0, 1, 5, 6, highest} {
			x.is(t, x.release(t, who, until), api.ErrNone)
			x.tells(t, 1<<30, 1)
		}
	}
	x.advance(t, 5)
	x.is(t, x.release(t, 2, 9), api.ErrNone)
	x.tells(t, 0, 0)
}

// P13.3: until below, at and above the tick, also far from it: whether it counts on, and until when.
func TestReleaseUntil(t *testing.T) {
	for _, tick := range []int{0, 1, 7, 1000, wantPeriod, 1 << 32, highest - 2, highest} {
		for _, until := range []int{lowest, lowest + 1, -1 << 32, -1, 0, 1, tick - 2, tick - 1, tick, tick/2 + 3} {
			if until > tick {
				continue
			}
			x := both(t, goes(tick), takes(1, third), takes(2, fourth))
			x.is(t, x.release(t, 1, until), api.OK)
			x.tells(t, 1<<30, 0)
			x.is(t, x.admit(t, 3, of(3, 4)), api.OK)
			if n := x.advance(t, highest); n != 0 {
				t.Errorf("%s: %d", x.calls(), n)
			}
		}
		for _, more := range []int{1, 2, 3, 100, wantPeriod, 1 << 40, highest - tick} {
			if more < 1 || more > highest-tick {
				continue
			}
			x := both(t, goes(tick), takes(1, third), takes(2, fourth))
			x.is(t, x.release(t, 1, tick+more), api.OK)
			x.tells(t, 1<<30+1431655766, 1)
			x.is(t, x.admit(t, 1, of(3, 4)), api.ErrOver)
			if n := x.advance(t, tick+more-1); n != 0 {
				t.Errorf("%s: %d", x.calls(), n)
			}
			x.tells(t, 1<<30+1431655766, 1)
			x.is(t, x.admit(t, 1, of(3, 4)), api.ErrOver)
			if n := x.advance(t, tick+more); n != 1 {
				t.Errorf("%s: %d", x.calls(), n)
			}
			x.tells(t, 1<<30, 0)
			x.is(t, x.admit(t, 1, of(3, 4)), api.OK)
		}
	}
}

// P13.3: Advance below the tick, to it, and above it.
func TestAdvance(t *testing.T) {
	ahead := []func(*testing.T, *pair){goes(10), takes(1, fourth), takes(2, fourth), takes(3, of(1, 8)), takes(4, of(1, 8)), gives(1, 12), gives(2, 15), gives(3, 12), gives(4, 13)}
	for _, x := range []struct {
		now, want int
		used      uint64
	}{
		{lowest, 0, 3 << 30}, {-1, 0, 3 << 30}, {0, 0, 3 << 30}, {9, 0, 3 << 30}, {10, 0, 3 << 30}, {11, 0, 3 << 30},
		{12, 2, 3 << 29}, {13, 3, 1 << 30}, {14, 3, 1 << 30}, {15, 4, 0}, {16, 4, 0}, {wantPeriod, 4, 0}, {highest, 4, 0},
	} {
		y := both(t, ahead...)
		if n := y.advance(t, x.now); n != x.want {
			t.Errorf("Advance to %d: %d, not %d", x.now, n, x.want)
		}
		y.tells(t, x.used, 4-x.want)
		// The same again, and below it, tells nothing more.
		for _, again := range []int{x.now, x.now, x.now - 1, 11, 10, 0, -1} {
			if again > x.now && again > 10 {
				continue
			}
			y.advance(t, again)
			y.tells(t, x.used, 4-x.want)
		}
		y.advance(t, highest)
		y.tells(t, 0, 0)
	}
}

// P13.3: an Advance to below the tick leaves the tick as it is: what is given back then counts on by the tick that it still is.
func TestAdvanceBelow(t *testing.T) {
	for _, now := range []int{lowest, -1, 0, 1, 9} {
		x := both(t, goes(10), takes(1, half), takes(2, fourth), goes(now), gives(1, 10), gives(2, 11))
		x.tells(t, 1<<30, 1)
		x = both(t, goes(10), takes(1, half), goes(now), gives(1, now+1))
		x.tells(t, 0, 0)
	}
	// One to above it doesn't.
	x := both(t, goes(10), takes(1, half), takes(2, fourth), goes(11), gives(1, 11), gives(2, 12))
	x.tells(t, 1<<30, 1)
}

// P13.3: those given back in all orders of their untils go by them, over one, several and all of them at once.
func TestAdvanceOrders(t *testing.T) {
	untils := []int{2, 3, 3, 5, 8, 8}
	var orders func(l, left []int)
	orders = func(l, left []int) {
		for i, until := range left {
			orders(append(slices.Clone(l), until), slices.Delete(slices.Clone(left), i, i+1))
		}
		if len(left) > 0 || t.Failed() {
			return
		}
		for _, stride := range []int{1, 2, 3, 5, 9} {
			x := &pair{b: &Book{}}
			for who, until := range l {
				x.admit(t, who, of(1, 8+who+until))
				x.release(t, who, until)
			}
			for now := 0; now < 9+stride; now += stride {
				x.advance(t, now)
				if got, want := x.b.Used(), x.p.used(); got != want || x.b.Pending() != x.p.pending() {
					t.Errorf("%s: %d used, %d pending, not %d, %d", x.calls(), got, x.b.Pending(), want, x.p.pending())
				}
			}
			x.hold(t)
		}
	}
	orders(nil, untils)
}

// P13.3: untils that are far apart, up to the greatest number, each reached from just below it.
func TestAdvanceFar(t *testing.T) {
	untils := []int{highest, 1 << 31, 1, 1<<32 + 1, 1 << 62, 2, highest - 1, 1 << 32, 1<<31 - 1, 1 << 62}
	x := both(t)
	for who, until := range untils {
		x.is(t, x.admit(t, who, of(1, 16+who)), api.OK)
		x.is(t, x.release(t, who, until), api.OK)
	}
	slices.Sort(untils)
	for i, until := range untils {
		x.advance(t, until-1)
		x.hold(t)
		x.advance(t, until)
		x.hold(t)
		if left := len(untils) - i - 1; until != 1<<62 && x.b.Pending() != left {
			t.Errorf("%s: Pending %d, not %d", x.calls(), x.b.Pending(), left)
		}
	}
	x.tells(t, 0, 0)
}

// P13.2, P13.3: what was given back leaves no room until its tick, at no tick on the way, and all of it from then on.
func TestRoom(t *testing.T) {
	const until = 40
	for _, r := range right {
		x := both(t, takes(5, r), gives(5, until))
		for now := range until {
			if n := x.advance(t, now); n != 0 {
				t.Errorf("%s: %d", x.calls(), n)
			}
			x.is(t, x.admit(t, 5, all), api.ErrOver)
			x.tells(t, Share(r), 1)
		}
		if n := x.advance(t, until); n != 1 {
			t.Errorf("%s: %d", x.calls(), n)
		}
		x.is(t, x.admit(t, 5, all), api.OK)
		x.tells(t, wantWhole, 0)
	}
}

// P13.4: as many alike ones as are taken in, and then ever smaller ones, are together at most the whole. Of some of these Periods a part would be taken in that is too much, if Shares were rounded down.
func TestAtMostAll(t *testing.T) {
	for _, r := range []supply.Reserve{third, of(1, 7), of(2, 7), of(3, 1000), of(1, 70003), of(1, 80021), of(1, 99991), of(1, 100003), of(1, 131071), of(1, 500009), of(1, wantPeriod-1), of(3, wantPeriod-1)} {
		b := &Book{}
		count := 0
		for b.Admit(count, r) == api.OK {
			count++
		}
		if count*r.Budget > r.Period || b.Used() != uint64(count)*wantShare(r) || b.Used()+wantShare(r) <= wantWhole {
			t.Errorf("%v: %d, %d used", r, count, b.Used())
		}
		sum := big.NewRat(int64(count)*int64(r.Budget), int64(r.Period))
		for period := 2; period <= wantPeriod; period += 1 + period/8 {
			if b.Admit(-period, of(1, period)) == api.OK {
				sum.Add(sum, big.NewRat(1, int64(period)))
			}
		}
		if sum.Cmp(big.NewRat(1, 1)) > 0 || b.Used() > wantWhole {
			t.Errorf("%v: together %v, %d used", r, sum, b.Used())
		}
	}
}

// A nil book has nothing; Admit and Release answer ErrNil, whatever they are given.
func TestNil(t *testing.T) {
	var b *Book
	for _, who := range anybody {
		for _, r := range append(slices.Clone(wrong), right...) {
			if e := b.Admit(who, r); e != api.ErrNil {
				t.Errorf("Admit %d, %v: error %d", who, r, e)
			}
		}
		for _, until := range anybody {
			if e := b.Release(who, until); e != api.ErrNil {
				t.Errorf("Release %d, %d: error %d", who, until, e)
			}
		}
		if n := b.Advance(who); n != 0 || b.Has(who) {
			t.Errorf("Advance %d: %d, Has %v", who, n, b.Has(who))
		}
		if b.Used() != 0 || b.Pending() != 0 {
			t.Errorf("%d used, %d pending", b.Used(), b.Pending())
		}
	}
}

// P13.2, P13.3: each book has its own reservations, and its own tick.
func TestApart(t *testing.T) {
	x, y := both(t, goes(5), takes(1, half), takes(2, fourth), gives(2, 9)), both(t, takes(1, all))
	y.is(t, y.release(t, 2, 9), api.ErrNone)
	y.is(t, y.release(t, 1, 4), api.OK)
	y.tells(t, wantWhole, 1)
	x.tells(t, 3<<30, 1)
	x.advance(t, 100)
	y.tells(t, wantWhole, 1)
	x.tells(t, 1<<31, 0)
}

// steps tells each kind of call on few people, right ones and wrong ones, near the tick.
func steps() []func(*testing.T, *pair) {
	l := []func(*testing.T, *pair){takes(1, of(2, 1)), takes(1, of(3, 4))}
	for who := range 2 {
		l = append(l, takes(who, third), takes(who, half))
		for _, more := range []int{-1, 0, 1, 3} {
			l = append(l, func(t *testing.T, x *pair) { x.release(t, who, x.p.tick+more) })
		}
	}
	for _, more := range []int{-1, 0, 1, 2, 5} {
		l = append(l, func(t *testing.T, x *pair) { x.advance(t, x.p.tick+more) })
	}
	return l
}

// P13.1 to P13.4: all rows of up to three calls, on a zero book, and behind others with which some are had, and some count on.
func TestAllRows(t *testing.T) {
	l := steps()
	for _, ahead := range [][]func(*testing.T, *pair){
		nil,
		{takes(0, third), takes(1, third)},
		{goes(4), takes(0, third), gives(0, 6), takes(1, third)},
		{takes(0, third), gives(0, 1), takes(0, third), gives(0, 2), goes(0)},
		{takes(0, fourth), gives(0, 2), takes(0, fourth), gives(0, 1), takes(0, fourth), gives(0, 4), takes(0, fourth)},
	} {
		for row := range len(l) * len(l) * len(l) {
			x := both(t, ahead...)
			for range 3 {
				l[row%len(l)](t, x)
				x.hold(t)
				row /= len(l)
			}
			if t.Failed() {
				return
			}
		}
	}
}

// P13.1 to P13.4: many calls in turn, right ones and wrong ones, of many people with small parts and of few with great ones.
func TestMany(t *testing.T) {
	for round := range 20 {
		x, mix := both(t), uint64(round)
		// some tells a number below most that looks mixed, the same ones each time.
		some := func(most int) int {
			mix = mix*6364136223846793005 + 1442695040888963407
			return int(mix >> 33 % uint64(most))
		}
		people, span := 2+round*2, 1+round%5*20
		for range 1200 {
			who := anybody[some(len(anybody))]
			if some(4) > 0 {
				who = some(people) - people/2
			}
			switch some(6) {
			case 0, 1, 2:
				period := 1 + some(1<<(2+some(19)))
				r := of(1+some(max(1, period*3/people)), period)
				if some(8) == 0 {
					r = wrong[some(len(wrong))]
				}
				x.admit(t, who, r)
			case 3, 4:
				x.release(t, who, x.p.tick+some(span)-some(4))
			case 5:
				x.advance(t, x.p.tick+some(span)/2-some(3))
			}
			x.hold(t)
			if t.Failed() {
				return
			}
		}
	}
}
