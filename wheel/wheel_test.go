package wheel

import (
	"fmt"
	"math"
	"slices"
	"strings"
	"testing"

	"remontoire/api"
)

// lowest and highest are the edges of an int; wantLatest is what P8.2 says of At.
const (
	lowest     = math.MinInt
	highest    = math.MaxInt
	wantLatest = 2 << 20
)

// plain is a list of timers by their handles, against which a wheel's answers are held.
type plain struct {
	now  int
	list []Due
	told int // how many handles
}

// wantSet tells what Set must answer, and sets a timer in the list.
func (p *plain) wantSet(at, what int) (int, api.Errno) {
	if at <= p.now || at > wantLatest {
		return 0, api.ErrArg
	}
	p.told++
	p.list = append(p.list, Due{At: at, Handle: p.told, What: what})
	return p.told, api.OK
}

// wantGet tells what Get must answer.
func (p *plain) wantGet(handle int) (Due, bool) {
	for _, x := range p.list {
		if x.Handle == handle {
			return x, true
		}
	}
	return Due{}, false
}

// wantOut tells what Cancel must answer, and takes the timer out of the list.
func (p *plain) wantOut(handle int) bool {
	before := len(p.list)
	p.list = slices.DeleteFunc(p.list, func(x Due) bool { return x.Handle == handle })
	return len(p.list) < before
}

// wantGo tells what Advance must answer, and goes on in the list.
func (p *plain) wantGo(to int) ([]Due, api.Errno) {
	if to < p.now || to > 1<<20 {
		return nil, api.ErrArg
	}
	p.now = to
	var due, rest []Due
	for _, x := range p.list {
		if x.At <= to {
			due = append(due, x)
		} else {
			rest = append(rest, x)
		}
	}
	p.list = rest
	// The list is by handles, so alike ones stay by them.
	slices.SortStableFunc(due, func(x, y Due) int { return x.At - y.At })
	return due, api.OK
}

// wantNext tells what Next must answer.
func (p *plain) wantNext() (int, bool) {
	if len(p.list) == 0 {
		return 0, false
	}
	first := slices.MinFunc(p.list, func(x, y Due) int { return x.At - y.At })
	return first.At, true
}

// pair is a wheel, the plain list that it must be like, and what was called on both.
type pair struct {
	w      *Wheel
	p      plain
	called []string
}

// both tells a new wheel, and a plain list of nothing, at a tick.
func both(t *testing.T, now int) *pair {
	t.Helper()
	w, e := New(now)
	if w == nil || e != api.OK {
		t.Fatalf("New of %d: %v, error %d", now, w, e)
	}
	return &pair{w: w, p: plain{now: now}, called: []string{fmt.Sprint("New ", now)}}
}

// calls tells what was called, for what a test says.
func (b *pair) calls() string {
	return b.called[0] + " .. " + strings.Join(b.called[max(1, len(b.called)-12):], ", ")
}

// note keeps what is called.
func (b *pair) note(what string, args ...any) { b.called = append(b.called, what+fmt.Sprint(args...)) }

// set sets a timer in both, and holds the answers.
func (b *pair) set(t *testing.T, at, what int) {
	t.Helper()
	b.note("Set ", at, " ", what)
	want, wantE := b.p.wantSet(at, what)
	if got, e := b.w.Set(at, what); got != want || e != wantE {
		t.Errorf("%s: %d, error %d, not %d, error %d", b.calls(), got, e, want, wantE)
	}
}

// cancel cancels in both, and holds the answers.
func (b *pair) cancel(t *testing.T, handle int) {
	t.Helper()
	b.note("Cancel ", handle)
	want := b.p.wantOut(handle)
	if got := b.w.Cancel(handle); got != want {
		t.Errorf("%s: %v, not %v", b.calls(), got, want)
	}
}

// advance goes on in both, and holds the answers.
func (b *pair) advance(t *testing.T, to int) {
	t.Helper()
	b.note("Advance ", to)
	want, wantE := b.p.wantGo(to)
	if got, e := b.w.Advance(to); !slices.Equal(got, want) || e != wantE {
		t.Errorf("%s: %v, error %d, not %v, error %d", b.calls(), got, e, want, wantE)
	}
}

// holdBrief holds the tick, how many there are, and when the next is due.
func (b *pair) holdBrief(t *testing.T) {
	t.Helper()
	if got := b.w.Now(); got != b.p.now {
		t.Errorf("%s: Now %d, not %d", b.calls(), got, b.p.now)
	}
	if got := b.w.Len(); got != len(b.p.list) {
		t.Errorf("%s: Len %d, not %d", b.calls(), got, len(b.p.list))
	}
	want, wantOK := b.p.wantNext()
	if got, ok := b.w.Next(); got != want || ok != wantOK {
		t.Errorf("%s: Next %d %v, not %d %v", b.calls(), got, ok, want, wantOK)
	}
}

// noHandles are handles that no timer of these tests has.
var noHandles = []int{0, -1, -2, lowest, lowest + 1, 1 << 20, 1 << 32, 1<<32 + 1, highest - 1, highest}

// holdAll holds all that can be asked without a change.
func (b *pair) holdAll(t *testing.T) {
	t.Helper()
	b.holdBrief(t)
	for handle := 1; handle <= b.p.told+3; handle++ {
		want, wantOK := b.p.wantGet(handle)
		if got, ok := b.w.Get(handle); got != want || ok != wantOK {
			t.Errorf("%s: Get of %d: %v %v, not %v %v", b.calls(), handle, got, ok, want, wantOK)
		}
	}
	for _, handle := range noHandles {
		if got, ok := b.w.Get(handle); got != (Due{}) || ok {
			t.Errorf("%s: Get of %d: %v %v", b.calls(), handle, got, ok)
		}
	}
}

// end goes on to the last tick, and cancels what is left.
func (b *pair) end(t *testing.T) {
	t.Helper()
	b.advance(t, api.MaxTicks)
	b.holdBrief(t)
	for handle := 0; handle <= b.p.told+1; handle++ {
		b.cancel(t, handle)
	}
	b.holdBrief(t)
}

// borders are the ticks from 0 to top at which digits of any length turn over, and those beside them.
func borders(top int) []int {
	l := []int{0, 3, 100, 1000000, top}
	for p := 1; p <= top; p *= 2 {
		l = append(l, p-1, p, p+1, p+p/2, 2*p-p/8)
	}
	slices.Sort(l)
	l = slices.DeleteFunc(slices.Compact(l), func(x int) bool { return x > top })
	return l
}

// P8.1: a new wheel, and where there is none.
func TestNew(t *testing.T) {
	for _, now := range append(borders(api.MaxTicks), 0, 1, api.MaxTicks-1, api.MaxTicks) {
		b := both(t, now)
		b.holdAll(t)
	}
	for _, now := range []int{-1, -2, -api.MaxTicks, lowest, 1<<20 + 1, 1 << 21, 1 << 32, highest - 1, highest} {
		if w, e := New(now); w != nil || e != api.ErrArg {
			t.Errorf("New of %d: %v, error %d", now, w, e)
		}
	}
}

// P8.2: from which tick on, and up to which, a timer may be set.
func TestSetEdges(t *testing.T) {
	for _, now := range append(borders(api.MaxTicks), api.MaxTicks-1, api.MaxTicks) {
		b := both(t, now)
		for _, at := range []int{
			now, now - 1, now + 1, 0, -1, -now, lowest, lowest + now, wantLatest + 1, wantLatest, wantLatest - 1, wantLatest + now, now + 2,
			1<<32 + 1 + now, highest - now, highest, api.MaxTicks, api.MaxTicks + 1, 1,
		} {
			b.set(t, at, at/2)
			b.holdAll(t)
		}
		b.end(t)
	}
}

// P8.2: the same edges by hand, behind an Advance.
func TestSetEdgesByHand(t *testing.T) {
	w, _ := New(10)
	w.Advance(20)
	for _, c := range []struct {
		at, handle int
		e          api.Errno
	}{
		{20, 0, 1}, {19, 0, 1}, {11, 0, 1}, {0, 0, 1}, {-21, 0, 1}, {21, 1, 0}, {20, 0, 1}, {2097152, 2, 0}, {2097153, 0, 1}, {21, 3, 0}, {1048577, 4, 0}, {highest, 0, 1},
	} {
		if got, e := w.Set(c.at, 5); got != c.handle || e != c.e {
			t.Errorf("Set at %d: %d, error %d, not %d, error %d", c.at, got, e, c.handle, c.e)
		}
	}
}

// P8.3: to which ticks a wheel can go, and that what is refused changes nothing.
func TestAdvanceEdges(t *testing.T) {
	for _, now := range append(borders(api.MaxTicks), api.MaxTicks-1, api.MaxTicks) {
		b := both(t, now)
		b.set(t, now+1, 7)
		b.set(t, wantLatest, 8)
		for _, to := range []int{now - 1, lowest, -1, 1<<20 + 1, 1 << 21, wantLatest + 1, highest, 1<<32 + now + 1} {
			b.advance(t, to)
			b.holdAll(t)
		}
		b.advance(t, now)
		b.holdAll(t)
		b.advance(t, api.MaxTicks)
		b.holdAll(t)
		b.advance(t, api.MaxTicks)
		b.advance(t, api.MaxTicks-1)
		b.set(t, api.MaxTicks+1, 9)
		b.advance(t, api.MaxTicks+1)
		b.advance(t, api.MaxTicks)
		b.holdAll(t)
		b.end(t)
	}
}

// P8.3: the chapter's example, and what comes just then, just behind it, and never.
func TestAdvanceByHand(t *testing.T) {
	w, _ := New(0)
	w.Set(3, 7)
	w.Set(1048577, 8)
	w.Set(6, 9)
	w.Set(5, -1)
	w.Set(1048576, 6)
	w.Set(5, -2)
	for _, c := range []struct {
		to   int
		want []Due
		e    api.Errno
		next int
	}{
		{0, nil, 0, 3},
		{2, nil, 0, 3},
		{1, nil, 1, 3},
		{5, []Due{{3, 1, 7}, {5, 4, -1}, {5, 6, -2}}, 0, 6},
		{5, nil, 0, 6},
		{1048577, nil, 1, 6},
		{1048575, []Due{{6, 3, 9}}, 0, 1048576},
		{1048576, []Due{{1048576, 5, 6}}, 0, 1048577},
		{1048576, nil, 0, 1048577},
	} {
		if got, e := w.Advance(c.to); !slices.Equal(got, c.want) || e != c.e {
			t.Errorf("Advance to %d: %v, error %d, not %v, error %d", c.to, got, e, c.want, c.e)
		}
		if at, ok := w.Next(); at != c.next || !ok {
			t.Errorf("at %d: Next %d %v, not %d", c.to, at, ok, c.next)
		}
	}
	if x, ok := w.Get(2); x != (Due{1048577, 2, 8}) || !ok || w.Len() != 1 {
		t.Errorf("what never comes due: %v %v, Len %d", x, ok, w.Len())
	}
	if _, ok := w.Next(); !w.Cancel(2) || !ok {
		t.Error("what never comes due isn't there")
	}
	if at, ok := w.Next(); at != 0 || ok || w.Len() != 0 {
		t.Errorf("Next of nothing: %d %v", at, ok)
	}
}

// P8.2: handles go on, one by one, behind what was cancelled, came due and was refused.
func TestHandles(t *testing.T) {
	w, _ := New(5)
	for i, between := range []func(){
		func() {}, func() { w.Cancel(1) }, func() { w.Cancel(2); w.Cancel(2) }, func() { w.Advance(1000) }, func() { w.Set(0, 0); w.Set(highest, 0) }, func() { w.Cancel(5); w.Advance(0) },
		func() { w.Get(7); w.Next(); w.Len(); w.Now() }, func() { w.Advance(api.MaxTicks) },
	} {
		between()
		if got, e := w.Set(w.Now()+900, 5); got != i+1 || e != api.OK {
			t.Errorf("Set: %d, error %d, not %d", got, e, i+1)
		}
	}
}

// P8.1, P8.2: handles of which there is no timer, of a wheel of nothing, of some, of what came due and of what was cancelled.
func TestWrongHandles(t *testing.T) {
	for _, kind := range []string{"new", "some", "due", "cancelled"} {
		b := both(t, 7)
		if kind != "new" {
			for _, at := range []int{9, 8, 9000, 9} {
				b.set(t, at, at)
			}
		}
		wrong := append([]int{5, 6, 7, 8, 9}, noHandles...)
		switch kind {
		case "due":
			b.advance(t, 9)
			wrong = append(wrong, 1, 2, 4)
		case "cancelled":
			for _, handle := range []int{2, 1, 3} {
				b.cancel(t, handle)
				b.holdAll(t)
			}
			wrong = append(wrong, 1, 2, 3)
		}
		for _, handle := range wrong {
			if x, ok := b.w.Get(handle); x != (Due{}) || ok || b.w.Cancel(handle) {
				t.Errorf("%s: %d is of something: %v", kind, handle, x)
			}
		}
		b.holdAll(t)
		b.end(t)
	}
}

// P8.1: Next behind the Cancel of each timer, till there is none.
func TestNextBehindCancel(t *testing.T) {
	for _, l := range permutations(5) {
		b := both(t, 60)
		for _, i := range l {
			b.set(t, []int{61, 64, 64, 128, 4096}[i], i)
		}
		for handle := range 5 {
			b.holdAll(t)
			b.cancel(t, handle+1)
		}
		b.holdAll(t)
	}
}

// permutations tells all orders of places below n.
func permutations(n int) [][]int {
	if n == 0 {
		return [][]int{nil}
	}
	var all [][]int
	for _, l := range permutations(n - 1) {
		for at := range n {
			all = append(all, slices.Insert(slices.Clone(l), at, n-1))
		}
	}
	return all
}

// P8.1, P8.2, P8.3: a nil wheel, and one that nobody made, under each of the calls.
func TestNoWheel(t *testing.T) {
	var zero Wheel
	for name, w := range map[string]*Wheel{"nil": nil, "zero": &zero} {
		for range 2 {
			for _, tick := range []int{1, 0, -1, 7, api.MaxTicks, api.MaxTicks + 1, wantLatest, wantLatest + 1, lowest, highest} {
				if got, e := w.Set(tick, 2); got != 0 || e != api.ErrNil {
					t.Errorf("%s: Set at %d: %d, error %d", name, tick, got, e)
				}
				if got, e := w.Advance(tick); len(got) != 0 || e != api.ErrNil {
					t.Errorf("%s: Advance to %d: %v, error %d", name, tick, got, e)
				}
			}
			if w.Now() != 0 || w.Len() != 0 {
				t.Errorf("%s: Now %d, Len %d", name, w.Now(), w.Len())
			}
			if at, ok := w.Next(); at != 0 || ok {
				t.Errorf("%s: Next: %d %v", name, at, ok)
			}
			for _, handle := range append([]int{1, 2, 3}, noHandles...) {
				if x, ok := w.Get(handle); x != (Due{}) || ok || w.Cancel(handle) {
					t.Errorf("%s: %d is of something: %v", name, handle, x)
				}
			}
		}
	}
}

// steps tells each kind of call on few timers, close together.
func steps() []func(*testing.T, *pair) {
	var l []func(*testing.T, *pair)
	for _, at := range []int{62, 64, 65} {
		l = append(l, func(t *testing.T, b *pair) { b.set(t, at, 100+len(b.called)) })
	}
	for _, to := range []int{62, 63, 64, 128} {
		l = append(l, func(t *testing.T, b *pair) { b.advance(t, to) })
	}
	for handle := 1; handle <= 3; handle++ {
		l = append(l, func(t *testing.T, b *pair) { b.cancel(t, handle) })
	}
	return l
}

// P8.1, P8.2, P8.3: all rows of calls, up to so many, on a new wheel and on one that has timers.
func TestAllRows(t *testing.T) {
	l := steps()
	for _, ats := range [][]int{nil, {64, 62, 64}, {130, 128, 63}} {
		rows := 1
		for count := range 5 {
			for row := range rows {
				b := both(t, 61)
				for _, at := range ats {
					b.set(t, at, -at)
				}
				for range count {
					l[row%len(l)](t, b)
					b.holdBrief(t)
					row /= len(l)
				}
				b.holdAll(t)
				b.end(t)
				if t.Failed() {
					return
				}
			}
			rows *= len(l)
		}
	}
}

// P8.3: near and far timers set in all orders, some at one tick.
func TestAllOrders(t *testing.T) {
	for n := range 7 {
		for _, l := range permutations(n) {
			for _, ats := range [][]int{{5, 5, 5, 5, 5, 5}, {5, 5, 6, 6, 7, 7}, {5, 64, 65, 4100, 4100, 300000}, {4, 63, 64, 4095, 4096, 1048576}} {
				b := both(t, 3)
				for _, i := range l {
					b.set(t, ats[i], 10*i)
				}
				b.advance(t, 64)
				b.advance(t, 4100)
				b.end(t)
			}
		}
	}
}

// P8.2, P8.3: each of the timers that stand close together, and of those far apart, cancelled, ahead of an Advance and behind it.
func TestEachCancelled(t *testing.T) {
	for _, ats := range [][]int{{70, 70, 70, 70, 70}, {70, 71, 72, 73, 74}, {4096, 4097, 5000, 8191, 8192}, {66, 130, 5000, 300000, 2000000}} {
		for first := 1; first <= 5; first++ {
			for second := 1; second <= 5; second++ {
				for _, to := range []int{64, 65, 68, 72, 4096, 8190} {
					b := both(t, 64)
					for i, at := range ats {
						b.set(t, at, i)
					}
					b.cancel(t, first)
					b.advance(t, to)
					b.holdAll(t)
					b.cancel(t, second)
					b.set(t, to+3, 50)
					b.holdAll(t)
					b.end(t)
				}
			}
		}
	}
}

// P8.3, P8.4: from each border to each, timers at all of them, at once and with a halt at each border between.
func TestBorders(t *testing.T) {
	ticks, ats := borders(api.MaxTicks), borders(wantLatest)
	for _, now := range ticks {
		full := both(t, now)
		for _, at := range ats {
			full.set(t, at, -at)
		}
		full.holdAll(t)
		for _, to := range ticks {
			full.advance(t, to)
			full.holdBrief(t)
			b := both(t, now)
			for _, at := range ats {
				b.set(t, at, -at)
			}
			b.advance(t, to)
			b.holdBrief(t)
			b.advance(t, to+1)
			b.end(t)
		}
		full.holdAll(t)
		full.end(t)
		if t.Failed() {
			return
		}
	}
}

// P8.3: one timer, set at each border, behind a halt at another one, comes just then.
func TestOneTimer(t *testing.T) {
	ticks := borders(api.MaxTicks)
	for i, halt := range ticks {
		for _, at := range ticks[i+1:] {
			w, _ := New(halt / 2)
			w.Advance(halt)
			w.Set(at, 3)
			if l, e := w.Advance(at - 1); len(l) != 0 || e != api.OK || w.Len() != 1 {
				t.Errorf("from %d, set at %d: %v, error %d, a tick early", halt, at, l, e)
			}
			if l, e := w.Advance(at); !slices.Equal(l, []Due{{at, 1, 3}}) || e != api.OK || w.Len() != 0 {
				t.Errorf("from %d, set at %d: %v, error %d", halt, at, l, e)
			}
		}
	}
}

// P8.3: tick by tick from the first to the last, with several timers at each of many ticks, some of them set on the way.
func TestTickByTick(t *testing.T) {
	const step = 61
	w, _ := New(0)
	told := 0
	set := func(at int) {
		told++
		if got, e := w.Set(at, -at); got != told || e != api.OK {
			t.Fatalf("Set at %d: %d, error %d", at, got, e)
		}
	}
	for at := api.MaxTicks / step * step; at > 0; at -= step {
		set(at)
		set(at)
	}
	many := api.MaxTicks / step
	for now := 1; now <= api.MaxTicks; now++ {
		if now%step == 1 && now+step-1 <= api.MaxTicks {
			set(now + step - 1)
		}
		var want []Due
		if now%step == 0 {
			handle := 2*(many-now/step) + 1
			want = []Due{{now, handle, -now}, {now, handle + 1, -now}, {now, 2*many + now/step, -now}}
		}
		if got, e := w.Advance(now); !slices.Equal(got, want) || e != api.OK {
			t.Fatalf("Advance to %d: %v, error %d, not %v", now, got, e, want)
		}
	}
	if w.Len() != 0 || w.Now() != api.MaxTicks {
		t.Errorf("Len %d, Now %d", w.Len(), w.Now())
	}
}

// mixer tells numbers that look mixed, the same ones each time.
type mixer uint64

// next tells a number below n.
func (m *mixer) next(n int) int {
	*m = *m*6364136223846793005 + 1442695040888963407
	return int(uint64(*m) >> 33 % uint64(n))
}

// near tells how far ahead something may be: near ones as often as far ones.
func (m *mixer) near() int { return m.next(2 << m.next(21)) }

// P8.4: at once, or by steps of a length or of mixed ones, the same timers come in the same order, and the same are left.
func TestAtOnceOrBitByBit(t *testing.T) {
	for _, begin := range []int{0, 1, 4095, 700000} {
		for _, step := range []int{1, 2, 7, 63, 64, 65, 127, 128, 4095, 4096, 4097, 32768, 262143, 262144, 1000000, 0} {
			once, bits := both(t, begin).w, both(t, begin).w
			m := mixer(begin + step)
			for what := range 500 {
				at := min(begin+1+m.near(), wantLatest)
				once.Set(at, what)
				bits.Set(at, what)
			}
			end := min(begin+65536+200*step, api.MaxTicks)
			want, e := once.Advance(end)
			if e != api.OK || len(want) == 0 || !slices.IsSortedFunc(want, func(x, y Due) int { return (x.At-y.At)*1000 + x.Handle - y.Handle }) {
				t.Fatalf("from %d at once: %v, error %d", begin, want, e)
			}
			var got []Due
			for now := begin; now < end; {
				now = min(now+step, end)
				if step == 0 {
					now = min(now+m.near(), end)
				}
				l, e := bits.Advance(now)
				if e != api.OK {
					t.Fatalf("from %d by %d: error %d", begin, step, e)
				}
				got = append(got, l...)
			}
			if !slices.Equal(got, want) {
				t.Fatalf("from %d by %d: %v, not %v", begin, step, got, want)
			}
			holdAlike(t, once, bits)
		}
	}
}

// holdAlike holds that two wheels tell the same.
func holdAlike(t *testing.T, x, y *Wheel) {
	t.Helper()
	at, ok := x.Next()
	if other, too := y.Next(); at != other || ok != too || x.Now() != y.Now() || x.Len() != y.Len() {
		t.Errorf("not alike: at %d, %d timers, next %d; at %d, %d timers, next %d", x.Now(), x.Len(), at, y.Now(), y.Len(), other)
	}
	for handle := range 510 {
		this, ok := x.Get(handle)
		if other, too := y.Get(handle); this != other || ok != too {
			t.Errorf("not alike: %v and %v", this, other)
		}
	}
}

// P8.1, P8.2, P8.3: many timers set, cancelled and come due in turn, near and far, by small and great strides.
func TestMany(t *testing.T) {
	for i, stride := range []int{1, 3, 70, 700, 5000} {
		m, b := mixer(i), both(t, 37*i)
		for round := range 3000 {
			switch kind := m.next(12); {
			case kind < 5:
				b.set(t, b.p.now+m.near(), round)
			case kind < 6:
				b.set(t, b.p.now+1+m.next(3), round)
			case kind < 8:
				b.cancel(t, 1+m.next(b.p.told+3))
			case kind < 11:
				b.advance(t, b.p.now+m.next(stride+1))
			default:
				b.advance(t, b.p.now+m.near()/64)
			}
			b.holdBrief(t)
			if round%500 == 0 {
				b.holdAll(t)
			}
			if t.Failed() {
				return
			}
		}
		b.holdAll(t)
		b.end(t)
	}
}

// P8.3: many timers at one tick come by their handles, also where some are cancelled, and where they came near in parts.
func TestManyAtOneTick(t *testing.T) {
	for _, at := range []int{65, 128, 5000, 300000, api.MaxTicks} {
		b := both(t, 0)
		for round := range 500 {
			b.set(t, at, 500-round)
			b.set(t, at-round%3, round)
			if round%100 == 50 {
				b.advance(t, b.p.now+(at-b.p.now)/2)
			}
			if round%7 == 0 {
				b.cancel(t, round)
			}
		}
		b.advance(t, at-1)
		b.holdAll(t)
		b.advance(t, at)
		b.holdAll(t)
	}
}

// Rule 'Memory': what is told is the asker's own.
func TestAnswersAreCopies(t *testing.T) {
	w, _ := New(0)
	for what := range 4 {
		w.Set(10+10*(what/2), what)
	}
	got, _ := w.Get(3)
	got.At, got.What = 11, 99
	first, _ := w.Advance(10)
	kept := slices.Clone(first)
	for i := range first {
		first[i] = Due{}
	}
	_ = append(first, Due{At: 1}, Due{At: 2})
	second, _ := w.Advance(20)
	if !slices.Equal(kept, []Due{{10, 1, 0}, {10, 2, 1}}) || !slices.Equal(second, []Due{{20, 3, 2}, {20, 4, 3}}) || first[0] != (Due{}) {
		t.Errorf("told %v, then %v", kept, second)
	}
}

// P8.1, P8.2: each wheel has its own tick, timers and handles.
func TestApart(t *testing.T) {
	x, y := both(t, 3), both(t, 40)
	x.set(t, 50, 1)
	y.set(t, 60, 2)
	x.set(t, 60, 3)
	x.advance(t, 55)
	y.holdAll(t)
	y.cancel(t, 1)
	y.cancel(t, 2)
	x.holdAll(t)
	x.end(t)
	y.holdAll(t)
}
