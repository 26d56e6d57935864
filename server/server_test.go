package server

import (
	"cmp"
	"fmt"
	"math"
	"slices"
	"strings"
	"testing"

	"remontoire/api"
	"remontoire/supply"
)

// These are what the document says of the limits.
const (
	wantTicks  = 1048576
	wantPeriod = 1048576
)

// lowest and highest are the edges of an int.
const (
	lowest  = math.MinInt
	highest = math.MaxInt
)

// of tells a reservation.
func of(budget, period int) supply.Reserve { return supply.Reserve{Budget: budget, Period: period} }

// right are reservations that may be: ordinary ones, and the edges of both parts.
var right = []supply.Reserve{
	of(2, 5), of(3, 10), of(1, 7), of(7, 7), of(6, 7), of(37, 1000), of(4, 6),
	of(1, 1), of(1, 2), of(2, 2), of(1, 3), of(1, wantPeriod), of(2, wantPeriod), of(wantPeriod-1, wantPeriod), of(wantPeriod, wantPeriod), of(wantPeriod-1, wantPeriod-1), of(1, wantPeriod-1), of(65535, 65537),
}

// wrong are reservations that may not be.
var wrong = []supply.Reserve{
	{}, of(0, 1), of(0, 5), of(0, wantPeriod), of(-1, 5), of(-1, -1), of(-5, -2), of(lowest, 5), of(lowest, lowest), of(lowest, highest),
	of(1, 0), of(1, -1), of(1, lowest), of(2, 1), of(6, 5), of(highest, 5), of(wantPeriod+1, wantPeriod), of(highest, wantPeriod),
	of(1, wantPeriod+1), of(wantPeriod, wantPeriod+1), of(wantPeriod+1, wantPeriod+1), of(1, 1<<32), of(1<<32+1, 1<<32+5), of(1, highest), of(highest, highest),
}

// noTicks are numbers that no server may begin.
var noTicks = []int{-1, -2, -wantTicks, -1 << 32, lowest, lowest + 1, wantTicks + 1, wantTicks + 2, 2 * wantTicks, 1 << 32, highest - 1, highest}

// plain is the list of what a server's ticks are, against which its answers are held.
type plain struct {
	r       supply.Reserve
	tick    int
	avail   int
	chunks  []Chunk
	refills []Refill
	charged int
}

// note notes that what was run of a chunk comes back: by At, behind those of the same At.
func (p *plain) note(c Chunk) {
	if c.Used == 0 {
		return
	}
	p.refills = append(p.refills, Refill{At: c.Dead, Amount: c.Used})
	slices.SortStableFunc(p.refills, func(x, y Refill) int { return cmp.Compare(x.At, y.At) })
}

// begin tells what Begin must answer, and begins the tick of the list.
func (p *plain) begin(now int, ready bool) bool {
	if now < p.tick || now > wantTicks {
		return false
	}
	p.tick = now
	for _, x := range p.refills {
		if x.At <= now {
			p.avail += x.Amount
		}
	}
	p.refills = slices.DeleteFunc(p.refills, func(x Refill) bool { return x.At <= now })
	if !ready {
		for _, c := range p.chunks {
			p.avail += c.Left
			p.note(c)
		}
		p.chunks = nil
	} else if p.avail > 0 {
		p.chunks = append(p.chunks, Chunk{Left: p.avail, Used: 0, Dead: now + p.r.Period})
		p.avail = 0
	}
	return true
}

// run tells what Run must answer, and runs a tick of the list.
func (p *plain) run() bool {
	if len(p.chunks) == 0 {
		return false
	}
	p.charged++
	p.chunks[0].Left--
	p.chunks[0].Used++
	if first := p.chunks[0]; first.Left == 0 {
		p.chunks = slices.Delete(p.chunks, 0, 1)
		p.note(first)
	}
	return true
}

// dead tells what Dead must answer.
func (p *plain) dead() (int, bool) {
	for _, c := range p.chunks {
		return c.Dead, true
	}
	return 0, false
}

// late tells what Late must answer.
func (p *plain) late(now int) bool {
	return slices.ContainsFunc(p.chunks, func(c Chunk) bool { return c.Dead <= now })
}

// last tells what Last must answer.
func (p *plain) last() int {
	at := 0
	for _, x := range p.refills {
		at = max(at, x.At)
	}
	for _, c := range p.chunks {
		if c.Used > 0 {
			at = max(at, c.Dead)
		}
	}
	return at
}

// step is a call: of Run, or of Begin.
type step struct {
	runs  bool
	now   int
	ready bool
}

// String tells a step as it is called.
func (x step) String() string {
	if x.runs {
		return "Run"
	}
	return fmt.Sprintf("Begin %d, %v", x.now, x.ready)
}

// on and off tell a Begin of who is ready, and of who isn't.
func on(now int) step  { return step{now: now, ready: true} }
func off(now int) step { return step{now: now} }

// runs tells so many Runs.
func runs(n int) []step { return slices.Repeat([]step{{runs: true}}, n) }

// row tells steps in turn: each is a step, or several.
func row(parts ...any) []step {
	var l []step
	for _, part := range parts {
		switch x := part.(type) {
		case step:
			l = append(l, x)
		case []step:
			l = append(l, x...)
		}
	}
	return l
}

// pair is a server, the plain list that it must be like, and what was called on both.
type pair struct {
	s      *Server
	p      plain
	called []step
}

// pairOf tells a new server of a reservation, and its list.
func pairOf(t *testing.T, r supply.Reserve) *pair {
	t.Helper()
	s, e := New(r)
	if s == nil || e != api.OK {
		t.Fatalf("New of %v: error %d", r, e)
	}
	return &pair{s: s, p: plain{r: r, avail: r.Budget}}
}

// both tells a new server of a reservation, and its list, behind these steps, each of which is held.
func both(t *testing.T, r supply.Reserve, parts ...any) *pair {
	t.Helper()
	x := pairOf(t, r)
	x.hold(t)
	for _, y := range row(parts...) {
		x.step(t, y)
		x.hold(t)
	}
	return x
}

// calls tells what was called, for what a test says.
func (x *pair) calls() string {
	var b strings.Builder
	fmt.Fprint(&b, x.p.r)
	for _, y := range x.called[max(0, len(x.called)-16):] {
		b.WriteString(", " + y.String())
	}
	return b.String()
}

// step calls both, and holds the answers.
func (x *pair) step(t *testing.T, y step) bool {
	t.Helper()
	x.called = append(x.called, y)
	var got, want bool
	if y.runs {
		got, want = x.s.Run(), x.p.run()
	} else {
		got, want = x.s.Begin(y.now, y.ready), x.p.begin(y.now, y.ready)
	}
	if got != want {
		t.Errorf("%s: %v", x.calls(), got)
	}
	return got
}

// is calls both, and holds what is answered against what a test says.
func (x *pair) is(t *testing.T, y step, want bool) {
	t.Helper()
	if got := x.step(t, y); got != want {
		t.Errorf("%s: %v", x.calls(), got)
	}
	x.hold(t)
}

// hold holds all that the server tells, that its ticks are together its Budget, and that what it tells is no part of it.
func (x *pair) hold(t *testing.T) {
	t.Helper()
	avail, chunks, refills := x.s.Parts()
	if avail != x.p.avail || !slices.Equal(chunks, x.p.chunks) || !slices.Equal(refills, x.p.refills) {
		t.Errorf("%s: Parts %d, %v, %v, not %d, %v, %v", x.calls(), avail, chunks, refills, x.p.avail, x.p.chunks, x.p.refills)
	}
	if got := x.s.Reserve(); got != x.p.r {
		t.Errorf("%s: Reserve %v", x.calls(), got)
	}
	if got := x.s.Charged(); got != x.p.charged {
		t.Errorf("%s: Charged %d, not %d", x.calls(), got, x.p.charged)
	}
	if got, want := x.s.Last(), x.p.last(); got != want {
		t.Errorf("%s: Last %d, not %d", x.calls(), got, want)
	}
	got, ok := x.s.Dead()
	if want, wantOk := x.p.dead(); got != want || ok != wantOk {
		t.Errorf("%s: Dead %d, %v, not %d, %v", x.calls(), got, ok, want, wantOk)
	}
	x.holdLate(t)
	x.holdBudget(t, avail, chunks, refills)
	spoil(chunks, refills)
	if again, chunks, refills := x.s.Parts(); again != avail || !slices.Equal(chunks, x.p.chunks) || !slices.Equal(refills, x.p.refills) {
		t.Errorf("%s: Parts %d, %v, %v, when those told ahead were changed", x.calls(), again, chunks, refills)
	}
}

// holdLate holds Late far from all Deads, and about each of them.
func (x *pair) holdLate(t *testing.T) {
	t.Helper()
	same := func(now int) {
		if got, want := x.s.Late(now), x.p.late(now); got != want {
			t.Errorf("%s: Late %d: %v", x.calls(), now, got)
		}
	}
	for _, now := range []int{lowest, -1, 0, x.p.tick, wantTicks, highest} {
		same(now)
	}
	for _, c := range x.p.chunks {
		same(c.Dead - 1)
		same(c.Dead)
		same(c.Dead + 1)
	}
}

// holdBudget holds that all ticks are together the Budget, and that nothing of nothing is told.
func (x *pair) holdBudget(t *testing.T, avail int, chunks []Chunk, refills []Refill) {
	t.Helper()
	sum, empty := avail, avail < 0
	for _, c := range chunks {
		sum += c.Left + c.Used
		empty = empty || c.Left < 1 || c.Used < 0
	}
	for _, y := range refills {
		sum += y.Amount
		empty = empty || y.Amount < 1
	}
	if sum != x.p.r.Budget || empty {
		t.Errorf("%s: together %d: %d, %v, %v", x.calls(), sum, avail, chunks, refills)
	}
}

// spoil changes lists that were told, their spare room included.
func spoil(chunks []Chunk, refills []Refill) {
	chunks, refills = chunks[:cap(chunks)], refills[:cap(refills)]
	for i := range chunks {
		chunks[i] = Chunk{Left: -7, Used: -8, Dead: -9}
	}
	for i := range refills {
		refills[i] = Refill{At: -7, Amount: -8}
	}
}

// tells holds all three Parts against what a test says.
func (x *pair) tells(t *testing.T, avail int, chunks []Chunk, refills []Refill) {
	t.Helper()
	x.hold(t)
	if a, c, r := x.s.Parts(); a != avail || !slices.Equal(c, chunks) || !slices.Equal(r, refills) {
		t.Errorf("%s: %d, %v, %v, not %d, %v, %v", x.calls(), a, c, r, avail, chunks, refills)
	}
}

// says holds Dead (0: there is none), Last and Charged against what a test says.
func (x *pair) says(t *testing.T, dead, last, charged int) {
	t.Helper()
	x.hold(t)
	if d, ok := x.s.Dead(); d != dead || ok != (dead > 0) {
		t.Errorf("%s: Dead %d, %v, not %d", x.calls(), d, ok, dead)
	}
	if x.s.Last() != last || x.s.Charged() != charged {
		t.Errorf("%s: Last %d, Charged %d, not %d, %d", x.calls(), x.s.Last(), x.s.Charged(), last, charged)
	}
}

// The chapter's example; the limits are the document's.
func TestExample(t *testing.T) {
	if api.MaxTicks != wantTicks || api.MaxPeriod != wantPeriod {
		t.Error("limits")
	}
	s, e := New(of(2, 5))
	if e != api.OK || !s.Begin(0, true) || !s.Run() || !s.Begin(1, false) || !s.Begin(2, true) {
		t.Fatal(e)
	}
	if avail, chunks, refills := s.Parts(); avail != 0 || !slices.Equal(chunks, []Chunk{{Left: 1, Dead: 7}}) || !slices.Equal(refills, []Refill{{At: 5, Amount: 1}}) {
		t.Error(avail, chunks, refills)
	}
}

// P14.1.
func TestNew(t *testing.T) {
	for _, r := range right {
		x := both(t, r)
		x.tells(t, r.Budget, nil, nil)
		x.says(t, 0, 0, 0)
		// It is at tick 0.
		x.is(t, off(-1), false)
		x.is(t, on(-1), false)
		x.is(t, off(0), true)
		x.tells(t, r.Budget, nil, nil)
	}
	for _, r := range wrong {
		if s, e := New(r); s != nil || e != api.ErrArg {
			t.Errorf("New of %v: error %d", r, e)
		}
	}
	for _, from := range []int{-4, wantPeriod - 3} {
		for budget := from; budget < from+9; budget++ {
			for period := from; period < from+9; period++ {
				want := api.ErrArg
				if budget >= 1 && budget <= period && period <= wantPeriod {
					want = api.OK
				}
				if s, e := New(of(budget, period)); e != want || (s != nil) != (want == api.OK) {
					t.Errorf("New of %d, %d: error %d", budget, period, e)
				}
			}
		}
	}
}

// P14.1: what Parts tells is no part of the server, and none of what it told ahead; what is told stays when the server goes on.
func TestPartsApart(t *testing.T) {
	x := both(t, of(4, 10), on(0), runs(2), off(1), on(2), runs(1))
	_, chunks, refills := x.s.Parts()
	wasChunks, wasRefills := []Chunk{{Left: 1, Used: 1, Dead: 12}}, []Refill{{At: 10, Amount: 2}}
	if !slices.Equal(chunks, wasChunks) || !slices.Equal(refills, wasRefills) {
		t.Fatal(chunks, refills)
	}
	for _, y := range row(runs(1), on(5), on(10), runs(1), off(11), on(12), runs(3), off(30)) {
		x.step(t, y)
		x.hold(t)
		if !slices.Equal(chunks, wasChunks) || !slices.Equal(refills, wasRefills) {
			t.Errorf("%s: %v, %v", x.calls(), chunks, refills)
		}
	}
	x = both(t, of(3, 10), on(0), runs(1), off(1), on(1))
	_, chunks, refills = x.s.Parts()
	_, chunks2, refills2 := x.s.Parts()
	spoil(chunks, refills)
	if !slices.Equal(chunks2, []Chunk{{Left: 2, Dead: 11}}) || !slices.Equal(refills2, []Refill{{At: 10, Amount: 1}}) {
		t.Errorf("%s: %v, %v", x.calls(), chunks2, refills2)
	}
	// What is put behind what was told isn't seen.
	_, chunks, refills = x.s.Parts()
	_, _ = append(chunks, Chunk{Left: 9}), append(refills, Refill{At: 9})
	x.step(t, runs(1)[0])
	x.step(t, off(2))
	x.tells(t, 1, nil, []Refill{{At: 10, Amount: 1}, {At: 11, Amount: 1}})
}

// P14.1: Charged goes up with each Run that answers true, and with nothing else.
func TestCharged(t *testing.T) {
	x := both(t, of(2, 5))
	for i, y := range []struct {
		do   step
		want int
	}{
		{runs(1)[0], 0}, {off(0), 0}, {runs(1)[0], 0}, {on(0), 0}, {runs(1)[0], 1}, {on(0), 1}, {runs(1)[0], 2}, {runs(1)[0], 2}, {runs(1)[0], 2}, {on(4), 2}, {runs(1)[0], 2},
		{on(5), 2}, {runs(1)[0], 3}, {on(4), 3}, {off(6), 3}, {runs(1)[0], 3}, {on(7), 3}, {runs(1)[0], 4}, {runs(1)[0], 4}, {off(100), 4}, {on(wantTicks + 1), 4}, {on(100), 4}, {runs(1)[0], 5},
	} {
		x.step(t, y.do)
		x.hold(t)
		if got := x.s.Charged(); got != y.want {
			t.Errorf("%d: %s: Charged %d, not %d", i, x.calls(), got, y.want)
		}
	}
}

// P14.2: below 0, above MaxTicks, and below the tick there is nothing to begin, and nothing changes; the tick itself may be begun again.
func TestBeginTicks(t *testing.T) {
	for _, r := range []supply.Reserve{of(2, 5), of(1, 1), of(3, 3), of(1, wantPeriod), of(wantPeriod, wantPeriod)} {
		for _, tick := range []int{0, 1, 7, 1000, wantTicks - 1, wantTicks} {
			for _, ahead := range [][]step{row(off(tick)), row(on(tick)), row(on(tick), runs(1)), row(on(0), runs(1), on(tick))} {
				x := both(t, r, ahead)
				below := slices.DeleteFunc([]int{tick - 1, tick - 2, tick / 2, 0}, func(now int) bool { return now == tick })
				for _, now := range slices.Concat(noTicks, below) {
					x.is(t, on(now), false)
					x.is(t, off(now), false)
				}
				x.is(t, on(tick), true)
				x.is(t, off(tick), true)
				x.is(t, on(tick), true)
				x.is(t, on(tick+1), tick < wantTicks)
				x.is(t, off(wantTicks), true)
				x.is(t, on(wantTicks), true)
			}
		}
	}
}

// P14.2: the tick is what was begun last, not one that was refused.
func TestBeginRefused(t *testing.T) {
	for _, no := range []int{-1, 4, wantTicks + 1, highest} {
		x := both(t, of(2, 5), on(3), runs(1), off(5), on(no), off(no))
		x.tells(t, 1, nil, []Refill{{At: 8, Amount: 1}})
		x.is(t, on(5), true)
		x.tells(t, 0, []Chunk{{Left: 1, Dead: 10}}, []Refill{{At: 8, Amount: 1}})
	}
}

// P14.2: of the greatest tick, and the greatest Period; all ticks are there again once their chunk's Dead is begun.
func TestBeginGreatest(t *testing.T) {
	x := both(t, of(wantPeriod, wantPeriod), on(0), runs(3), off(1), on(1), runs(2))
	x.tells(t, 0, []Chunk{{Left: wantPeriod - 5, Used: 2, Dead: wantPeriod + 1}}, []Refill{{At: wantPeriod, Amount: 3}})
	x.is(t, on(wantTicks-1), true)
	x.is(t, on(wantTicks), true)
	x.tells(t, 0, []Chunk{{Left: wantPeriod - 5, Used: 2, Dead: wantPeriod + 1}, {Left: 3, Dead: 2 * wantPeriod}}, nil)
	x.is(t, off(wantTicks), true)
	x.tells(t, wantPeriod-2, nil, []Refill{{At: wantPeriod + 1, Amount: 2}})
	x.is(t, on(wantTicks), true)
	x.tells(t, 0, []Chunk{{Left: wantPeriod - 2, Dead: 2 * wantPeriod}}, []Refill{{At: wantPeriod + 1, Amount: 2}})
	x.says(t, 2*wantPeriod, wantPeriod+1, 5)
	// Of one chunk, all that there is.
	s, _ := New(of(wantPeriod, wantPeriod))
	s.Begin(0, true)
	for range wantPeriod {
		if dead, ok := s.Dead(); !ok || dead != wantPeriod || !s.Run() {
			t.Fatal(dead, ok)
		}
	}
	if avail, chunks, refills := s.Parts(); s.Run() || s.Charged() != wantPeriod || s.Last() != wantPeriod || avail != 0 || len(chunks) != 0 || !slices.Equal(refills, []Refill{{At: wantPeriod, Amount: wantPeriod}}) {
		t.Error(avail, chunks, refills)
	}
	s.Begin(wantTicks-1, true)
	if _, ok := s.Dead(); ok {
		t.Error("a tick ahead")
	}
	s.Begin(wantTicks, true)
	if avail, chunks, refills := s.Parts(); avail != 0 || !slices.Equal(chunks, []Chunk{{Left: wantPeriod, Dead: 2 * wantPeriod}}) || len(refills) != 0 {
		t.Error(avail, chunks, refills)
	}
}

// P14.2: ready, with something there, with nothing there, with chunks already, and twice at one tick.
func TestBeginReady(t *testing.T) {
	x := both(t, of(3, 10), on(2))
	x.tells(t, 0, []Chunk{{Left: 3, Dead: 12}}, nil)
	// Nothing is there: neither at the same tick nor later is there a chunk more, and the chunk's Dead stays.
	for _, now := range []int{2, 2, 3, 11, 12, 13, 40} {
		x.is(t, on(now), true)
		x.tells(t, 0, []Chunk{{Left: 3, Dead: 12}}, nil)
	}
	x = both(t, of(3, 10), on(2), runs(3), on(2), on(3), on(11))
	x.tells(t, 0, nil, []Refill{{At: 12, Amount: 3}})
	// What has come back is a chunk of its own, the last one, with chunks ahead that have something Used or not.
	x = both(t, of(3, 10), on(0), runs(1), off(1), on(3), on(10))
	x.tells(t, 0, []Chunk{{Left: 2, Dead: 13}, {Left: 1, Dead: 20}}, nil)
	x = both(t, of(3, 10), on(0), runs(1), off(1), on(3), runs(1), on(9), on(10), on(10))
	x.tells(t, 0, []Chunk{{Left: 1, Used: 1, Dead: 13}, {Left: 1, Dead: 20}}, nil)
	// Twice at one tick, not ready between: the same Dead again, for all that isn't Used.
	x = both(t, of(3, 10), on(4), runs(1), off(4), on(4))
	x.tells(t, 0, []Chunk{{Left: 2, Dead: 14}}, []Refill{{At: 14, Amount: 1}})
	x = both(t, of(3, 10), on(4), off(4), on(4))
	x.tells(t, 0, []Chunk{{Left: 3, Dead: 14}}, nil)
}

// P14.2: not ready, with nothing there, with something there, and with chunks of which nothing or something was Used.
func TestBeginNotReady(t *testing.T) {
	for _, now := range []int{0, 1, 9, 10, 11, wantTicks} {
		both(t, of(3, 10), off(now)).tells(t, 3, nil, nil)
		both(t, of(3, 10), on(0), off(now)).tells(t, 3, nil, nil)
		both(t, of(3, 10), on(0), off(now), off(now)).tells(t, 3, nil, nil)
		// A refill that is noted comes back not before another Begin, however late it is.
		both(t, of(3, 10), on(0), runs(1), off(now)).tells(t, 2, nil, []Refill{{At: 10, Amount: 1}})
		x := both(t, of(3, 10), on(0), runs(3), off(now))
		if now < 10 {
			x.tells(t, 0, nil, []Refill{{At: 10, Amount: 3}})
		} else {
			x.tells(t, 3, nil, nil)
		}
	}
	// Of several chunks, in order.
	x := both(t, of(6, 10), on(0), runs(1), off(1), on(2), runs(1), off(3), on(4), on(10), on(12))
	x.tells(t, 0, []Chunk{{Left: 4, Dead: 14}, {Left: 1, Dead: 20}, {Left: 1, Dead: 22}}, nil)
	both(t, of(6, 10), x.called, off(12)).tells(t, 6, nil, nil)
	both(t, of(6, 10), x.called, runs(1), off(12)).tells(t, 5, nil, []Refill{{At: 14, Amount: 1}})
	both(t, of(6, 10), x.called, runs(4), off(13)).tells(t, 2, nil, []Refill{{At: 14, Amount: 4}})
	both(t, of(6, 10), x.called, runs(5), off(13)).tells(t, 1, nil, []Refill{{At: 14, Amount: 4}, {At: 20, Amount: 1}})
	both(t, of(6, 10), x.called, runs(5), off(13), off(14)).tells(t, 5, nil, []Refill{{At: 20, Amount: 1}})
	both(t, of(6, 10), x.called, runs(6), off(13)).tells(t, 0, nil, []Refill{{At: 14, Amount: 4}, {At: 20, Amount: 1}, {At: 22, Amount: 1}})
	// Refills first, then what is left: what comes back at this tick is there at once, what was Used isn't.
	both(t, of(6, 10), x.called, runs(5), off(14)).tells(t, 5, nil, []Refill{{At: 20, Amount: 1}})
	both(t, of(6, 10), x.called, runs(2), off(14)).tells(t, 4, nil, []Refill{{At: 14, Amount: 2}})
	both(t, of(6, 10), x.called, runs(2), off(14), on(14)).tells(t, 0, []Chunk{{Left: 6, Dead: 24}}, nil)
}

// P14.2: refills whose At is above, at and below now, one and several at once.
func TestRefills(t *testing.T) {
	// Of four ticks, each run of a chunk of its own, one comes back at 10, one at 12 and two at 13.
	ahead := row(on(0), runs(1), off(1), on(2), runs(1), off(3), on(3), runs(1), off(3), on(3), runs(1), off(4))
	both(t, of(4, 10), ahead).tells(t, 0, nil, []Refill{{At: 10, Amount: 1}, {At: 12, Amount: 1}, {At: 13, Amount: 1}, {At: 13, Amount: 1}})
	for _, y := range []struct {
		now, avail int
		later      []Refill
	}{
		{4, 0, []Refill{{At: 10, Amount: 1}, {At: 12, Amount: 1}, {At: 13, Amount: 1}, {At: 13, Amount: 1}}}, {9, 0, []Refill{{At: 10, Amount: 1}, {At: 12, Amount: 1}, {At: 13, Amount: 1}, {At: 13, Amount: 1}}},
		{10, 1, []Refill{{At: 12, Amount: 1}, {At: 13, Amount: 1}, {At: 13, Amount: 1}}}, {11, 1, []Refill{{At: 12, Amount: 1}, {At: 13, Amount: 1}, {At: 13, Amount: 1}}},
		{12, 2, []Refill{{At: 13, Amount: 1}, {At: 13, Amount: 1}}}, {13, 4, nil}, {14, 4, nil}, {wantTicks, 4, nil},
	} {
		both(t, of(4, 10), ahead, off(y.now)).tells(t, y.avail, nil, y.later)
		both(t, of(4, 10), ahead, off(y.now), off(y.now)).tells(t, y.avail, nil, y.later)
		var chunks []Chunk
		if y.avail > 0 {
			chunks = []Chunk{{Left: y.avail, Dead: y.now + 10}}
		}
		both(t, of(4, 10), ahead, on(y.now)).tells(t, 0, chunks, y.later)
		both(t, of(4, 10), ahead, on(y.now), on(y.now)).tells(t, 0, chunks, y.later)
	}
	// One by one, each is a chunk with a Dead of its own, but for those that come back at once.
	x := both(t, of(4, 10), ahead, on(9), on(10), on(11), on(12), on(13), on(14))
	x.tells(t, 0, []Chunk{{Left: 1, Dead: 20}, {Left: 1, Dead: 22}, {Left: 2, Dead: 23}}, nil)
}

// P14.2: refills of alike At stand in the order in which they were noted, whether by a Run or by a Begin.
func TestRefillsAlike(t *testing.T) {
	x := both(t, of(9, 10), on(1), runs(3), off(1), on(1), runs(1), off(1), on(1), runs(2), off(1), on(1), runs(3))
	x.tells(t, 0, nil, []Refill{{At: 11, Amount: 3}, {At: 11, Amount: 1}, {At: 11, Amount: 2}, {At: 11, Amount: 3}})
	both(t, of(9, 10), x.called, off(10)).tells(t, 0, nil, []Refill{{At: 11, Amount: 3}, {At: 11, Amount: 1}, {At: 11, Amount: 2}, {At: 11, Amount: 3}})
	both(t, of(9, 10), x.called, off(11)).tells(t, 9, nil, nil)
	x = both(t, of(9, 10), on(1), runs(2), off(1), on(1), runs(5), off(2), on(2), runs(1), off(2), on(2), runs(1))
	x.tells(t, 0, nil, []Refill{{At: 11, Amount: 2}, {At: 11, Amount: 5}, {At: 12, Amount: 1}, {At: 12, Amount: 1}})
	both(t, of(9, 10), x.called, on(11)).tells(t, 0, []Chunk{{Left: 7, Dead: 21}}, []Refill{{At: 12, Amount: 1}, {At: 12, Amount: 1}})
}

// P14.3: Run with no chunk changes nothing; of one before a chunk's last tick, of its last one, and of a second chunk.
func TestRun(t *testing.T) {
	for _, ahead := range [][]step{nil, row(off(0)), row(on(0), off(3)), row(on(0), runs(1), off(3)), row(on(0), runs(3)), row(on(0), runs(3), on(9))} {
		x := both(t, of(3, 10), ahead)
		avail, _, refills := x.s.Parts()
		was := x.s.Charged()
		for range 3 {
			x.is(t, runs(1)[0], false)
			x.tells(t, avail, nil, refills)
			x.says(t, 0, x.p.last(), was)
		}
	}
	x := both(t, of(3, 10), on(2))
	x.is(t, runs(1)[0], true)
	x.tells(t, 0, []Chunk{{Left: 2, Used: 1, Dead: 12}}, nil)
	x.is(t, runs(1)[0], true)
	x.tells(t, 0, []Chunk{{Left: 1, Used: 2, Dead: 12}}, nil)
	x.is(t, runs(1)[0], true)
	x.tells(t, 0, nil, []Refill{{At: 12, Amount: 3}})
	x.is(t, runs(1)[0], false)
	// The least budget: a chunk's first tick is its last one.
	x = both(t, of(1, 1), on(0), runs(1))
	x.tells(t, 0, nil, []Refill{{At: 1, Amount: 1}})
	both(t, of(1, 1), x.called, on(1)).tells(t, 0, []Chunk{{Left: 1, Dead: 2}}, nil)
	// The first chunk wholly, and then the second one, and the third.
	x = both(t, of(4, 10), on(0), runs(1), off(1), on(1), runs(1), off(2), on(3), on(10), on(11))
	x.tells(t, 0, []Chunk{{Left: 2, Dead: 13}, {Left: 1, Dead: 20}, {Left: 1, Dead: 21}}, nil)
	for i, y := range []struct {
		chunks  []Chunk
		refills []Refill
	}{
		{[]Chunk{{Left: 1, Used: 1, Dead: 13}, {Left: 1, Dead: 20}, {Left: 1, Dead: 21}}, nil},
		{[]Chunk{{Left: 1, Dead: 20}, {Left: 1, Dead: 21}}, []Refill{{At: 13, Amount: 2}}},
		{[]Chunk{{Left: 1, Dead: 21}}, []Refill{{At: 13, Amount: 2}, {At: 20, Amount: 1}}},
		{nil, []Refill{{At: 13, Amount: 2}, {At: 20, Amount: 1}, {At: 21, Amount: 1}}},
	} {
		x.is(t, runs(1)[0], true)
		x.tells(t, 0, y.chunks, y.refills)
		if x.s.Charged() != i+3 {
			t.Errorf("%s: Charged %d", x.calls(), x.s.Charged())
		}
	}
	x.is(t, runs(1)[0], false)
}

// P14.3: a tick that is run behind its Dead comes back at once, but not before another Begin.
func TestRunLate(t *testing.T) {
	for _, now := range []int{9, 10, 11, 1000} {
		x := both(t, of(2, 10), on(0), on(now), runs(2))
		x.tells(t, 0, nil, []Refill{{At: 10, Amount: 2}})
		x.is(t, runs(1)[0], false)
		x.is(t, on(max(10, now)), true)
		x.tells(t, 0, []Chunk{{Left: 2, Dead: max(10, now) + 10}}, nil)
	}
}

// P14.3: Dead and Last with nothing, with chunks of which nothing was Used, with refills, and with both.
func TestDeadLast(t *testing.T) {
	both(t, of(4, 10)).says(t, 0, 0, 0)
	both(t, of(4, 10), off(7)).says(t, 0, 0, 0)
	both(t, of(4, 10), on(7)).says(t, 17, 0, 0)
	both(t, of(4, 10), on(7), off(8)).says(t, 0, 0, 0)
	both(t, of(4, 10), on(7), runs(1)).says(t, 17, 17, 1)
	both(t, of(4, 10), on(7), runs(1), off(8)).says(t, 0, 17, 1)
	both(t, of(4, 10), on(7), runs(4)).says(t, 0, 17, 4)
	// The refill is later than now, at now, and there.
	both(t, of(4, 10), on(7), runs(4), off(16)).says(t, 0, 17, 4)
	both(t, of(4, 10), on(7), runs(1), off(17)).says(t, 0, 17, 1)
	both(t, of(4, 10), on(7), runs(1), off(17), off(17)).says(t, 0, 0, 1)
	both(t, of(4, 10), on(7), runs(4), off(17)).says(t, 0, 0, 4)
	both(t, of(4, 10), on(7), runs(4), on(17)).says(t, 27, 0, 4)
	// A refill, and a chunk behind it of which nothing was Used, and then something.
	x := both(t, of(4, 10), on(0), runs(2), off(1), on(3))
	x.says(t, 13, 10, 2)
	both(t, of(4, 10), x.called, runs(1)).says(t, 13, 13, 3)
	both(t, of(4, 10), x.called, runs(2)).says(t, 0, 13, 4)
	// Two chunks; the last one has nothing Used till the first one is no more.
	x = both(t, of(4, 10), x.called, on(10))
	x.says(t, 13, 0, 2)
	both(t, of(4, 10), x.called, runs(1)).says(t, 13, 13, 3)
	both(t, of(4, 10), x.called, runs(2)).says(t, 20, 13, 4)
	both(t, of(4, 10), x.called, runs(3)).says(t, 20, 20, 5)
	both(t, of(4, 10), x.called, runs(3), off(11)).says(t, 0, 20, 5)
	both(t, of(4, 10), x.called, runs(4), on(13)).says(t, 23, 20, 6)
	// Alike: a refill, and a chunk of the same Dead, with something Used or not.
	x = both(t, of(4, 10), on(5), runs(1), off(5), on(5))
	x.says(t, 15, 15, 1)
	both(t, of(4, 10), x.called, runs(1)).says(t, 15, 15, 2)
	// The greatest.
	both(t, of(2, wantPeriod), on(wantTicks), runs(1)).says(t, 2*wantPeriod, 2*wantPeriod, 1)
	both(t, of(2, wantPeriod), on(wantTicks), runs(2)).says(t, 0, 2*wantPeriod, 2)
}

// P14.3: Late below, at and above a Dead; of one chunk, of several, and of none.
func TestLate(t *testing.T) {
	// from is the least number at which it must be Late; none: 0.
	same := func(x *pair, from int) {
		t.Helper()
		x.hold(t)
		for _, now := range []int{lowest, -1, 0, 1, 9, 10, 11, 12, 13, 14, 19, 20, 21, 22, wantTicks, wantTicks + 1, 1 << 32, highest} {
			if got, want := x.s.Late(now), from > 0 && now >= from; got != want {
				t.Errorf("%s: Late %d: %v", x.calls(), now, got)
			}
		}
	}
	same(both(t, of(2, 10)), 0)
	same(both(t, of(2, 10), on(0)), 10)
	same(both(t, of(2, 10), on(0), runs(1)), 10)
	same(both(t, of(2, 10), on(0), runs(2)), 0)
	same(both(t, of(2, 10), on(0), runs(1), off(1)), 0)
	same(both(t, of(2, 10), on(3)), 13)
	x := both(t, of(2, 10), on(0), runs(1), off(1), on(3), on(10))
	x.tells(t, 0, []Chunk{{Left: 1, Dead: 13}, {Left: 1, Dead: 20}}, nil)
	same(x, 13)
	same(both(t, of(2, 10), x.called, runs(1)), 20)
	same(both(t, of(2, 10), x.called, runs(2)), 0)
	same(both(t, of(2, 10), x.called, off(10)), 0)
	// It hangs on what is asked, not on the tick.
	same(both(t, of(2, 10), on(0), on(500)), 10)
	if y := both(t, of(1, wantPeriod), on(wantTicks)); y.s.Late(2*wantPeriod-1) || !y.s.Late(2*wantPeriod) {
		t.Error("of the greatest Dead")
	}
}

// A nil server has nothing.
func TestNil(t *testing.T) {
	var s *Server
	for _, now := range slices.Concat(noTicks, []int{0, 1, 100, wantTicks - 1, wantTicks}) {
		for _, ready := range []bool{false, true} {
			if s.Begin(now, ready) || s.Late(now) || s.Run() {
				t.Errorf("at %d, %v", now, ready)
			}
		}
		if dead, ok := s.Dead(); dead != 0 || ok {
			t.Errorf("Dead %d, %v", dead, ok)
		}
		if avail, chunks, refills := s.Parts(); avail != 0 || len(chunks) != 0 || len(refills) != 0 {
			t.Errorf("Parts %d, %v, %v", avail, chunks, refills)
		}
		if s.Reserve() != (supply.Reserve{}) || s.Charged() != 0 || s.Last() != 0 {
			t.Errorf("Reserve %v, Charged %d, Last %d", s.Reserve(), s.Charged(), s.Last())
		}
	}
}

// P14.1 to P14.3: each server has its own ticks.
func TestApart(t *testing.T) {
	x, y := both(t, of(3, 10), on(4), runs(1), off(5), on(6)), both(t, of(3, 10), on(1), runs(2))
	y.tells(t, 0, []Chunk{{Left: 1, Used: 2, Dead: 11}}, nil)
	x.tells(t, 0, []Chunk{{Left: 2, Dead: 16}}, []Refill{{At: 14, Amount: 1}})
	x.is(t, off(100), true)
	y.is(t, on(2), true)
	y.says(t, 11, 11, 2)
	x.says(t, 0, 0, 1)
}

// steps tells each kind of call near the tick.
func (x *pair) steps() []step {
	l := runs(1)
	for _, more := range []int{-1, 0, 1, 2, x.p.r.Period} {
		l = append(l, on(x.p.tick+more), off(x.p.tick+more))
	}
	return l
}

// P14.1 to P14.3: all rows of up to five calls on a new server, and of up to four behind others with which there are chunks and refills.
func TestAllRows(t *testing.T) {
	for _, y := range []struct {
		r     supply.Reserve
		ahead []step
		most  int
	}{
		{of(2, 3), nil, 5},
		{of(1, 1), nil, 4},
		{of(4, 5), row(on(0), runs(1), off(1), on(1), runs(2)), 4},
		{of(4, 4), row(on(0), runs(1), off(1), on(2), runs(1), off(3), on(4), on(6)), 4},
		{of(5, 6), row(on(0), runs(1), off(0), on(0), runs(1), off(1), on(1), runs(2), off(4), on(4)), 4},
	} {
		kinds, rows := len(pairOf(t, y.r).steps()), 1
		for range y.most {
			rows *= kinds
		}
		for nth := range rows {
			x := pairOf(t, y.r)
			for _, ahead := range y.ahead {
				x.step(t, ahead)
			}
			// Some of these are refused, so shorter rows are among them.
			for range y.most {
				x.step(t, x.steps()[nth%kinds])
				nth /= kinds
			}
			x.hold(t)
			if t.Failed() {
				return
			}
		}
	}
}

// mixed tells numbers that look mixed, the same ones each time.
type mixed uint64

// some tells a number below most.
func (m *mixed) some(most int) int {
	*m = *m*6364136223846793005 + 1442695040888963407
	return int(*m >> 33 % mixed(most))
}

// any tells a call near the tick: mostly right ones, and a few that are refused.
func (m *mixed) any(x *pair, span int) step {
	switch m.some(12) {
	case 0, 1, 2, 3:
		return runs(1)[0]
	case 4, 5, 6:
		return on(x.p.tick + m.some(span))
	case 7, 8, 9:
		return off(x.p.tick + m.some(span))
	case 10:
		return step{now: noTicks[m.some(len(noTicks))], ready: m.some(2) == 0}
	}
	return step{now: x.p.tick - m.some(3), ready: m.some(2) == 0}
}

// P14.1 to P14.3: many calls in turn, right ones and wrong ones, of many reservations, with short and long ways between the ticks.
func TestMany(t *testing.T) {
	for round := range 120 {
		m := mixed(round)
		period := 1 + m.some(1<<(1+m.some(20)))
		x := both(t, of(1+m.some(period), period))
		if round%2 == 0 {
			x = both(t, of(1+m.some(min(40, period)), period))
		}
		span := 1 + m.some(1+min(period, 1+round))
		for range 700 {
			y := m.any(x, span)
			if y.runs {
				for range m.some(1 + min(x.p.r.Budget, 30)) {
					x.step(t, y)
				}
			}
			x.step(t, y)
			x.hold(t)
			if t.Failed() {
				return
			}
		}
	}
}

// P14.2, P14.3: all ticks there are, one by one, of who is ready now and then and runs mostly.
func TestAllTicks(t *testing.T) {
	for _, r := range []supply.Reserve{of(3, 7), of(50, 64), of(300, 1000)} {
		x, m := pairOf(t, r), mixed(r.Period)
		for now := range wantTicks + 1 {
			x.called = x.called[:0]
			x.step(t, step{now: now, ready: m.some(9) > 0})
			if m.some(5) > 0 {
				x.step(t, runs(1)[0])
			}
			if now%4096 == 0 || now > wantTicks-3 {
				x.hold(t)
			}
			if t.Failed() {
				return
			}
		}
		if x.step(t, on(wantTicks+1)) || x.s.Charged() < wantTicks/r.Period*r.Budget/2 {
			t.Errorf("%v: Charged %d", r, x.s.Charged())
		}
	}
}

// most tells what a reservation's Most must be, by the words of P4.2.
func most(r supply.Reserve, ticks int) int {
	return r.Budget * ((ticks+r.Period-1)/r.Period + 1)
}

// count goes through ticks side by side from some tick on, each begun once, and run once at most, and tells behind each how many were run till then. How each tick goes is handed in: not ready, ready, ready and run.
func count(s *Server, from int, how []int) []int {
	l := []int{0}
	for i, h := range how {
		n := l[i]
		if s.Begin(from+i, h > 0) && h > 1 && s.Run() {
			n++
		}
		l = append(l, n)
	}
	return l
}

// holdMost holds each of some ticks side by side against Most, and tells whether one of them reaches it.
func holdMost(t *testing.T, r supply.Reserve, l []int) bool {
	t.Helper()
	reached := false
	for from := range l {
		for to := from; to < len(l); to++ {
			n := l[to] - l[from]
			if n > most(r, to-from) || n > r.Most(to-from) {
				t.Errorf("%v: %d run in %d ticks", r, n, to-from)
			}
			reached = reached || n == most(r, to-from)
		}
	}
	return reached
}

// P14.4: all ways in which some first ticks may go.
func TestMostAllWays(t *testing.T) {
	const ticks = 9
	for period := 1; period <= 4; period++ {
		for budget := 1; budget <= period; budget++ {
			r, how := of(budget, period), make([]int, ticks)
			for nth := range 19683 { // 3 to the power of the ticks
				for i := range how {
					how[i], nth = nth%3, nth/3
				}
				s, _ := New(r)
				holdMost(t, r, count(s, 0, how))
				if t.Failed() {
					return
				}
			}
		}
	}
}

// P14.4: behind anything else that was called: many ticks begun, begun more than once, left out, and run more than once.
func TestMostBehind(t *testing.T) {
	how := make([]int, 60)
	for round := range 6000 {
		m := mixed(round)
		period := 1 + m.some(12)
		x := pairOf(t, of(1+m.some(period), period))
		for range m.some(40) {
			x.step(t, m.any(x, 1+round%7*3))
		}
		often := 2 + m.some(12)
		for i := range how {
			how[i] = 2
			if m.some(often) == 0 {
				how[i] = m.some(3)
			}
		}
		holdMost(t, x.p.r, count(x.s, x.p.tick+m.some(2), how))
		x.called = append(x.called, on(0))
		if t.Failed() {
			t.Fatal(x.calls(), how)
		}
	}
}

// P14.4: ready and run throughout, of great reservations, each tick that there is.
func TestMostThroughout(t *testing.T) {
	for _, r := range []supply.Reserve{of(2, 5), of(1, 1), of(999, 1000), of(1000, 1000), of(65535, 65537), of(12345, wantPeriod/2), of(wantPeriod-1, wantPeriod), of(wantPeriod, wantPeriod)} {
		s, _ := New(r)
		l := count(s, 0, slices.Repeat([]int{2}, wantTicks+1))
		if l[wantTicks+1] != s.Charged() {
			t.Errorf("%v: %d, not %d", r, s.Charged(), l[wantTicks+1])
		}
		for _, ticks := range []int{0, 1, 2, 3, r.Budget, r.Period - 1, r.Period, min(r.Period+1, wantTicks), wantTicks / 3, wantTicks / 2, wantTicks - 1, wantTicks} {
			for from := 0; from+ticks < len(l); from++ {
				if n := l[from+ticks] - l[from]; n > most(r, ticks) {
					t.Fatalf("%v: %d run in %d ticks from %d on", r, n, ticks, from)
				}
			}
			// No less either, as nothing is held up: a Budget in each Period, as its chunk is made at once when it is back.
			if n := l[ticks]; n != ticks/r.Period*r.Budget+min(ticks%r.Period, r.Budget) {
				t.Errorf("%v: %d run in %d ticks", r, n, ticks)
			}
		}
	}
}

// P14.4: Most is reached where ticks are run behind their Dead, or just ahead of it; one more never is.
func TestMostReached(t *testing.T) {
	for _, y := range []struct {
		r     supply.Reserve
		ahead []step
		from  int
		ticks int
	}{
		{of(1, 5), row(on(0)), 6, 2}, {of(1, 5), row(on(0)), 4, 2}, {of(2, 5), row(on(0)), 6, 4}, {of(2, 5), row(on(0)), 3, 4}, {of(2, 5), row(on(0)), 3, 10}, {of(2, 5), row(on(0)), 3, 59}, {of(3, 10), row(on(0)), 7, 6}, {of(37, 1000), row(on(0)), 963, 74},
	} {
		x := both(t, y.r, y.ahead)
		l := count(x.s, y.from, slices.Repeat([]int{2}, y.ticks))
		reached := holdMost(t, y.r, l)
		if y.ticks <= 2*y.r.Budget && (!reached || l[y.ticks] != y.r.Most(y.ticks)) {
			t.Errorf("%v: %d run in %d ticks, not %d", y.r, l[y.ticks], y.ticks, y.r.Most(y.ticks))
		}
	}
}
