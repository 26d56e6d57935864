package irq

import (
	"fmt"
	"math"
	"slices"
	"strings"
	"testing"

	"remontoire/api"
)

// wantMost is what P10.1 says of how many lines there may be.
const wantMost = 8

// far are numbers that are of no line, whatever the controller.
var far = []int{math.MinInt, math.MinInt + 1, -1 << 32, -wantMost, -2, -1, wantMost, wantMost + 1, 255, 256, 1 << 32, 1<<32 + 1, math.MaxInt - 1, math.MaxInt}

// plain is a list of lines, against which a controller's answers are held.
type plain []State

// at tells the line of a number; nil: there is none.
func (p plain) at(line int) *State {
	for i := range p {
		if i == line {
			return &p[i]
		}
	}
	return nil
}

// wantRaise tells what Raise must answer, and raises the line of the list.
func (p plain) wantRaise(line int) api.Errno {
	x := p.at(line)
	switch {
	case x == nil:
		return api.ErrArg
	case x.Raised:
		x.Dropped++
		return api.ErrTwice
	}
	x.Raised = true
	return api.OK
}

// wantMask tells what Mask must answer, and masks the line of the list.
func (p plain) wantMask(line int, held bool) api.Errno {
	x := p.at(line)
	if x == nil {
		return api.ErrArg
	}
	x.Masked = held
	return api.OK
}

// wantAck tells what Ack must answer, and acknowledges the line of the list.
func (p plain) wantAck(line int) api.Errno {
	x := p.at(line)
	switch {
	case x == nil:
		return api.ErrArg
	case !x.Served:
		return api.ErrState
	}
	x.Served = false
	return api.OK
}

// wantNext tells what Next must answer, and serves the line of the list.
func (p plain) wantNext() (int, bool) {
	line := slices.IndexFunc(p, func(x State) bool { return x.Raised && !x.Masked && !x.Served })
	if line < 0 {
		return 0, false
	}
	p[line].Raised, p[line].Served = false, true
	return line, true
}

// counts is how often a line was told, raised with OK and acknowledged with OK: in all, and behind its last telling.
type counts struct {
	told, raised, acked       int
	raisedBehind, ackedBehind int
}

// pair is a controller, the plain list that it must be like, what was called on both, and what the controller answered of each line.
type pair struct {
	c      *Controller
	p      plain
	called []string
	n      []counts
}

// both tells a new controller, and a plain list of as many lines.
func both(t *testing.T, n int) *pair {
	t.Helper()
	c, e := New(n)
	if c == nil || e != api.OK {
		t.Fatalf("New of %d: %v, error %d", n, c, e)
	}
	b := &pair{c: c, called: []string{fmt.Sprint("New ", n)}, n: make([]counts, n)}
	for range n {
		b.p = append(b.p, State{Masked: true})
	}
	return b
}

// calls tells what was called, for what a test says.
func (b *pair) calls() string {
	return b.called[0] + " .. " + strings.Join(b.called[max(1, len(b.called)-16):], ", ")
}

// note keeps what is called.
func (b *pair) note(what string, args ...any) { b.called = append(b.called, what+fmt.Sprint(args...)) }

// same holds an error.
func (b *pair) same(t *testing.T, got, want api.Errno) {
	t.Helper()
	if got != want {
		t.Errorf("%s: error %d, not %d", b.calls(), got, want)
	}
}

// raise raises a line of both, and holds the answers.
func (b *pair) raise(t *testing.T, line int) {
	t.Helper()
	b.note("Raise ", line)
	want, got := b.p.wantRaise(line), b.c.Raise(line)
	b.same(t, got, want)
	if got == api.OK && line >= 0 && line < len(b.n) {
		b.n[line].raised++
		b.n[line].raisedBehind++
	}
}

// mask masks a line of both, or no more, and holds the answers.
func (b *pair) mask(t *testing.T, line int, held bool) {
	t.Helper()
	b.note("Mask ", line, held)
	want := b.p.wantMask(line, held)
	b.same(t, b.c.Mask(line, held), want)
}

// ack acknowledges a line of both, and holds the answers.
func (b *pair) ack(t *testing.T, line int) {
	t.Helper()
	b.note("Ack ", line)
	want, got := b.p.wantAck(line), b.c.Ack(line)
	b.same(t, got, want)
	if got == api.OK && line >= 0 && line < len(b.n) {
		b.n[line].acked++
		b.n[line].ackedBehind++
	}
}

// next asks both for the next line, holds the answers, and P10.4.
func (b *pair) next(t *testing.T) {
	t.Helper()
	b.note("Next")
	want, wantOk := b.p.wantNext()
	got, ok := b.c.Next()
	if got != want || ok != wantOk {
		t.Errorf("%s: %d, %v, not %d, %v", b.calls(), got, ok, want, wantOk)
	}
	if !ok || got < 0 || got >= len(b.n) {
		return
	}
	x := &b.n[got]
	if x.raisedBehind != 1 || x.told > 0 && x.ackedBehind != 1 {
		t.Errorf("%s: line %d is told %d times before, and behind that raised %d times and acknowledged %d times", b.calls(), got, x.told, x.raisedBehind, x.ackedBehind)
	}
	x.told++
	x.raisedBehind, x.ackedBehind = 0, 0
}

// hold holds Len, Of of every line, and that each raise of it is told once or still to be told.
func (b *pair) hold(t *testing.T) {
	t.Helper()
	if got := b.c.Len(); got != len(b.p) {
		t.Errorf("%s: Len %d, not %d", b.calls(), got, len(b.p))
	}
	for line := -1; line <= len(b.p); line++ {
		want := State{}
		if x := b.p.at(line); x != nil {
			want = *x
		}
		if got := b.c.Of(line); got != want {
			t.Errorf("%s: Of %d: %v, not %v", b.calls(), line, got, want)
		}
	}
	for line, x := range b.n {
		s := b.c.Of(line)
		if open := x.raised - x.told; open != 0 && open != 1 || s.Raised != (open == 1) {
			t.Errorf("%s: line %d is raised %d times, told %d times, and %v", b.calls(), line, x.raised, x.told, s)
		}
		if open := x.told - x.acked; open != 0 && open != 1 || s.Served != (open == 1) {
			t.Errorf("%s: line %d is told %d times, acknowledged %d times, and %v", b.calls(), line, x.told, x.acked, s)
		}
	}
}

// holdAll holds all that can be asked without a change.
func (b *pair) holdAll(t *testing.T) {
	t.Helper()
	b.hold(t)
	for _, line := range far {
		if got := b.c.Of(line); got != (State{}) {
			t.Errorf("%s: Of %d: %v", b.calls(), line, got)
		}
	}
}

// state tells how a line is of three letters: R Raised, M Masked, S Served, a dot where it isn't.
func state(letters string) State {
	return State{Raised: letters[0] == 'R', Masked: letters[1] == 'M', Served: letters[2] == 'S'}
}

// bring brings the lines of a new controller to what is asked of each, of which none is Dropped.
func bring(t *testing.T, lines ...State) *pair {
	t.Helper()
	b := both(t, len(lines))
	// Served ones come first, while all the others are as New leaves them: so Next can tell no other one.
	for line, s := range lines {
		if s.Served {
			b.mask(t, line, false)
			b.raise(t, line)
			b.next(t)
			b.mask(t, line, true)
		}
	}
	for line, s := range lines {
		if s.Raised {
			b.raise(t, line)
		}
		b.mask(t, line, s.Masked)
	}
	if !slices.Equal([]State(b.p), lines) {
		t.Fatalf("%s: the list is %v, not %v", b.calls(), b.p, lines)
	}
	b.hold(t)
	return b
}

// all tells every way a line may be, none Dropped.
func all() []State {
	var l []State
	for i := range 8 {
		l = append(l, State{Raised: i&1 != 0, Masked: i&2 != 0, Served: i&4 != 0})
	}
	return l
}

// The chapter's example; the limit is the document's.
func TestExample(t *testing.T) {
	if api.MaxIrqs != wantMost {
		t.Error("limit")
	}
	c, _ := New(2)
	c.Raise(1)
	if line, ok := c.Next(); line != 0 || ok {
		t.Errorf("masked: %d, %v", line, ok)
	}
	c.Mask(1, false)
	if line, ok := c.Next(); line != 1 || !ok {
		t.Errorf("not masked: %d, %v", line, ok)
	}
	c.Raise(1)
	if line, ok := c.Next(); line != 0 || ok {
		t.Errorf("served: %d, %v", line, ok)
	}
	c.Ack(1)
	if line, ok := c.Next(); line != 1 || !ok {
		t.Errorf("acknowledged: %d, %v", line, ok)
	}
}

// P10.1: how many lines there may be, and how they are then.
func TestNew(t *testing.T) {
	for _, n := range append([]int{0}, far...) {
		c, e := New(n)
		want := api.ErrArg
		if n == wantMost {
			want = api.OK
		}
		if e != want || (c == nil) != (want != api.OK) {
			t.Errorf("New of %d: %v, error %d", n, c, e)
		}
	}
	for n := 1; n <= wantMost; n++ {
		b := both(t, n)
		b.holdAll(t)
		for line := range n {
			if got := b.c.Of(line); got != (State{Masked: true}) {
				t.Errorf("of %d: Of %d: %v", n, line, got)
			}
		}
		if got := b.c.Of(n); got != (State{}) {
			t.Errorf("of %d: Of %d: %v", n, n, got)
		}
		b.next(t)
		b.holdAll(t)
	}
}

// P10.2, P10.3: what each call answers of each way a line may be, and how it is then.
func TestEachWay(t *testing.T) {
	for _, x := range []struct {
		from     string
		raise    api.Errno
		raised   string
		unmasked string
		masked   string
		ack      api.Errno
		acked    string
		told     bool
		served   string
	}{
		{"...", api.OK, "R..", "...", ".M.", api.ErrState, "...", false, "..."},
		{"R..", api.ErrTwice, "R..", "R..", "RM.", api.ErrState, "R..", true, "..S"},
		{".M.", api.OK, "RM.", "...", ".M.", api.ErrState, ".M.", false, ".M."},
		{"RM.", api.ErrTwice, "RM.", "R..", "RM.", api.ErrState, "RM.", false, "RM."},
		{"..S", api.OK, "R.S", "..S", ".MS", api.OK, "...", false, "..S"},
		{"R.S", api.ErrTwice, "R.S", "R.S", "RMS", api.OK, "R..", false, "R.S"},
		{".MS", api.OK, "RMS", "..S", ".MS", api.OK, ".M.", false, ".MS"},
		{"RMS", api.ErrTwice, "RMS", "R.S", "RMS", api.OK, "RM.", false, "RMS"},
	} {
		c := func() *Controller { return bring(t, state(x.from)).c }
		dropped := 0
		if x.raise == api.ErrTwice {
			dropped = 1
		}
		want := state(x.raised)
		want.Dropped = dropped
		if c := c(); c.Raise(0) != x.raise || c.Of(0) != want {
			t.Errorf("%s: Raise: %v, not %v", x.from, c.Of(0), want)
		}
		if c := c(); c.Mask(0, false) != api.OK || c.Of(0) != state(x.unmasked) {
			t.Errorf("%s: Mask, no more: %v, not %s", x.from, c.Of(0), x.unmasked)
		}
		if c := c(); c.Mask(0, true) != api.OK || c.Of(0) != state(x.masked) {
			t.Errorf("%s: Mask: %v, not %s", x.from, c.Of(0), x.masked)
		}
		if c := c(); c.Ack(0) != x.ack || c.Of(0) != state(x.acked) {
			t.Errorf("%s: Ack: %v, not %s, error %d", x.from, c.Of(0), x.acked, x.ack)
		}
		n := c()
		if line, ok := n.Next(); line != 0 || ok != x.told || n.Of(0) != state(x.served) {
			t.Errorf("%s: Next: %d, %v, %v, not %v, %s", x.from, line, ok, n.Of(0), x.told, x.served)
		}
	}
}

// P10.2: a line that is Raised is raised again and again: Dropped counts each one, and stays behind telling, Ack and Mask.
func TestDropped(t *testing.T) {
	b := both(t, 2)
	want := 0
	for round := range 5 {
		b.raise(t, 1)
		for range 3*round + 1 {
			if e := b.c.Raise(1); e != api.ErrTwice {
				t.Errorf("round %d: error %d", round, e)
			}
			b.p.wantRaise(1)
			want++
			b.hold(t)
		}
		b.mask(t, 1, false)
		b.next(t)
		b.raise(t, 1)
		b.raise(t, 1)
		want++
		b.ack(t, 1)
		b.next(t)
		b.ack(t, 1)
		b.mask(t, 1, true)
		b.hold(t)
		if got := b.c.Of(1); got != (State{Masked: true, Dropped: want}) || b.c.Of(0).Dropped != 0 {
			t.Errorf("round %d: %v, not %d dropped", round, got, want)
		}
	}
	b.mask(t, 0, false)
	b.raise(t, 0)
	for range 100000 {
		b.c.Raise(0)
	}
	if got := b.c.Of(0); got != (State{Raised: true, Dropped: 100000}) {
		t.Errorf("raised very often: %v", got)
	}
}

// P10.2: one Raise is told once, however often it was raised ahead of its telling.
func TestToldOnce(t *testing.T) {
	b := bring(t, State{Masked: true}, State{}, State{Masked: true})
	for range 4 {
		b.raise(t, 1)
	}
	for range 3 {
		b.next(t)
	}
	b.ack(t, 1)
	for range 3 {
		b.next(t)
	}
	b.ack(t, 1)
	b.holdAll(t)
	if b.n[1].told != 1 {
		t.Errorf("told %d times", b.n[1].told)
	}
}

// P10.1, P10.2: lines that there are not, however the others are: nothing changes.
func TestNoSuchLine(t *testing.T) {
	for n := 1; n <= wantMost; n++ {
		for _, s := range all() {
			b := bring(t, slices.Repeat([]State{s}, n)...)
			for _, line := range append([]int{n}, far...) {
				for _, e := range []api.Errno{b.c.Raise(line), b.c.Raise(line), b.c.Mask(line, true), b.c.Mask(line, false), b.c.Ack(line)} {
					if e != api.ErrArg {
						t.Errorf("of %d: line %d: error %d", n, line, e)
					}
				}
			}
			b.holdAll(t)
		}
	}
}

// P10.1 to P10.3: the last line is one like all others.
func TestLastLine(t *testing.T) {
	for n := 1; n <= wantMost; n++ {
		b := both(t, n)
		last := n - 1
		if b.c.Raise(last) != api.OK || b.c.Mask(last, false) != api.OK || b.c.Of(last) != (State{Raised: true}) {
			t.Errorf("of %d: %v", n, b.c.Of(last))
		}
		line, ok := b.c.Next()
		if line != last || !ok || b.c.Ack(last) != api.OK || b.c.Of(last) != (State{}) {
			t.Errorf("of %d: %d, %v, %v", n, line, ok, b.c.Of(last))
		}
		if e := b.c.Ack(last); e != api.ErrState {
			t.Errorf("of %d: Ack once more: error %d", n, e)
		}
	}
}

// P10.3: of any of all lines, those that can be told are told, the least first, and the others not, for whichever cause.
func TestLeastFirst(t *testing.T) {
	ready := state("R..")
	for _, other := range all() {
		if other == ready {
			continue
		}
		for which := range 1 << wantMost {
			lines := slices.Repeat([]State{other}, wantMost)
			var want []int
			for line := range wantMost {
				if which>>line&1 != 0 {
					lines[line] = ready
					want = append(want, line)
				}
			}
			b := bring(t, lines...)
			var got []int
			for range wantMost + 1 {
				line, ok := b.c.Next()
				b.p.wantNext()
				if ok {
					got = append(got, line)
				} else if line != 0 {
					t.Errorf("%v: none, and %d", lines, line)
				}
			}
			if !slices.Equal(got, want) {
				t.Errorf("%v: %v, not %v", lines, got, want)
			}
			for line := range wantMost {
				if b.c.Of(line) != b.p[line] {
					t.Errorf("%v: then Of %d: %v", lines, line, b.c.Of(line))
				}
			}
		}
	}
}

// A nil controller has no lines, whatever is asked.
func TestNil(t *testing.T) {
	var c *Controller
	for range 2 {
		if line, ok := c.Next(); c.Len() != 0 || line != 0 || ok {
			t.Errorf("Len %d, Next %d, %v", c.Len(), line, ok)
		}
		for _, line := range append([]int{0, 1, 7}, far...) {
			if got := c.Of(line); got != (State{}) {
				t.Errorf("Of %d: %v", line, got)
			}
			for _, e := range []api.Errno{c.Raise(line), c.Mask(line, false), c.Mask(line, true), c.Ack(line)} {
				if e != api.ErrArg {
					t.Errorf("line %d: error %d", line, e)
				}
			}
		}
	}
}

// steps tells each kind of call on few lines, and on one that there is not.
func steps(n int) []func(*testing.T, *pair) {
	l := []func(*testing.T, *pair){func(t *testing.T, b *pair) { b.next(t) }}
	for line := range n {
		l = append(l,
			func(t *testing.T, b *pair) { b.raise(t, line) },
			func(t *testing.T, b *pair) { b.mask(t, line, true) },
			func(t *testing.T, b *pair) { b.mask(t, line, false) },
			func(t *testing.T, b *pair) { b.ack(t, line) })
	}
	return l
}

// P10.1 to P10.4: all rows of calls, of so many, on new controllers.
func TestAllRows(t *testing.T) {
	for _, kind := range []struct{ n, count int }{{1, 7}, {2, 5}, {3, 4}} {
		l := steps(kind.n)
		rows := 1
		for range kind.count {
			rows *= len(l)
		}
		for row := range rows {
			b := both(t, kind.n)
			for range kind.count {
				l[row%len(l)](t, b)
				b.hold(t)
				row /= len(l)
			}
			if t.Failed() {
				return
			}
		}
	}
}

// P10.1 to P10.4: however three lines are, each call, and two of Next behind it.
func TestEachCall(t *testing.T) {
	l := steps(3)
	for _, x := range all() {
		for _, y := range all() {
			for _, z := range all() {
				for _, step := range l {
					b := bring(t, x, y, z)
					step(t, b)
					b.hold(t)
					b.next(t)
					b.hold(t)
					b.next(t)
					b.hold(t)
				}
			}
		}
	}
}

// P10.1 to P10.4: many calls in turn, right ones and wrong ones, on controllers of every size.
func TestMany(t *testing.T) {
	for n := 1; n <= wantMost; n++ {
		b, mix := both(t, n), uint64(n)
		// some tells a number below most that looks mixed, the same ones each time.
		some := func(most int) int {
			mix = mix*6364136223846793005 + 1442695040888963407
			return int(mix >> 33 % uint64(most))
		}
		for round := range 6000 {
			line := some(n+2) - 1
			// Rounds in which most are masked come in turn with some in which few are.
			most, rarely := round/500%2 == 0, some(3) == 0
			switch some(6) {
			case 0, 1:
				b.raise(t, line)
			case 2:
				b.mask(t, line, most != rarely)
			case 3:
				b.ack(t, line)
			default:
				b.next(t)
			}
			b.hold(t)
			if t.Failed() {
				return
			}
		}
		b.holdAll(t)
	}
}

// P10.1: each controller has its own lines, and what Of tells is the asker's own.
func TestApart(t *testing.T) {
	x, y := bring(t, state("R.."), state(".MS")), both(t, 3)
	y.holdAll(t)
	y.raise(t, 0)
	y.raise(t, 0)
	y.mask(t, 1, false)
	x.holdAll(t)
	x.next(t)
	x.ack(t, 1)
	x.mask(t, 1, false)
	y.holdAll(t)
	got := x.c.Of(0)
	got.Served, got.Dropped = false, 9
	x.holdAll(t)
}
