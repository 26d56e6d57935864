package tlb

import (
	"fmt"
	"math"
	"slices"
	"strings"
	"testing"

	"remontoire/api"
)

// These are what the chapter and the document say of the limits.
const (
	wantEnvs   = 8
	wantFrames = 32
	wantRoom   = 16
	wantPage   = 65535
)

// far are numbers that are of no environment, page or frame.
var far = []int{math.MinInt, math.MinInt + 1, -1 << 32, -wantPage, -wantFrames, -wantEnvs, -2, -1, wantPage + 1, 1 << 17, 1 << 32, 1<<32 + 1, math.MaxInt - 1, math.MaxInt}

// plain is a list of translations in the order of their last use, against which a Tlb's answers are held.
type plain struct {
	l            []Entry
	hits, misses int
}

// at tells where the translation of a page is in the list; -1: there is none.
func (p *plain) at(env, page int) int {
	for i, e := range p.l {
		if e.Env == env && e.Page == page {
			return i
		}
	}
	return -1
}

// without tells the list without one of its places, as a new one.
func (p *plain) without(i int) []Entry { return append(slices.Clone(p.l[:i]), p.l[i+1:]...) }

// right tells whether a translation may be.
func right(e Entry) bool {
	return e.Env >= 0 && e.Env < wantEnvs && e.Page >= 0 && e.Page <= wantPage && e.Frame >= 0 && e.Frame < wantFrames
}

// wantLoad tells what Load must answer, and loads the list.
func (p *plain) wantLoad(e Entry) (Entry, bool, api.Errno) {
	if !right(e) {
		return Entry{}, false, api.ErrArg
	}
	var gone Entry
	i := p.at(e.Env, e.Page)
	if i < 0 && len(p.l) >= wantRoom {
		i = 0
	}
	if i >= 0 {
		gone = p.l[i]
		p.l = p.without(i)
	}
	p.l = append(p.l, e)
	return gone, i >= 0, api.OK
}

// wantLook tells what Look must answer, and uses the translation of the list.
func (p *plain) wantLook(env, page int, write bool) (int, api.Errno) {
	i := p.at(env, page)
	if i < 0 {
		p.misses++
		return 0, api.ErrFault
	}
	e := p.l[i]
	if write && !e.Write {
		return 0, api.ErrCap
	}
	p.hits++
	p.l = append(p.without(i), e)
	return e.Frame, api.OK
}

// wantGo takes away what is asked for, and tells how many.
func (p *plain) wantGo(asked func(Entry) bool) int {
	var l []Entry
	for _, e := range p.l {
		if !asked(e) {
			l = append(l, e)
		}
	}
	n := len(p.l) - len(l)
	p.l = l
	return n
}

// of tells an environment's translations.
func (p *plain) of(env int) []Entry {
	var l []Entry
	for _, e := range p.l {
		if e.Env == env {
			l = append(l, e)
		}
	}
	return l
}

// pair is a Tlb, the plain list that it must be like, and what was called on both.
type pair struct {
	x      *Tlb
	p      plain
	called []called
}

// called is a call, and what it was given.
type called struct {
	what string
	args [3]any
}

// both tells a Tlb and a list into which these were loaded.
func both(t *testing.T, l ...Entry) *pair {
	b := &pair{x: &Tlb{}}
	for _, e := range l {
		b.load(t, e)
	}
	b.hold(t)
	return b
}

// calls tells what was called, for what a test says.
func (b *pair) calls() string {
	var l []string
	for _, c := range b.called[max(0, len(b.called)-24):] {
		l = append(l, fmt.Sprint(c.what, c.args))
	}
	return fmt.Sprint(len(b.called), " calls .. ", strings.Join(l, ", "))
}

// note keeps what is called; it is put into words only where a test says it.
func (b *pair) note(what string, args ...any) {
	c := called{what: what}
	copy(c.args[:], args)
	b.called = append(b.called, c)
}

// load loads both, and holds the answers.
func (b *pair) load(t *testing.T, e Entry) {
	b.note("Load ", e)
	want, wantSome, wantError := b.p.wantLoad(e)
	got, some, err := b.x.Load(e)
	if got != want || some != wantSome || err != wantError {
		t.Errorf("%s: %v, %v, error %d, not %v, %v, %d", b.calls(), got, some, err, want, wantSome, wantError)
	}
}

// look looks in both, and holds the answers.
func (b *pair) look(t *testing.T, env, page int, write bool) {
	b.note("Look ", env, page, write)
	want, wantError := b.p.wantLook(env, page, write)
	got, err := b.x.Look(env, page, write)
	if got != want || err != wantError {
		t.Errorf("%s: %d, error %d, not %d, %d", b.calls(), got, err, want, wantError)
	}
}

// drop drops a page of both, and holds the answers.
func (b *pair) drop(t *testing.T, env, page int) {
	b.note("Drop ", env, page)
	want := b.p.wantGo(func(e Entry) bool { return e.Env == env && e.Page == page })
	if got := b.x.Drop(env, page); got != (want == 1) {
		t.Errorf("%s: %v, not %d", b.calls(), got, want)
	}
}

// dropFrame drops a frame of both, and holds the answers.
func (b *pair) dropFrame(t *testing.T, env, frame int) {
	b.note("DropFrame ", env, frame)
	want := b.p.wantGo(func(e Entry) bool { return e.Frame == frame && (env < 0 || e.Env == env) })
	if got := b.x.DropFrame(env, frame); got != want {
		t.Errorf("%s: %d, not %d", b.calls(), got, want)
	}
}

// dropEnv drops an environment of both, and holds the answers.
func (b *pair) dropEnv(t *testing.T, env int) {
	b.note("DropEnv ", env)
	want := b.p.wantGo(func(e Entry) bool { return e.Env == env })
	if got := b.x.DropEnv(env); got != want {
		t.Errorf("%s: %d, not %d", b.calls(), got, want)
	}
}

// holdOf holds Of of an environment.
func (b *pair) holdOf(t *testing.T, env int) {
	if got, want := b.x.Of(env), b.p.of(env); !slices.Equal(got, want) {
		t.Errorf("%s: Of %d: %v, not %v", b.calls(), env, got, want)
	}
}

// hold holds Count, and Of of every environment.
func (b *pair) hold(t *testing.T) {
	all, hits, misses := b.x.Count()
	if all != len(b.p.l) || hits != b.p.hits || misses != b.p.misses {
		t.Errorf("%s: Count %d, %d, %d, not %d, %d, %d", b.calls(), all, hits, misses, len(b.p.l), b.p.hits, b.p.misses)
	}
	for env := -1; env <= wantEnvs; env++ {
		b.holdOf(t, env)
	}
}

// holdOrder loads others till all that are there have gone, so that the order of all environments' ones is held.
func (b *pair) holdOrder(t *testing.T) {
	b.hold(t)
	for i := range wantRoom + 1 {
		b.load(t, Entry{Env: i % 2 * 7, Page: 50000 + i, Frame: i, Write: i%3 == 0})
	}
	b.hold(t)
	for _, env := range far {
		b.holdOf(t, env)
	}
}

// some tells so many translations, of all environments, each page and frame its own, each second one to write.
func some(n int) []Entry {
	var l []Entry
	for i := range n {
		l = append(l, Entry{Env: i % wantEnvs, Page: 100 + 3*i, Frame: 31 - i, Write: i%2 == 1})
	}
	return l
}

// The chapter's example; the limits are the document's.
func TestExample(t *testing.T) {
	if api.MaxTlb != wantRoom || api.MaxEnvs != wantEnvs || api.MaxFrames != wantFrames || MostPage != wantPage {
		t.Error("limits")
	}
	x := &Tlb{}
	if gone, ok, e := x.Load(Entry{Env: 1, Page: 5, Frame: 3}); gone != (Entry{}) || ok || e != api.OK {
		t.Errorf("Load: %v, %v, error %d", gone, ok, e)
	}
	if frame, e := x.Look(1, 5, false); frame != 3 || e != api.OK {
		t.Errorf("Look to read: %d, error %d", frame, e)
	}
	if frame, e := x.Look(1, 5, true); frame != 0 || e != api.ErrCap {
		t.Errorf("Look to write: %d, error %d", frame, e)
	}
}

// edges are numbers at which Right of a number from 0 to most may change, and numbers far off.
func edges(most int) []int { return append([]int{0, 1, most - 1, most, most + 1}, far...) }

// P11.1: Right, and Load of the same, of every edge with every edge; Load of what isn't Right changes nothing.
func TestRight(t *testing.T) {
	for _, env := range edges(wantEnvs - 1) {
		for _, page := range edges(wantPage) {
			for _, frame := range edges(wantFrames - 1) {
				for _, write := range []bool{false, true} {
					e := Entry{env, page, frame, write}
					if got := e.Right(); got != right(e) {
						t.Errorf("Right of %v: %v", e, got)
					}
					b := both(t, Entry{Env: 3, Page: 9, Frame: 2})
					b.load(t, e)
					b.hold(t)
				}
			}
		}
	}
	for n := range 3 * wantFrames {
		for _, e := range []Entry{{Env: n}, {Page: n}, {Frame: n}, {Env: -n}, {Page: -n}, {Frame: -n}} {
			if got := e.Right(); got != right(e) {
				t.Errorf("Right of %v: %v", e, got)
			}
		}
	}
}

// P11.1: Load of what isn't Right, with the buffer empty, half full and full, and with the page that it would be of there already: nothing goes, nothing comes, nothing is used.
func TestLoadWrong(t *testing.T) {
	for _, n := range []int{0, 1, 8, wantRoom - 1, wantRoom} {
		b := both(t, some(n)...)
		for _, x := range append([]int{wantEnvs, wantFrames}, far...) {
			for _, e := range append(some(n), Entry{Env: 1, Page: 1, Frame: 1}) {
				for _, e := range []Entry{{x, e.Page, e.Frame, true}, {e.Env, e.Page, x, false}, {e.Env, e.Page, x, true}} {
					if !right(e) {
						b.load(t, e)
					}
				}
			}
		}
		for _, page := range far {
			b.load(t, Entry{Env: 1, Page: page, Frame: 1})
		}
		b.holdOrder(t)
	}
}

// P11.1: Load of a page that is there already, at each place of each count: that one goes and is told, whatever it was to, and no other one.
func TestLoadAgain(t *testing.T) {
	for n := 1; n <= wantRoom; n++ {
		for i, was := range some(n) {
			for _, e := range []Entry{was, {was.Env, was.Page, 1, was.Write}, {was.Env, was.Page, was.Frame, !was.Write}} {
				b := both(t, some(n)...)
				b.load(t, e)
				b.hold(t)
				got, ok, err := b.x.Load(e)
				if want, wantOk, wantError := b.p.wantLoad(e); got != want || ok != wantOk || err != wantError || got != e || !ok {
					t.Errorf("of %d, at %d, once more: %v, %v, error %d", n, i, got, ok, err)
				}
				b.look(t, e.Env, e.Page, e.Write)
				b.holdOrder(t)
			}
		}
	}
}

// P11.1: as long as there are fewer than sixteen, none goes; from then on each one that comes takes the place of the one loaded the longest ago.
func TestLoadMany(t *testing.T) {
	x := &Tlb{}
	name := func(i int) Entry {
		return Entry{Env: i * 5 % wantEnvs, Page: 65535 - i, Frame: i % wantFrames, Write: i%3 == 0}
	}
	for i := range 100 {
		gone, ok, e := x.Load(name(i))
		want, wantOk := Entry{}, i >= 16
		if wantOk {
			want = name(i - 16)
		}
		if gone != want || ok != wantOk || e != api.OK {
			t.Errorf("Load %d: %v, %v, error %d, not %v", i, gone, ok, e, want)
		}
		if all, hits, misses := x.Count(); all != min(i+1, 16) || hits != 0 || misses != 0 {
			t.Errorf("behind Load %d: Count %d, %d, %d", i, all, hits, misses)
		}
	}
}

// P11.1, P11.2: behind sixteen of which each two were looked up in turn, the ones that go are those that weren't, in order, and then these.
func TestLookedUpBetween(t *testing.T) {
	full := some(wantRoom)
	for i, one := range full {
		for j, two := range full {
			b := both(t, full...)
			b.look(t, one.Env, one.Page, false)
			b.look(t, two.Env, two.Page, two.Write)
			var want []Entry
			for k, e := range full {
				if k != i && k != j {
					want = append(want, e)
				}
			}
			if i != j {
				want = append(want, one)
			}
			want = append(want, two)
			for k, e := range want {
				gone, ok, err := b.x.Load(Entry{Env: 6, Page: 40000 + k})
				if gone != e || !ok || err != api.OK {
					t.Errorf("looked up %d, %d: %v goes, %v, error %d, not %v", i, j, gone, ok, err, e)
				}
			}
		}
	}
}

// P11.2: a page that is there, to read and to write, with and without Write: what is told, and what is counted.
func TestLookEach(t *testing.T) {
	for _, x := range []struct {
		has, write   bool
		frame        int
		e            api.Errno
		hits, misses int
	}{
		{false, false, 7, api.OK, 1, 0},
		{true, false, 7, api.OK, 1, 0},
		{true, true, 7, api.OK, 1, 0},
		{false, true, 0, api.ErrCap, 0, 0},
	} {
		b := both(t, Entry{2, 30, 7, x.has}, Entry{2, 31, 8, !x.has})
		frame, e := b.x.Look(2, 30, x.write)
		all, hits, misses := b.x.Count()
		if frame != x.frame || e != x.e || all != 2 || hits != x.hits || misses != x.misses {
			t.Errorf("%v: %d, error %d, Count %d, %d, %d", x, frame, e, all, hits, misses)
		}
		b.p.wantLook(2, 30, x.write)
		b.holdOrder(t)
	}
}

// P11.2: a page that isn't there, also of another environment, is a miss, each time, whatever is asked.
func TestLookNone(t *testing.T) {
	b := both(t, Entry{1, 5, 3, true}, Entry{2, 6, 4, false}, Entry{3, 0, 0, true})
	misses := 0
	for _, write := range []bool{false, true} {
		for env := -1; env <= wantEnvs; env++ {
			for page := -1; page < 9; page++ {
				if b.p.at(env, page) >= 0 {
					continue
				}
				if frame, e := b.x.Look(env, page, write); frame != 0 || e != api.ErrFault {
					t.Errorf("Look %d, %d, %v: %d, error %d", env, page, write, frame, e)
				}
				b.p.misses++
				misses++
				b.hold(t)
			}
		}
		for _, n := range far {
			b.look(t, n, 5, write)
			b.look(t, 1, n, write)
			b.look(t, n, n, write)
			misses += 3
		}
	}
	if _, _, got := b.x.Count(); got != misses {
		t.Errorf("%d misses, not %d", got, misses)
	}
	b.holdOrder(t)
}

// P11.2: each of sixteen is looked up, with what is refused in between: only what is OK changes the order.
func TestLookRefused(t *testing.T) {
	for i, x := range some(wantRoom) {
		b := both(t, some(wantRoom)...)
		for range 3 {
			// Those at odd places may be written.
			if !x.Write {
				b.look(t, x.Env, x.Page, true)
			}
			b.look(t, (x.Env+1)%wantEnvs, x.Page, false)
			b.look(t, x.Env, x.Page+1, i%2 == 0)
		}
		b.holdOrder(t)
	}
}

// P11.2: one page is found, and no other one of all there are and of those that are the same but for more bits.
func TestLookEachPage(t *testing.T) {
	for _, page := range []int{0, 1, 255, 256, 0x1234, 0x7fff, 0x8000, wantPage} {
		b := both(t, Entry{3, page, 9, true})
		for other := range wantPage + 1 {
			b.look(t, 3, other, true)
		}
		for up := 8; up < 64; up++ {
			b.look(t, 3, page^1<<up, false)
			b.look(t, 3^1<<up, page, false)
			b.drop(t, 3, page^1<<up)
			b.drop(t, 3^1<<up, page)
			b.dropFrame(t, 3, 9^1<<up)
			b.dropEnv(t, 3^1<<up)
		}
		if _, hits, _ := b.x.Count(); hits < 1 {
			t.Errorf("page %d: %d hits", page, hits)
		}
		b.holdOrder(t)
	}
}

// P11.2: the same page of every environment at once: each is told its own frame.
func TestSamePage(t *testing.T) {
	for _, page := range []int{0, 1, wantPage} {
		var l []Entry
		for env := range wantEnvs {
			l = append(l, Entry{env, page, 31 - env, env%2 == 0}, Entry{env, 777, 31 - env, env%2 == 1})
		}
		b := both(t, l...)
		for env := range wantEnvs {
			if frame, e := b.x.Look(env, page, env%2 == 0); frame != 31-env || e != api.OK {
				t.Errorf("Look %d, %d: %d, error %d", env, page, frame, e)
			}
			b.p.wantLook(env, page, env%2 == 0)
			b.drop(t, env, 777)
			b.hold(t)
		}
		b.holdOrder(t)
	}
}

// P11.3: hits and misses count each one, and stay behind every other call.
func TestCount(t *testing.T) {
	b := both(t, some(5)...)
	for range 50000 {
		b.x.Look(1, 103, true)
		b.x.Look(1, 104, true)
		b.x.Look(0, 100, true)
	}
	b.p.wantLook(1, 103, true)
	b.p.hits, b.p.misses = 50000, 50000
	b.hold(t)
	b.drop(t, 1, 103)
	b.hold(t)
	b.dropFrame(t, -1, 31)
	b.hold(t)
	b.dropEnv(t, 2)
	b.hold(t)
	b.load(t, Entry{})
	b.load(t, Entry{Env: -1})
	b.holdOrder(t)
}

// P11.3: Drop of each place of each count, once and twice, of another environment's page, and of pages that there are not; what was dropped isn't found, and what is loaded behind it is new.
func TestDrop(t *testing.T) {
	for n := range wantRoom + 1 {
		for _, x := range some(n) {
			b := both(t, some(n)...)
			b.drop(t, (x.Env+1)%wantEnvs, x.Page)
			b.drop(t, x.Env, x.Page+1)
			if !b.x.Drop(x.Env, x.Page) || b.x.Drop(x.Env, x.Page) {
				t.Errorf("of %d: Drop of %v, twice", n, x)
			}
			b.p.l = b.p.without(b.p.at(x.Env, x.Page))
			b.hold(t)
			b.look(t, x.Env, x.Page, false)
			b.look(t, x.Env, x.Page, true)
			b.hold(t)
			b.load(t, Entry{x.Env, x.Page, 1, !x.Write})
			b.look(t, x.Env, x.Page, !x.Write)
			b.holdOrder(t)
		}
		b := both(t, some(n)...)
		for _, n := range far {
			b.drop(t, n, 100)
			b.drop(t, 0, n)
			b.drop(t, n, n)
		}
		b.drop(t, wantEnvs, 100)
		b.drop(t, 0, 0)
		b.holdOrder(t)
	}
}

// P11.3: Drop of all, in any of some orders, leaves nothing, and the buffer takes sixteen anew.
func TestDropAll(t *testing.T) {
	for _, by := range []int{1, 3, 5, 7, 9, 11, 13, 15} {
		l := some(wantRoom)
		b := both(t, l...)
		for i := range l {
			x := l[i*by%wantRoom]
			b.drop(t, x.Env, x.Page)
			b.hold(t)
			b.look(t, x.Env, x.Page, false)
		}
		if all, _, _ := b.x.Count(); all != 0 {
			t.Errorf("by %d: %d are left", by, all)
		}
		b.holdOrder(t)
	}
}

// crowd tells sixteen translations of four environments to four frames: none of environment 4 to 7, one and several to each frame, in mixed order.
func crowd() []Entry {
	return []Entry{
		{0, 1, 5, true}, {1, 1, 5, false}, {2, 1, 6, true}, {3, 9, 0, false},
		{0, 2, 5, false}, {1, 2, 6, true}, {0, 3, 7, true}, {2, 2, 5, true},
		{0, 4, 5, true}, {3, 8, 31, true}, {1, 3, 6, false}, {2, 9, 6, false},
		{0, 5, 0, true}, {1, 9, 5, true}, {2, 7, 31, true}, {3, 7, 5, false},
	}
}

// P11.3: DropFrame of every frame, of every environment and of all, with none, one and several.
func TestDropFrame(t *testing.T) {
	var below, above []int
	for _, n := range far {
		if n < 0 {
			below = append(below, n)
		} else {
			above = append(above, n)
		}
	}
	for frame := -1; frame <= wantFrames; frame++ {
		of := func(env int) int {
			n := 0
			for _, e := range crowd() {
				if e.Frame == frame && (e.Env == env || env < 0) {
					n++
				}
			}
			return n
		}
		envs := append([]int{0, 1, 2, 3, 4, 7, 8}, append(below, above...)...)
		for _, env := range envs {
			b := both(t, crowd()...)
			if got := b.x.DropFrame(env, frame); got != of(env) {
				t.Errorf("DropFrame %d, %d: %d, not %d", env, frame, got, of(env))
			}
			b.p.wantGo(func(e Entry) bool { return e.Frame == frame && (e.Env == env || env < 0) })
			b.dropFrame(t, env, frame)
			b.hold(t)
			for _, e := range crowd() {
				b.look(t, e.Env, e.Page, e.Write)
			}
			b.holdOrder(t)
		}
	}
	b := both(t, crowd()...)
	for _, frame := range far {
		b.dropFrame(t, -1, frame)
		b.dropFrame(t, 0, frame)
	}
	b.holdOrder(t)
	if n := both(t, crowd()...).x.DropFrame(-1, 5); n != 7 {
		t.Errorf("DropFrame of all of 5: %d, not 7", n)
	}
	if n := both(t, crowd()...).x.DropFrame(0, 5); n != 3 {
		t.Errorf("DropFrame of 0, 5: %d, not 3", n)
	}
}

// P11.3: DropEnv with none, one and several; no environment below 0 or above 7 has any.
func TestDropEnv(t *testing.T) {
	for _, l := range [][]Entry{nil, crowd(), crowd()[:4], some(wantRoom)} {
		for env := -1; env <= wantEnvs; env++ {
			b := both(t, l...)
			b.dropEnv(t, env)
			b.hold(t)
			b.dropEnv(t, env)
			b.hold(t)
			for _, e := range l {
				b.look(t, e.Env, e.Page, e.Write)
			}
			b.holdOrder(t)
		}
		b := both(t, l...)
		for _, env := range far {
			b.dropEnv(t, env)
		}
		b.holdOrder(t)
	}
	var l []Entry
	for i := range wantRoom {
		l = append(l, Entry{Env: 5, Page: i})
	}
	if n := both(t, l...).x.DropEnv(5); n != wantRoom {
		t.Errorf("DropEnv of all: %d", n)
	}
	for want, env := range []int{7, 3, 0} {
		b := both(t, Entry{3, 1, 1, true}, Entry{0, 1, 1, true}, Entry{0, 2, 1, true})
		if n := b.x.DropEnv(env); n != want {
			t.Errorf("DropEnv of %d: %d, not %d", env, n, want)
		}
	}
}

// P11.3: Of tells the environment's own ones in the order of their last use, as new memory each time.
func TestOf(t *testing.T) {
	b := both(t, crowd()...)
	b.look(t, 0, 2, false)
	b.look(t, 1, 9, true)
	b.load(t, Entry{0, 1, 30, false})
	b.look(t, 0, 4, true)
	b.look(t, 0, 2, true)
	want := []Entry{{0, 3, 7, true}, {0, 5, 0, true}, {0, 2, 5, false}, {0, 1, 30, false}, {0, 4, 5, true}}
	got := b.x.Of(0)
	if !slices.Equal(got, want) {
		t.Errorf("Of 0: %v, not %v", got, want)
	}
	for i := range got {
		got[i] = Entry{7, 7, 7, true}
	}
	_ = append(got[:cap(got)], Entry{7, 8, 8, true})
	b.hold(t)
	// Where all are of one environment, too, the list is the asker's own.
	for n := 1; n <= wantRoom; n++ {
		var l []Entry
		for i := range n {
			l = append(l, Entry{Env: 4, Page: i, Frame: i})
		}
		b := both(t, l...)
		got := b.x.Of(4)
		for i := range got {
			got[i].Page += 500
		}
		_ = append(got, Entry{4, 600, 1, true})
		b.load(t, Entry{4, 601, 2, true})
		b.holdOrder(t)
	}
	// A list that was told stays as it is, whatever comes behind it.
	kept := b.x.Of(0)
	b.dropEnv(t, 0)
	b.load(t, Entry{0, 60, 1, true})
	b.holdOrder(t)
	if !slices.Equal(kept, want) {
		t.Errorf("Of 0, kept: %v, not %v", kept, want)
	}
}

// The zero Tlb has no translations; none is found, none goes.
func TestZero(t *testing.T) {
	b := both(t)
	if all, hits, misses := b.x.Count(); all != 0 || hits != 0 || misses != 0 {
		t.Errorf("Count %d, %d, %d", all, hits, misses)
	}
	for env := -1; env <= wantEnvs; env++ {
		if l := b.x.Of(env); len(l) != 0 {
			t.Errorf("Of %d: %v", env, l)
		}
		b.drop(t, env, 0)
		b.dropFrame(t, env, 0)
		b.dropEnv(t, env)
	}
	b.hold(t)
	// An Entry of noughts is Right, and is not there of itself.
	b.look(t, 0, 0, false)
	b.look(t, 0, 0, true)
	b.holdOrder(t)
	var x Tlb
	if frame, e := x.Look(0, 0, false); frame != 0 || e != api.ErrFault {
		t.Errorf("Look: %d, error %d", frame, e)
	}
}

// A nil Tlb has nothing; Load and Look answer ErrNil, whatever they are given.
func TestNil(t *testing.T) {
	var x *Tlb
	for _, n := range append([]int{0, 1, 7, 8, 31, 32}, far...) {
		for _, write := range []bool{false, true} {
			for _, e := range []Entry{{n, 0, 0, write}, {0, n, 0, write}, {0, 0, n, write}, {n, n, n, write}} {
				if gone, ok, err := x.Load(e); gone != (Entry{}) || ok || err != api.ErrNil {
					t.Errorf("Load of %v: %v, %v, error %d", e, gone, ok, err)
				}
				if frame, err := x.Look(e.Env, e.Page, write); frame != 0 || err != api.ErrNil {
					t.Errorf("Look of %v: %d, error %d", e, frame, err)
				}
				if x.Drop(e.Env, e.Page) || x.DropFrame(e.Env, e.Frame) != 0 {
					t.Errorf("Drop of %v", e)
				}
			}
		}
		if x.DropEnv(n) != 0 || len(x.Of(n)) != 0 {
			t.Errorf("environment %d", n)
		}
		if all, hits, misses := x.Count(); all != 0 || hits != 0 || misses != 0 {
			t.Errorf("Count %d, %d, %d", all, hits, misses)
		}
	}
}

// steps tells each kind of call on a few pages of two environments to two frames, and on what there is not.
func steps() []func(*testing.T, *pair) {
	var l []func(*testing.T, *pair)
	for env := range 2 {
		for page := range 2 {
			l = append(l,
				func(t *testing.T, b *pair) { b.load(t, Entry{env, page, page, false}) },
				func(t *testing.T, b *pair) { b.load(t, Entry{env, page, 1 - env, true}) },
				func(t *testing.T, b *pair) { b.look(t, env, page, false) },
				func(t *testing.T, b *pair) { b.look(t, env, page, true) },
				func(t *testing.T, b *pair) { b.drop(t, env, page) })
		}
		l = append(l,
			func(t *testing.T, b *pair) { b.dropFrame(t, env, 0) },
			func(t *testing.T, b *pair) { b.dropFrame(t, -1, env) },
			func(t *testing.T, b *pair) { b.dropEnv(t, env) })
	}
	return append(l,
		func(t *testing.T, b *pair) { b.load(t, Entry{Env: wantEnvs}) },
		func(t *testing.T, b *pair) { b.look(t, 2, 0, false) },
		func(t *testing.T, b *pair) { b.dropEnv(t, -1) })
}

// rows calls each row of so many steps on what was loaded ahead of it, and holds all behind it, and the order.
func rows(t *testing.T, count int, ahead ...Entry) {
	l := steps()
	all := 1
	for range count {
		all *= len(l)
	}
	for row := range all {
		b := both(t, ahead...)
		for range count {
			l[row%len(l)](t, b)
			row /= len(l)
		}
		b.holdOrder(t)
		if t.Failed() {
			return
		}
	}
}

// P11.1 to P11.3: all rows of up to three calls, on the zero Tlb, and on ones that are full, or nearly.
func TestAllRows(t *testing.T) {
	for count := 1; count <= 3; count++ {
		rows(t, count)
		rows(t, count, append(some(12), Entry{0, 0, 0, false}, Entry{1, 0, 0, true}, Entry{0, 1, 1, true})...)
		rows(t, count, append([]Entry{{1, 0, 1, false}, {1, 1, 0, true}}, some(14)...)...)
	}
}

// P11.1 to P11.3: many calls in turn, right ones and wrong ones, with few pages and with many.
func TestMany(t *testing.T) {
	for round := range 24 {
		b, mix := both(t), uint64(round)
		// some tells a number below most that looks mixed, the same ones each time.
		some := func(most int) int {
			mix = mix*6364136223846793005 + 1442695040888963407
			return int(mix >> 33 % uint64(most))
		}
		envs, pages, frames := 1+round%wantEnvs, 2+round*3, 1+round*2%wantFrames
		for range 2000 {
			env, page, frame, write := some(envs+2)-1, some(pages+1)-1, some(frames+2)-1, some(2) == 0
			switch kind := some(40); {
			case kind < 14:
				b.load(t, Entry{env, page, frame, write})
			case kind < 34:
				b.look(t, env, page, write)
			case kind < 37:
				b.drop(t, env, page)
			case kind < 39:
				b.dropFrame(t, env, frame)
			case some(4) == 0:
				b.dropEnv(t, env)
			}
			b.hold(t)
			if t.Failed() {
				return
			}
		}
		b.holdOrder(t)
	}
}

// Each Tlb has its own translations, and its own hits and misses.
func TestApart(t *testing.T) {
	x, y := both(t, some(wantRoom)...), both(t, crowd()[:5]...)
	for _, e := range some(wantRoom) {
		y.look(t, e.Env, e.Page, false)
		y.drop(t, e.Env, e.Page)
	}
	y.dropFrame(t, -1, 5)
	x.hold(t)
	x.dropEnv(t, 0)
	x.look(t, 1, 1, false)
	y.holdOrder(t)
	x.holdOrder(t)
}
