package caps

import (
	"fmt"
	"math"
	"slices"
	"strings"
	"testing"

	"remontoire/api"
)

// These are what the chapter and the document say of the limits.
const (
	wantEnvs   = 8
	wantSlots  = 16
	wantFrames = 32
	wantAll    = 15
	wantKinds  = 4
)

// far are numbers that are of no environment, slot, kind, object or rights.
var far = []int{math.MinInt, math.MinInt + 1, -1 << 32, -wantFrames, -wantSlots, -wantEnvs, -2, -1, wantFrames, 1 << 16, 1 << 32, 1<<32 + 1, math.MaxInt - 1, math.MaxInt}

// envs are environments at which what is told may change, and numbers far off; slots and kinds are the same of these.
var (
	envs  = append([]int{0, 1, wantEnvs - 2, wantEnvs - 1, wantEnvs}, far...)
	slots = append([]int{0, 1, wantSlots - 2, wantSlots - 1, wantSlots}, far...)
	kinds = append([]int{0, 1, 2, 3, wantKinds, wantKinds + 1}, far...)
)

// one is a capability of the plain list: its slot, and the one that it comes of; nil: it comes of none.
type one struct {
	s  Slot
	of *one
}

// comes tells whether it comes of another one, by however many steps.
func (o *one) comes(of *one) bool {
	for x := o.of; x != nil; x = x.of {
		if x == of {
			return true
		}
	}
	return false
}

// plain is a list of capabilities in the order in which they were put, against which a forest's answers are held.
type plain struct{ l []*one }

// at tells the capability in a slot; nil: there is none.
func (p *plain) at(env, slot int) *one {
	for _, o := range p.l {
		if o.s.Env == env && o.s.Slot == slot {
			return o
		}
	}
	return nil
}

// get tells what Get must answer.
func (p *plain) get(env, slot int) (Cap, bool) {
	if o := p.at(env, slot); o != nil {
		return o.s.C, true
	}
	return Cap{}, false
}

// list tells what List must answer.
func (p *plain) list(env int) []Slot {
	var l []Slot
	for slot := range wantSlots {
		if o := p.at(env, slot); o != nil {
			l = append(l, o.s)
		}
	}
	return l
}

// free tells what Free must answer.
func (p *plain) free(env int) int {
	for slot := range wantSlots {
		if isEnv(env) && p.at(env, slot) == nil {
			return slot
		}
	}
	return -1
}

// find tells what Find must answer.
func (p *plain) find(env, kind, object int) int {
	rights := 0
	for _, o := range p.l {
		if o.s.Env == env && o.s.C.Kind == kind && o.s.C.Object == object {
			rights |= o.s.C.Rights
		}
	}
	return rights
}

// isEnv tells whether there is such an environment.
func isEnv(env int) bool { return env >= 0 && env < wantEnvs }

// right tells whether a capability may be.
func right(c Cap) bool {
	return c.Kind >= 1 && c.Kind <= wantKinds && c.Object >= 0 && c.Object < wantFrames && c.Rights >= 0 && c.Rights <= wantAll
}

// put puts one, and tells what is answered.
func (p *plain) put(env, slot int, c Cap, of *one) api.Errno {
	if !right(c) || !isEnv(env) || slot < 0 || slot >= wantSlots {
		return api.ErrArg
	}
	if p.at(env, slot) != nil {
		return api.ErrTwice
	}
	p.l = append(p.l, &one{Slot{env, slot, c}, of})
	return api.OK
}

// allows tells whether each of the rights asked for is among those that there are.
func allows(has, asked int) bool {
	if asked < 0 || asked > wantAll {
		return false
	}
	for _, r := range []int{1, 2, 4, 8} {
		if asked/r%2 == 1 && has/r%2 == 0 {
			return false
		}
	}
	return true
}

// branch puts one that comes of another one, and tells what is answered.
func (p *plain) branch(env, from, other, to, rights, needed int) api.Errno {
	o := p.at(env, from)
	if o == nil || !allows(o.s.C.Rights, rights) || !allows(o.s.C.Rights, needed) {
		return api.ErrCap
	}
	return p.put(other, to, Cap{o.s.C.Kind, o.s.C.Object, rights}, o)
}

// goes takes away what is asked for, and tells it.
func (p *plain) goes(asked func(*one) bool) []Slot {
	var went []Slot
	var left []*one
	gone := map[*one]bool{}
	for _, o := range p.l {
		if asked(o) {
			went = append(went, o.s)
			gone[o] = true
		} else {
			left = append(left, o)
		}
	}
	for _, o := range left {
		if gone[o.of] {
			o.of = nil
		}
	}
	p.l = left
	return went
}

// revoke takes away what comes of a slot's capability, and tells what is answered.
func (p *plain) revoke(env, slot int) ([]Slot, api.Errno) {
	o := p.at(env, slot)
	if o == nil || !allows(o.s.C.Rights, 8) {
		return nil, api.ErrCap
	}
	return p.goes(func(x *one) bool { return x.comes(o) }), api.OK
}

// drop takes a slot's capability away, with what comes of it, and tells what is answered.
func (p *plain) drop(env, slot int) ([]Slot, api.Errno) {
	o := p.at(env, slot)
	if o == nil {
		return nil, api.ErrCap
	}
	return p.goes(func(x *one) bool { return x == o || x.comes(o) }), api.OK
}

// pair is a forest, the plain list that it must be like, and what was called on both.
type pair struct {
	x      *Forest
	p      plain
	called []called
}

// called is a call, and what it was given.
type called struct {
	what string
	args [5]int
	n    int
}

// both tells a forest and a list behind these calls.
func both(t *testing.T, calls ...func(*testing.T, *pair)) *pair {
	b := &pair{x: &Forest{}}
	for _, call := range calls {
		call(t, b)
	}
	b.hold(t)
	return b
}

// note keeps what is called; it is put into words only where a test says it.
func (b *pair) note(what string, args ...int) {
	c := called{what: what, n: len(args)}
	copy(c.args[:], args)
	b.called = append(b.called, c)
}

// calls tells what was called, for what a test says.
func (b *pair) calls() string {
	var l []string
	for _, c := range b.called[max(0, len(b.called)-24):] {
		l = append(l, fmt.Sprint(c.what, c.args[:c.n]))
	}
	return fmt.Sprint(len(b.called), " calls .. ", strings.Join(l, ", "))
}

// holdError holds a call's error.
func (b *pair) holdError(t *testing.T, got, want api.Errno) {
	if got != want {
		t.Errorf("%s: error %d, not %d", b.calls(), got, want)
	}
}

// holdWent holds what went, and the error beside it.
func (b *pair) holdWent(t *testing.T, got []Slot, e api.Errno, want []Slot, wantError api.Errno) {
	if !slices.Equal(got, want) {
		t.Errorf("%s: %v went, not %v", b.calls(), got, want)
	}
	b.holdError(t, e, wantError)
}

// root puts a root in both, and holds the answers.
func (b *pair) root(t *testing.T, env, slot int, c Cap) {
	b.note("Root", env, slot, c.Kind, c.Object, c.Rights)
	b.holdError(t, b.x.Root(env, slot, c), b.p.put(env, slot, c, nil))
}

// derive derives in both, and holds the answers.
func (b *pair) derive(t *testing.T, env, from, to, rights int) {
	b.note("Derive", env, from, to, rights)
	b.holdError(t, b.x.Derive(env, from, to, rights), b.p.branch(env, from, env, to, rights, 0))
}

// give gives in both, and holds the answers.
func (b *pair) give(t *testing.T, env, from, other, to, rights int) {
	b.note("Give", env, from, other, to, rights)
	b.holdError(t, b.x.Give(env, from, other, to, rights), b.p.branch(env, from, other, to, rights, 4))
}

// revoke revokes in both, and holds the answers.
func (b *pair) revoke(t *testing.T, env, slot int) {
	b.note("Revoke", env, slot)
	want, wantError := b.p.revoke(env, slot)
	got, e := b.x.Revoke(env, slot)
	b.holdWent(t, got, e, want, wantError)
}

// drop drops in both, and holds the answers.
func (b *pair) drop(t *testing.T, env, slot int) {
	b.note("Drop", env, slot)
	want, wantError := b.p.drop(env, slot)
	got, e := b.x.Drop(env, slot)
	b.holdWent(t, got, e, want, wantError)
}

// purge purges both, and holds the answers.
func (b *pair) purge(t *testing.T, kind, object int) {
	b.note("Purge", kind, object)
	want := b.p.goes(func(o *one) bool { return o.s.C.Kind == kind && o.s.C.Object == object })
	b.holdWent(t, b.x.Purge(kind, object), api.OK, want, api.OK)
}

// holdSlot holds Get of a slot, and Has of what it has, of nothing, and of more.
func (b *pair) holdSlot(t *testing.T, env, slot int) {
	want, wantOk := b.p.get(env, slot)
	if got, ok := b.x.Get(env, slot); got != want || ok != wantOk {
		t.Errorf("%s: Get %d, %d: %v, %v, not %v", b.calls(), env, slot, got, ok, want)
	}
	for _, rights := range []int{0, want.Rights, want.Rights ^ wantAll} {
		b.holdHas(t, env, slot, want.Kind, rights)
	}
	b.holdHas(t, env, slot, want.Kind+1, 0)
}

// holdHas holds Has.
func (b *pair) holdHas(t *testing.T, env, slot, kind, rights int) {
	want, wantOk := b.p.get(env, slot)
	if !wantOk || want.Kind != kind || !allows(want.Rights, rights) {
		want, wantOk = Cap{}, false
	}
	if got, ok := b.x.Has(env, slot, kind, rights); got != want || ok != wantOk {
		t.Errorf("%s: Has %d, %d, %d, %d: %v, %v, not %v", b.calls(), env, slot, kind, rights, got, ok, want)
	}
}

// holdEnv holds List and Free of an environment, and Find of all that anybody has, and of what is next to it.
func (b *pair) holdEnv(t *testing.T, env int) {
	if got, want := b.x.List(env), b.p.list(env); !slices.Equal(got, want) {
		t.Errorf("%s: List %d: %v, not %v", b.calls(), env, got, want)
	}
	if got, want := b.x.Free(env), b.p.free(env); got != want {
		t.Errorf("%s: Free %d: %d, not %d", b.calls(), env, got, want)
	}
	asked := map[[2]int]bool{{}: true, {1, 0}: true}
	for _, o := range b.p.l {
		asked[[2]int{o.s.C.Kind, o.s.C.Object}] = true
		asked[[2]int{o.s.C.Kind, o.s.C.Object + 1}] = true
		asked[[2]int{o.s.C.Kind - 1, o.s.C.Object}] = true
	}
	for x := range asked {
		if got, want := b.x.Find(env, x[0], x[1]), b.p.find(env, x[0], x[1]); got != want {
			t.Errorf("%s: Find %d, %v: %d, not %d", b.calls(), env, x, got, want)
		}
	}
}

// hold holds all that a forest tells without a change.
func (b *pair) hold(t *testing.T) {
	for env := -1; env <= wantEnvs; env++ {
		b.holdEnv(t, env)
		for slot := -1; slot <= wantSlots; slot++ {
			b.holdSlot(t, env, slot)
		}
	}
	b.holdRights(t)
}

// holdRights holds P12.4: of each that comes of another one, the forest tells no right that the other one hasn't.
func (b *pair) holdRights(t *testing.T) {
	for _, o := range b.p.l {
		for up := o.of; up != nil; up = up.of {
			has, ok := b.x.Get(o.s.Env, o.s.Slot)
			above, aboveOk := b.x.Get(up.s.Env, up.s.Slot)
			if !ok || !aboveOk || has.Rights&^above.Rights != 0 || has.Kind != above.Kind || has.Object != above.Object {
				t.Errorf("%s: %v comes of %v", b.calls(), has, above)
			}
		}
	}
}

// holdOrder drops the roots one by one, the last one first, so that what comes of what, and the order of all, is held.
func (b *pair) holdOrder(t *testing.T) {
	b.hold(t)
	for len(b.p.l) > 0 {
		i := len(b.p.l) - 1
		for b.p.l[i].of != nil {
			i--
		}
		b.drop(t, b.p.l[i].s.Env, b.p.l[i].s.Slot)
	}
	b.hold(t)
}

// root, derive and give tell such a call.
func root(env, slot, kind, object, rights int) func(*testing.T, *pair) {
	return func(t *testing.T, b *pair) { b.root(t, env, slot, Cap{kind, object, rights}) }
}

func derive(env, from, to, rights int) func(*testing.T, *pair) {
	return func(t *testing.T, b *pair) { b.derive(t, env, from, to, rights) }
}

func give(env, from, other, to, rights int) func(*testing.T, *pair) {
	return func(t *testing.T, b *pair) { b.give(t, env, from, other, to, rights) }
}

// must calls a step of which a test needs that it is done.
func must(t *testing.T, e api.Errno) {
	t.Helper()
	if e != api.OK {
		t.Fatalf("error %d", e)
	}
}

// The chapter's example; the names and limits are the document's.
func TestExample(t *testing.T) {
	if api.MaxEnvs != wantEnvs || api.MaxSlots != wantSlots || api.MaxFrames != wantFrames {
		t.Error("limits")
	}
	if Frame != 1 || Line != 2 || Env != 3 || Cpu != 4 || Read != 1 || Write != 2 || Grant != 4 || Revoke != 8 || All != wantAll {
		t.Error("names")
	}
	f := &Forest{}
	must(t, f.Root(0, 0, Cap{Kind: Frame, Object: 3, Rights: All}))
	must(t, f.Give(0, 0, 1, 2, Read))
	if got := f.Find(1, Frame, 3); got != Read {
		t.Errorf("Find: %d", got)
	}
	l, e := f.Revoke(0, 0)
	if want := []Slot{{Env: 1, Slot: 2, C: Cap{Frame, 3, Read}}}; !slices.Equal(l, want) || e != api.OK {
		t.Errorf("Revoke: %v, error %d", l, e)
	}
	if got := f.Find(1, Frame, 3); got != 0 {
		t.Errorf("Find behind Revoke: %d", got)
	}
	if c, ok := f.Get(0, 0); c != (Cap{Frame, 3, All}) || !ok {
		t.Errorf("Get behind Revoke: %v, %v", c, ok)
	}
}

// P12.1: Right of each kind, object and rights near the edges, and far off.
func TestRight(t *testing.T) {
	for _, x := range []struct {
		c    Cap
		want bool
	}{
		{Cap{}, false}, {Cap{Kind: 0, Object: 3, Rights: 3}, false}, {Cap{Kind: 1}, true}, {Cap{Kind: 4}, true}, {Cap{Kind: 5}, false}, {Cap{Kind: -1}, false},
		{Cap{Kind: 2, Object: -1}, false}, {Cap{Kind: 2, Object: 0}, true}, {Cap{Kind: 2, Object: 31}, true}, {Cap{Kind: 2, Object: 32}, false},
		{Cap{Kind: 3, Rights: -1}, false}, {Cap{Kind: 3, Rights: 0}, true}, {Cap{Kind: 3, Rights: 15}, true}, {Cap{Kind: 3, Rights: 16}, false},
		{Cap{Frame, 31, All}, true}, {Cap{Cpu, 31, All}, true},
	} {
		if got := x.c.Right(); got != x.want {
			t.Errorf("Right of %v: %v", x.c, got)
		}
	}
	for kind := -2; kind < 8; kind++ {
		for object := -2; object < 40; object++ {
			for rights := -2; rights < 40; rights++ {
				if c := (Cap{kind, object, rights}); c.Right() != right(c) {
					t.Errorf("Right of %v: %v", c, c.Right())
				}
			}
		}
	}
	for _, n := range far {
		for _, c := range []Cap{{n, 1, 1}, {1, n, 1}, {1, 1, n}, {n, n, n}, {1, 1, n + 1<<8}, {1 + n<<8, 1, 1}} {
			if c.Right() != right(c) {
				t.Errorf("Right of %v: %v", c, c.Right())
			}
		}
	}
}

// full tells a forest and a list with a capability of its own in each slot.
func full(t *testing.T) *pair {
	b := &pair{x: &Forest{}}
	for i := range wantEnvs * wantSlots {
		b.root(t, i%wantEnvs, i/wantEnvs*7%wantSlots, Cap{1 + i%wantKinds, i * 5 % wantFrames, i * 3 % (wantAll + 1)})
	}
	return b
}

// P12.1: Get of every slot near the edges, and far off, of a forest with none, with one in each corner, and with all.
func TestGet(t *testing.T) {
	corner := both(t, root(0, 0, Frame, 0, 0), root(0, 15, Line, 31, All), root(7, 0, Env, 7, Read), root(7, 15, Cpu, 0, Grant))
	for _, b := range []*pair{both(t), corner, full(t)} {
		for _, env := range envs {
			for _, slot := range slots {
				b.holdSlot(t, env, slot)
			}
		}
		b.hold(t)
	}
	if c, ok := corner.x.Get(0, 15); c != (Cap{Line, 31, All}) || !ok {
		t.Errorf("Get 0, 15: %v, %v", c, ok)
	}
	if c, ok := corner.x.Get(0, 0); c != (Cap{Kind: Frame}) || !ok {
		t.Errorf("Get 0, 0: %v, %v", c, ok)
	}
	if c, ok := corner.x.Get(1, 0); c != (Cap{}) || ok {
		t.Errorf("Get 1, 0: %v, %v", c, ok)
	}
}

// P12.1: Has of each kind with all rights, against each kind and all rights; of another slot there is none.
func TestHas(t *testing.T) {
	for kind := 1; kind <= wantKinds; kind++ {
		for rights := 0; rights <= wantAll; rights++ {
			b := both(t, root(2, 9, kind, 6, rights))
			for _, asked := range kinds {
				for more := range 4 * (wantAll + 1) {
					b.holdHas(t, 2, 9, asked, more)
				}
				for _, more := range []int{1 << 8, 1<<32 + rights, 1 << 62, math.MaxInt} {
					b.holdHas(t, 2, 9, asked, more)
				}
			}
			for _, n := range slots {
				b.holdHas(t, 2, n, kind, 0)
				b.holdHas(t, n, 9, kind, 0)
			}
		}
	}
	f := &Forest{}
	must(t, f.Root(1, 1, Cap{Env, 5, Read | Write}))
	for _, x := range []struct {
		kind, rights int
		want         bool
	}{{Env, 0, true}, {Env, Read, true}, {Env, Write, true}, {Env, Read | Write, true}, {Env, Grant, false}, {Env, Read | Revoke, false}, {Env, All, false}, {Cpu, Read, false}, {Line, 0, false}, {0, 0, false}} {
		want := Cap{}
		if x.want {
			want = Cap{Env, 5, Read | Write}
		}
		if c, ok := f.Has(1, 1, x.kind, x.rights); c != want || ok != x.want {
			t.Errorf("%v: %v, %v", x, c, ok)
		}
	}
	if c, ok := f.Has(1, 2, 0, 0); c != (Cap{}) || ok {
		t.Errorf("Has of an empty slot: %v, %v", c, ok)
	}
}

// P12.1: Find tells the rights of all capabilities of an environment to a thing together, and of no other ones.
func TestFind(t *testing.T) {
	b := both(t,
		root(3, 0, Frame, 4, Read), root(3, 7, Frame, 4, Grant), root(3, 15, Frame, 4, Read|Grant),
		root(3, 1, Frame, 5, Revoke), root(3, 2, Line, 4, Write), root(2, 3, Frame, 4, Write), root(4, 3, Frame, 4, All),
		root(0, 0, Cpu, 0, Write), root(0, 15, Cpu, 0, Revoke), root(7, 0, Env, 31, 0), root(7, 15, Env, 31, Write))
	for _, x := range []struct{ env, kind, object, want int }{
		{3, Frame, 4, Read | Grant}, {3, Frame, 5, Revoke}, {3, Line, 4, Write}, {2, Frame, 4, Write}, {4, Frame, 4, All},
		{3, Line, 5, 0}, {5, Frame, 4, 0}, {3, Env, 4, 0}, {3, Frame, 3, 0}, {-1, Frame, 4, 0}, {8, Frame, 4, 0},
		{0, Cpu, 0, Write | Revoke}, {7, Env, 31, Write}, {-1, Cpu, 0, 0}, {8, Env, 31, 0}, {0, 0, 0, 0}, {7, Env, 32, 0},
	} {
		if got := b.x.Find(x.env, x.kind, x.object); got != x.want {
			t.Errorf("%v: %d", x, got)
		}
	}
	for _, b := range []*pair{b, both(t), full(t)} {
		for _, env := range envs {
			for _, kind := range kinds {
				for _, object := range append([]int{0, 1, 3, 4, 5, 30, 31}, far...) {
					if got, want := b.x.Find(env, kind, object), b.p.find(env, kind, object); got != want {
						t.Errorf("Find %d, %d, %d: %d, not %d", env, kind, object, got, want)
					}
				}
			}
		}
	}
	// What is in any of the slots counts, and what went counts no more.
	for slot := range wantSlots {
		b := both(t, root(6, slot, Line, 2, Write), root(6, (slot+5)%wantSlots, Line, 2, Read))
		b.drop(t, 6, slot)
		b.hold(t)
	}
}

// P12.1: Free and List of an environment as its slots are filled, in several orders, and left one by one.
func TestListFree(t *testing.T) {
	for _, by := range []int{1, 3, 5, 7, 9, 11, 13, 15} {
		for _, env := range []int{0, 3, wantEnvs - 1} {
			b := both(t)
			for i := range wantSlots {
				b.root(t, env, i*by%wantSlots, Cap{Frame, i, Read})
				b.hold(t)
			}
			if got := b.x.Free(env); got != -1 {
				t.Errorf("Free of sixteen: %d", got)
			}
			for i := range wantSlots {
				b.drop(t, env, (i*by+5)%wantSlots)
				b.hold(t)
			}
		}
	}
}

// P12.1: Free of an environment with none, with one in the middle gone, and with all; of none below 0 or above 7.
func TestFree(t *testing.T) {
	b := full(t)
	for _, env := range envs {
		b.holdEnv(t, env)
		if got := b.x.Free(env); got != -1 {
			t.Errorf("Free %d of all: %d", env, got)
		}
		want := -1
		if isEnv(env) {
			want = 0
		}
		if got := (&Forest{}).Free(env); got != want {
			t.Errorf("Free %d of none: %d, not %d", env, got, want)
		}
	}
	for env := range wantEnvs {
		for slot := range wantSlots {
			b := full(t)
			b.drop(t, env, slot)
			if got := b.x.Free(env); got != slot {
				t.Errorf("Free %d without %d: %d", env, slot, got)
			}
			b.drop(t, env, wantSlots-1)
			b.drop(t, env, slot/2)
			if got := b.x.Free(env); got != slot/2 {
				t.Errorf("Free %d without %d, %d: %d", env, slot, slot/2, got)
			}
			b.holdEnv(t, env)
		}
	}
}

// P12.1, P12.3: what is told is new memory each time, and stays as it is.
func TestOwnMemory(t *testing.T) {
	b := row(t)
	spoil := func(l []Slot) {
		for i := range l {
			l[i] = Slot{5, 5, Cap{Cpu, 9, All}}
		}
		_ = append(l[:cap(l)], Slot{5, 6, Cap{Cpu, 9, All}})
	}
	for env := range wantEnvs {
		spoil(b.x.List(env))
	}
	b.hold(t)
	kept, want := b.x.List(0), b.p.list(0)
	for _, call := range []func() []Slot{
		func() []Slot { l, _ := b.x.Revoke(2, 5); b.p.revoke(2, 5); return l },
		func() []Slot { l, _ := b.x.Drop(0, 1); b.p.drop(0, 1); return l },
		func() []Slot {
			b.p.goes(func(o *one) bool { return o.s.C.Kind == Frame && o.s.C.Object == 9 })
			return b.x.Purge(Frame, 9)
		},
	} {
		l := call()
		if len(l) == 0 {
			t.Error("nothing went")
		}
		spoil(l)
		b.hold(t)
	}
	b.root(t, 0, 1, Cap{Line, 1, All})
	if !slices.Equal(kept, want) {
		t.Errorf("List 0, kept: %v, not %v", kept, want)
	}
	b.holdOrder(t)
}

// P12.2: Root in each slot, and what is put is there; once more it is ErrTwice.
func TestRoot(t *testing.T) {
	for env := range wantEnvs {
		for slot := range wantSlots {
			b := both(t, root(env, slot, Cpu, slot, env))
			b.root(t, env, slot, Cap{Cpu, slot, env})
			b.root(t, env, slot, Cap{Line, 1, All})
			b.hold(t)
		}
	}
	b := full(t)
	for env := range wantEnvs {
		for slot := range wantSlots {
			b.root(t, env, slot, Cap{Frame, 3, All})
		}
	}
	b.holdOrder(t)
}

// P12.2: Root of what isn't Right, of a slot that there isn't, of one that has one, and of several of these at once; nothing changes.
func TestRootWrong(t *testing.T) {
	f := &Forest{}
	must(t, f.Root(3, 4, Cap{Frame, 1, Read}))
	good := Cap{Line, 2, All}
	for _, x := range []struct {
		env, slot int
		c         Cap
		want      api.Errno
	}{
		{3, 4, good, api.ErrTwice}, {3, 4, Cap{Kind: 5}, api.ErrArg}, {3, 4, Cap{Frame, 32, 0}, api.ErrArg}, {3, 4, Cap{Frame, 1, 16}, api.ErrArg},
		{3, 16, good, api.ErrArg}, {3, -1, good, api.ErrArg}, {8, 4, good, api.ErrArg}, {-1, 4, good, api.ErrArg}, {8, 16, Cap{}, api.ErrArg},
		{3, 5, Cap{}, api.ErrArg}, {3, 5, Cap{Frame, -1, 0}, api.ErrArg}, {3, 5, Cap{Frame, 1, -1}, api.ErrArg},
		{3, 5, good, api.OK}, {3, 5, good, api.ErrTwice},
	} {
		if e := f.Root(x.env, x.slot, x.c); e != x.want {
			t.Errorf("%v: error %d", x, e)
		}
	}
	b := both(t, root(1, 3, Frame, 1, All), derive(1, 3, 5, Read))
	for _, env := range envs {
		for _, slot := range append([]int{3, 5}, slots...) {
			for _, c := range []Cap{{}, {5, 1, 1}, {1, 32, 1}, {1, 1, 16}, {-1, 1, 1}, {1, -1, 1}, {1, 1, -1}} {
				b.root(t, env, slot, c)
			}
			if !isEnv(env) || slot < 0 || slot >= wantSlots {
				b.root(t, env, slot, good)
			}
		}
	}
	b.holdOrder(t)
}

// odd are rights that may be asked for: none, each, several, all, and numbers that are none.
func odd() []int {
	var l []int
	for n := -wantAll - 3; n <= 3*wantAll+3; n++ {
		l = append(l, n)
	}
	return append(l, append([]int{1 << 8, 1<<8 | 1, 1<<16 | 3, 1<<32 | 15, 1 << 62}, far...)...)
}

// P12.2, P12.4: Derive and Give of all rights of all rights: only those that it has are passed, of Give only if Grant is among them.
func TestBranchRights(t *testing.T) {
	for kind := 1; kind <= wantKinds; kind++ {
		for has := 0; has <= wantAll; has++ {
			for _, rights := range odd() {
				b := both(t, root(5, 3, kind, 20+kind, has))
				b.derive(t, 5, 3, 8, rights)
				b.give(t, 5, 3, 6, 9, rights)
				b.give(t, 5, 3, 5, 10, rights)
				fits := rights >= 0 && rights <= wantAll && rights&^has == 0
				if _, ok := b.x.Get(5, 8); ok != fits {
					t.Errorf("Derive of %d of %d: %v", rights, has, ok)
				}
				if _, ok := b.x.Get(6, 9); ok != (fits && has&Grant != 0) {
					t.Errorf("Give of %d of %d: %v", rights, has, ok)
				}
				for _, at := range [][2]int{{5, 8}, {6, 9}, {5, 10}} {
					if c, ok := b.x.Get(at[0], at[1]); ok && (c != Cap{kind, 20 + kind, rights} || c.Rights&^has != 0) {
						t.Errorf("%d of %d: %v", rights, has, c)
					}
					b.holdSlot(t, at[0], at[1])
				}
				b.holdRights(t)
			}
		}
	}
}

// P12.2: Derive and Give from each slot near the edges to each, where there are one with all rights, one with none, and empty ones; nothing changes where they are refused.
func TestBranchSlots(t *testing.T) {
	ahead := []func(*testing.T, *pair){root(0, 0, Frame, 1, All), root(0, 15, Frame, 2, 0), root(7, 0, Line, 3, All), root(7, 15, Cpu, 4, Read), root(1, 1, Env, 5, All)}
	some := []int{-1, 0, 1, 14, 15, 16, math.MinInt, math.MaxInt, 1 << 32}
	for _, env := range append([]int{-1, 1, 7, 8}, 0, math.MinInt, 1<<32) {
		for _, from := range some {
			for _, to := range some {
				for _, rights := range []int{-1, 0, Read, All, All + 1, 1<<32 + 1} {
					b := both(t, ahead...)
					b.derive(t, env, from, to, rights)
					b.holdEnv(t, 0)
					for _, other := range []int{-1, 0, 1, 7, 8, math.MaxInt} {
						b.give(t, env, from, other, to, rights)
					}
				}
			}
			b := both(t, ahead...)
			b.derive(t, env, from, 9, 0)
			b.give(t, env, from, 7, 9, Read)
			b.holdOrder(t)
		}
	}
}

// P12.2: which error comes first of Derive, where several hold.
func TestDeriveErrors(t *testing.T) {
	f := &Forest{}
	must(t, f.Root(2, 1, Cap{Frame, 7, Read | Write}))
	must(t, f.Root(2, 2, Cap{Frame, 8, All}))
	for _, x := range []struct {
		env, from, to, rights int
		want                  api.Errno
	}{
		{2, 3, 4, Read, api.ErrCap}, {2, 3, 16, Read, api.ErrCap}, {2, 3, 2, Read, api.ErrCap}, {2, 3, 4, -1, api.ErrCap}, {2, 3, 4, 0, api.ErrCap},
		{2, -1, 4, Read, api.ErrCap}, {2, 16, 4, Read, api.ErrCap}, {2, 16, 16, Read, api.ErrCap}, {-1, 1, 4, Read, api.ErrCap}, {8, 1, 4, Read, api.ErrCap},
		{3, 1, 4, Read, api.ErrCap}, {2, 1, 4, -1, api.ErrCap}, {2, 1, 16, -1, api.ErrCap}, {2, 1, 2, -1, api.ErrCap},
		{2, 1, 4, Grant, api.ErrCap}, {2, 1, 4, Read | Revoke, api.ErrCap}, {2, 1, 4, All, api.ErrCap}, {2, 1, 4, All + 1, api.ErrCap}, {2, 2, 4, All + 1, api.ErrCap},
		{2, 1, 16, Grant, api.ErrCap}, {2, 1, 2, Grant, api.ErrCap}, {2, 1, 1, Grant, api.ErrCap}, {2, 2, 2, 32, api.ErrCap}, {2, 2, 4, math.MinInt, api.ErrCap},
		{2, 1, 16, Read, api.ErrArg}, {2, 1, -1, Read, api.ErrArg}, {2, 1, math.MaxInt, 0, api.ErrArg}, {2, 1, math.MinInt, 0, api.ErrArg},
		{2, 1, 2, Read, api.ErrTwice}, {2, 1, 1, Read, api.ErrTwice}, {2, 2, 2, All, api.ErrTwice}, {2, 2, 1, 0, api.ErrTwice},
		{2, 1, 4, 0, api.OK}, {2, 1, 5, Read, api.OK}, {2, 1, 6, Read | Write, api.OK}, {2, 2, 0, All, api.OK}, {2, 2, 15, Revoke, api.OK},
		{2, 1, 4, Read, api.ErrTwice}, {2, 4, 7, 0, api.OK}, {2, 4, 8, Read, api.ErrCap}, {2, 5, 8, Write, api.ErrCap}, {2, 5, 8, Read, api.OK},
	} {
		if e := f.Derive(x.env, x.from, x.to, x.rights); e != x.want {
			t.Errorf("%v: error %d", x, e)
		}
	}
	want := []Slot{
		{2, 0, Cap{Frame, 8, All}}, {2, 1, Cap{Frame, 7, Read | Write}}, {2, 2, Cap{Frame, 8, All}}, {2, 4, Cap{Frame, 7, 0}}, {2, 5, Cap{Frame, 7, Read}},
		{2, 6, Cap{Frame, 7, Read | Write}}, {2, 7, Cap{Frame, 7, 0}}, {2, 8, Cap{Frame, 7, Read}}, {2, 15, Cap{Frame, 8, Revoke}},
	}
	if got := f.List(2); !slices.Equal(got, want) {
		t.Errorf("List: %v, not %v", got, want)
	}
}

// P12.2: which error comes first of Give, where several hold.
func TestGiveErrors(t *testing.T) {
	f := &Forest{}
	must(t, f.Root(2, 1, Cap{Line, 7, Read | Write}))
	must(t, f.Root(2, 2, Cap{Line, 8, Read | Grant}))
	must(t, f.Root(4, 0, Cap{Cpu, 0, 0}))
	for _, x := range []struct {
		env, from, other, to, rights int
		want                         api.Errno
	}{
		{2, 3, 5, 0, Read, api.ErrCap}, {2, 3, 8, 0, Read, api.ErrCap}, {2, 3, 4, 0, Read, api.ErrCap}, {2, 16, 5, 0, 0, api.ErrCap}, {-1, 2, 5, 0, 0, api.ErrCap}, {8, 2, 5, 0, 0, api.ErrCap},
		{2, 1, 5, 0, Read, api.ErrCap}, {2, 1, 5, 0, 0, api.ErrCap}, {2, 1, 8, 0, Read, api.ErrCap}, {2, 1, 5, 16, Read, api.ErrCap}, {2, 1, 4, 0, Read, api.ErrCap}, {2, 1, 2, 1, Read, api.ErrCap},
		{2, 2, 5, 0, Write, api.ErrCap}, {2, 2, 5, 0, -1, api.ErrCap}, {2, 2, 5, 0, All, api.ErrCap}, {2, 2, 5, 0, 16, api.ErrCap}, {2, 2, 5, 0, 16 | Read, api.ErrCap}, {2, 2, 5, 16, Write, api.ErrCap}, {2, 2, 4, 0, -1, api.ErrCap}, {2, 2, 9, 9, Revoke, api.ErrCap},
		{2, 2, 8, 0, Read, api.ErrArg}, {2, 2, -1, 0, Read, api.ErrArg}, {2, 2, 5, -1, Read, api.ErrArg}, {2, 2, 5, 16, Read, api.ErrArg}, {2, 2, math.MaxInt, math.MinInt, 0, api.ErrArg},
		{2, 2, 4, 0, Read, api.ErrTwice}, {2, 2, 2, 2, Read, api.ErrTwice}, {2, 2, 2, 1, 0, api.ErrTwice}, {2, 2, 2, 2, 0, api.ErrTwice},
		{2, 2, 5, 0, 0, api.OK}, {2, 2, 5, 1, Read, api.OK}, {2, 2, 0, 15, Read | Grant, api.OK}, {2, 2, 2, 3, Grant, api.OK}, {2, 2, 7, 15, Read, api.OK},
		{2, 2, 5, 1, Read, api.ErrTwice}, {5, 1, 6, 0, Read, api.ErrCap}, {0, 15, 6, 0, Read, api.OK}, {2, 3, 6, 1, Read, api.ErrCap}, {2, 3, 6, 1, Grant, api.OK}, {6, 0, 6, 2, 0, api.ErrCap},
	} {
		if e := f.Give(x.env, x.from, x.other, x.to, x.rights); e != x.want {
			t.Errorf("%v: error %d", x, e)
		}
	}
	for env, want := range [][]Slot{
		{{0, 15, Cap{Line, 8, Read | Grant}}}, nil, {{2, 1, Cap{Line, 7, Read | Write}}, {2, 2, Cap{Line, 8, Read | Grant}}, {2, 3, Cap{Line, 8, Grant}}}, nil,
		{{4, 0, Cap{Kind: Cpu}}}, {{5, 0, Cap{Line, 8, 0}}, {5, 1, Cap{Line, 8, Read}}}, {{6, 0, Cap{Line, 8, Read}}, {6, 1, Cap{Line, 8, Grant}}}, {{7, 15, Cap{Line, 8, Read}}},
	} {
		if got := f.List(env); !slices.Equal(got, want) {
			t.Errorf("List %d: %v, not %v", env, got, want)
		}
	}
}

// row tells capabilities to frame 9 that come of one another by up to four steps, in several environments and neither in the order of their slots nor of their steps, beside others to the same and to other things:
//
//	7 15 > 0 1 > 2 5 > 2 0 > 6 3
//	               > 1 0
//	           > 0 9 > 4 4
//	     > 3 15
//	5 5 > 0 0 (the same frame), 6 9 > 6 0 (line 9), 3 0 (frame 8)
func row(t *testing.T) *pair {
	return both(t,
		root(7, 15, Frame, 9, All),
		root(6, 9, Line, 9, All),
		give(7, 15, 0, 1, All),
		root(5, 5, Frame, 9, All),
		give(0, 1, 2, 5, Read|Grant|Revoke),
		give(7, 15, 3, 15, Read),
		derive(6, 9, 0, All),
		give(2, 5, 1, 0, Revoke),
		derive(0, 1, 9, All),
		give(5, 5, 0, 0, All),
		derive(2, 5, 0, Grant|Read),
		root(3, 0, Frame, 8, All),
		give(0, 9, 4, 4, Read),
		give(2, 0, 6, 3, 0))
}

// P12.3, P12.4: Revoke and Drop of each of a row, by hand: what goes, and in which order.
func TestRow(t *testing.T) {
	at := func(l ...int) []Slot {
		var s []Slot
		for i := 0; i < len(l); i += 3 {
			s = append(s, Slot{l[i], l[i+1], Cap{Frame, 9, l[i+2]}})
		}
		return s
	}
	for _, x := range []struct {
		env, slot int
		e         api.Errno // Revoke's
		below     []Slot
	}{
		{7, 15, api.OK, at(0, 1, 15, 2, 5, 13, 3, 15, 1, 1, 0, 8, 0, 9, 15, 2, 0, 5, 4, 4, 1, 6, 3, 0)},
		{0, 1, api.OK, at(2, 5, 13, 1, 0, 8, 0, 9, 15, 2, 0, 5, 4, 4, 1, 6, 3, 0)},
		{2, 5, api.OK, at(1, 0, 8, 2, 0, 5, 6, 3, 0)},
		{0, 9, api.OK, at(4, 4, 1)},
		{5, 5, api.OK, at(0, 0, 15)},
		{0, 0, api.OK, nil},
		{1, 0, api.OK, nil},
		{2, 0, api.ErrCap, at(6, 3, 0)},
		{3, 15, api.ErrCap, nil},
		{6, 3, api.ErrCap, nil},
		{4, 4, api.ErrCap, nil},
	} {
		b := row(t)
		want := x.below
		if x.e != api.OK {
			want = nil
		}
		l, e := b.x.Revoke(x.env, x.slot)
		b.p.revoke(x.env, x.slot)
		b.note("Revoke", x.env, x.slot)
		b.holdWent(t, l, e, want, x.e)
		b.revoke(t, x.env, x.slot)
		b.holdOrder(t)
		b = row(t)
		c, _ := b.x.Get(x.env, x.slot)
		want = append([]Slot{{x.env, x.slot, c}}, x.below...)
		l, e = b.x.Drop(x.env, x.slot)
		b.p.drop(x.env, x.slot)
		b.note("Drop", x.env, x.slot)
		b.holdWent(t, l, e, want, api.OK)
		if l, e := b.x.Drop(x.env, x.slot); len(l) != 0 || e != api.ErrCap {
			t.Errorf("Drop %d, %d, twice: %v, error %d", x.env, x.slot, l, e)
		}
		b.holdOrder(t)
	}
}

// P12.3: Revoke and Drop of every slot near the edges, and far off, of the row, once and twice.
func TestRevokeDropSlots(t *testing.T) {
	for _, env := range append([]int{2, 3, 4, 5}, envs...) {
		for _, slot := range append([]int{3, 4, 5, 9}, slots...) {
			b := row(t)
			for range 2 {
				b.revoke(t, env, slot)
				b.hold(t)
			}
			b = row(t)
			for range 2 {
				b.drop(t, env, slot)
				b.hold(t)
			}
			b.holdOrder(t)
		}
	}
}

// P12.3: Revoke with all rights but Revoke, with it alone, and with all: of one that something comes of, and of one that nothing does.
func TestRevokeRights(t *testing.T) {
	for has := 0; has <= wantAll; has++ {
		b := both(t, root(4, 2, Cpu, 6, has), derive(4, 2, 3, has), derive(4, 3, 4, has))
		want := api.OK
		if has&Revoke == 0 {
			want = api.ErrCap
		}
		l, e := b.x.Revoke(4, 4)
		if len(l) != 0 || e != want {
			t.Errorf("Revoke of %d: %v, error %d", has, l, e)
		}
		b.hold(t)
		b.revoke(t, 4, 2)
		b.holdOrder(t)
	}
}

// P12.4: behind Revoke nobody has anything that came of the capability, and the capability itself, what it comes of, and what comes of others is there still.
func TestNothingLeft(t *testing.T) {
	for _, x := range [][2]int{{7, 15}, {0, 1}, {2, 5}, {0, 9}, {5, 5}} {
		b := row(t)
		o := b.p.at(x[0], x[1])
		var below, others []Slot
		for _, y := range b.p.l {
			if y.comes(o) {
				below = append(below, y.s)
			} else {
				others = append(others, y.s)
			}
		}
		_, e := b.x.Revoke(x[0], x[1])
		must(t, e)
		for _, s := range below {
			if c, ok := b.x.Get(s.Env, s.Slot); c != (Cap{}) || ok {
				t.Errorf("behind Revoke of %v: %v has %v", x, s, c)
			}
		}
		for _, s := range others {
			if c, ok := b.x.Get(s.Env, s.Slot); c != s.C || !ok {
				t.Errorf("behind Revoke of %v: %v has %v, %v", x, s, c, ok)
			}
		}
	}
}

// P12.3: Purge of a thing of which there are none, one, and several, with what comes of them; what comes of others stays.
func TestPurge(t *testing.T) {
	for _, kind := range kinds {
		for _, object := range append([]int{0, 1, 7, 8, 9, 10, 31}, far...) {
			b := row(t)
			b.purge(t, kind, object)
			b.hold(t)
			b.purge(t, kind, object)
			b.holdOrder(t)
		}
	}
	b := row(t)
	want := []Slot{{6, 9, Cap{Line, 9, All}}, {6, 0, Cap{Line, 9, All}}}
	if l := b.x.Purge(Line, 9); !slices.Equal(l, want) {
		t.Errorf("Purge of line 9: %v", l)
	}
	if l := b.x.Purge(Frame, 8); !slices.Equal(l, []Slot{{3, 0, Cap{Frame, 8, All}}}) {
		t.Errorf("Purge of frame 8: %v", l)
	}
	if l := b.x.Purge(Frame, 7); len(l) != 0 {
		t.Errorf("Purge of frame 7: %v", l)
	}
	l := b.x.Purge(Frame, 9)
	if len(l) != 11 || l[0] != (Slot{7, 15, Cap{Frame, 9, All}}) || l[2] != (Slot{5, 5, Cap{Frame, 9, All}}) || l[10] != (Slot{6, 3, Cap{Frame, 9, 0}}) {
		t.Errorf("Purge of frame 9: %v", l)
	}
	for env := range wantEnvs {
		if l := b.x.List(env); len(l) != 0 {
			t.Errorf("List %d: %v", env, l)
		}
	}
	// A zero Cap is in each empty slot for one who doesn't look whether it is empty.
	if l := b.x.Purge(0, 0); len(l) != 0 {
		t.Errorf("Purge of nothing: %v", l)
	}
}

// P12.3: a slot that was left is filled anew, and what is there then comes of nothing that was there before, and nothing comes of it but what was put of it.
func TestFilledAnew(t *testing.T) {
	leave := []func(*testing.T, *pair){
		func(t *testing.T, b *pair) { b.drop(t, 0, 1) },
		func(t *testing.T, b *pair) { b.drop(t, 7, 15) },
		func(t *testing.T, b *pair) { b.revoke(t, 7, 15) },
		func(t *testing.T, b *pair) { b.purge(t, Frame, 9) },
		func(t *testing.T, b *pair) { b.purge(t, Frame, 9); b.purge(t, Line, 9) },
	}
	for _, left := range leave {
		for _, again := range []func(*testing.T, *pair){
			func(t *testing.T, b *pair) {
				b.root(t, 0, 1, Cap{Frame, 9, All})
				b.give(t, 0, 1, 2, 0, All)
				b.root(t, 2, 5, Cap{Frame, 9, All})
			},
			func(t *testing.T, b *pair) {
				b.root(t, 2, 5, Cap{Frame, 9, Grant | Revoke})
				b.give(t, 2, 5, 0, 1, Revoke)
				b.give(t, 2, 5, 7, 15, Grant)
			},
			func(t *testing.T, b *pair) {
				b.root(t, 7, 15, Cap{Cpu, 9, All})
				b.give(t, 3, 0, 0, 1, All)
				b.give(t, 0, 1, 2, 5, All)
				b.give(t, 6, 9, 4, 4, All)
			},
		} {
			for _, at := range [][2]int{{7, 15}, {0, 1}, {2, 5}, {2, 0}, {3, 0}, {5, 5}, {6, 9}} {
				for _, last := range []func(*pair){
					func(b *pair) { b.revoke(t, at[0], at[1]) },
					func(b *pair) { b.drop(t, at[0], at[1]) },
					func(b *pair) { b.purge(t, Frame, 9) },
				} {
					b := row(t)
					left(t, b)
					again(t, b)
					b.hold(t)
					last(b)
					b.holdOrder(t)
				}
			}
		}
	}
}

// P12.3: one that took a slot which was left comes last, though its slot is ahead of others'.
func TestFilledAnewOrder(t *testing.T) {
	f := &Forest{}
	must(t, f.Root(0, 0, Cap{Frame, 1, All}))
	for slot := 1; slot < 5; slot++ {
		must(t, f.Derive(0, 0, slot, Read|Revoke))
	}
	if l, e := f.Drop(0, 2); len(l) != 1 || e != api.OK {
		t.Errorf("Drop: %v, error %d", l, e)
	}
	must(t, f.Give(0, 0, 0, 2, Write))
	want := []Slot{{0, 1, Cap{Frame, 1, 9}}, {0, 3, Cap{Frame, 1, 9}}, {0, 4, Cap{Frame, 1, 9}}, {0, 2, Cap{Frame, 1, 2}}}
	if l, e := f.Revoke(0, 0); !slices.Equal(l, want) || e != api.OK {
		t.Errorf("Revoke: %v, error %d", l, e)
	}
}

// chain tells capabilities in all slots, each of which comes of the one ahead of it; star, each of which comes of the first one.
func chain(t *testing.T, step int, star bool) *pair {
	b := &pair{x: &Forest{}}
	const all = wantEnvs * wantSlots
	at := func(i int) (int, int) { i = i * step % all; return i / wantSlots, i % wantSlots }
	env, slot := at(0)
	b.root(t, env, slot, Cap{Env, 5, All})
	for i := 1; i < all; i++ {
		other, to := at(i)
		b.give(t, env, slot, other, to, All)
		if !star {
			env, slot = other, to
		}
	}
	return b
}

// P12.3: rows of all slots, one step long and 127 steps long, put in several orders: what goes is told in the order in which it was put.
func TestLong(t *testing.T) {
	for _, step := range []int{1, 3, 37, 127} {
		for _, star := range []bool{false, true} {
			for i := 0; i < wantEnvs*wantSlots; i += 9 {
				b := chain(t, step, star)
				s := b.p.l[i].s
				b.revoke(t, s.Env, s.Slot)
				b.hold(t)
				b.drop(t, s.Env, s.Slot)
				b.holdOrder(t)
			}
			b := chain(t, step, star)
			b.purge(t, Env, 4)
			b.purge(t, Line, 5)
			if l := b.x.Purge(Env, 5); len(l) != wantEnvs*wantSlots {
				t.Errorf("Purge of all: %d", len(l))
			}
			b.p.l = nil
			b.hold(t)
			b = chain(t, step, star)
			for len(b.p.l) > 1 {
				s := b.p.l[len(b.p.l)/2].s
				b.drop(t, s.Env, s.Slot)
			}
			b.holdOrder(t)
		}
	}
}

// The zero Forest has no capabilities; nothing comes of nothing, and nothing goes.
func TestZero(t *testing.T) {
	b := both(t)
	for env := -1; env <= wantEnvs; env++ {
		for slot := -1; slot <= wantSlots; slot++ {
			b.derive(t, env, slot, 3, 0)
			b.give(t, env, slot, 3, 3, 0)
			b.revoke(t, env, slot)
			b.drop(t, env, slot)
			b.purge(t, env, slot)
		}
		if l := b.x.List(env); len(l) != 0 {
			t.Errorf("List %d: %v", env, l)
		}
	}
	b.hold(t)
	var f Forest
	if c, ok := f.Get(0, 0); c != (Cap{}) || ok {
		t.Errorf("Get: %v, %v", c, ok)
	}
	if n := f.Free(0); n != 0 {
		t.Errorf("Free: %d", n)
	}
	if e := f.Root(0, 0, Cap{Kind: Frame}); e != api.OK {
		t.Errorf("Root: error %d", e)
	}
	// One without rights, to thing 0, is one all the same.
	if c, ok := f.Has(0, 0, Frame, 0); c != (Cap{Kind: Frame}) || !ok || f.Free(0) != 1 || len(f.List(0)) != 1 {
		t.Errorf("Has: %v, %v", c, ok)
	}
	if l := f.Purge(Frame, 0); len(l) != 1 {
		t.Errorf("Purge: %v", l)
	}
}

// A nil forest has nothing; Root, Derive and Give answer ErrNil, whatever they are given.
func TestNil(t *testing.T) {
	var f *Forest
	for _, n := range append([]int{0, 1, 4, 5, 7, 8, 15, 16, 31}, far...) {
		for _, m := range []int{0, 1, 15, 16, -1} {
			if c, ok := f.Get(n, m); c != (Cap{}) || ok {
				t.Errorf("Get %d, %d: %v, %v", n, m, c, ok)
			}
			if c, ok := f.Has(n, m, 0, 0); c != (Cap{}) || ok {
				t.Errorf("Has %d, %d: %v, %v", n, m, c, ok)
			}
			for _, c := range []Cap{{n, m, 0}, {m, n, 0}, {1, m, n}, {1, 0, 0}} {
				if e := f.Root(n, m, c); e != api.ErrNil {
					t.Errorf("Root %d, %d, %v: error %d", n, m, c, e)
				}
			}
			if e, g := f.Derive(n, m, m, n), f.Give(m, n, n, m, m); e != api.ErrNil || g != api.ErrNil {
				t.Errorf("Derive, Give %d, %d: errors %d, %d", n, m, e, g)
			}
			if l, e := f.Revoke(n, m); len(l) != 0 || e != api.ErrCap {
				t.Errorf("Revoke %d, %d: %v, error %d", n, m, l, e)
			}
			if l, e := f.Drop(n, m); len(l) != 0 || e != api.ErrCap {
				t.Errorf("Drop %d, %d: %v, error %d", n, m, l, e)
			}
			if l, rights := f.Purge(n, m), f.Find(m, n, m); len(l) != 0 || rights != 0 {
				t.Errorf("Purge, Find %d, %d: %v, %d", n, m, l, rights)
			}
		}
		if l, free := f.List(n), f.Free(n); len(l) != 0 || free != -1 {
			t.Errorf("List, Free %d: %v, %d", n, l, free)
		}
	}
}

// steps tells each kind of call on two slots of each of two environments, and on what there is not.
func steps() []func(*testing.T, *pair) {
	var l []func(*testing.T, *pair)
	for env := range 2 {
		for slot := range 2 {
			l = append(l,
				root(env, slot, Frame, 0, All),
				root(env, slot, Line, slot, All),
				derive(env, slot, 1-slot, All),
				give(env, slot, 1-env, slot, All),
				give(env, slot, 1-env, 1-slot, Grant),
				func(t *testing.T, b *pair) { b.revoke(t, env, slot) },
				func(t *testing.T, b *pair) { b.drop(t, env, slot) })
		}
		l = append(l, func(t *testing.T, b *pair) { b.purge(t, 1+env, 0) })
	}
	return append(l,
		root(wantEnvs, 0, Frame, 0, All),
		derive(0, 0, wantSlots, Read),
		give(1, 1, 1, 1, Read))
}

// rows calls each row of so many steps behind those ahead of it, and holds all behind it, and the order.
func rows(t *testing.T, count int, ahead ...func(*testing.T, *pair)) {
	l := steps()
	all := 1
	for range count {
		all *= len(l)
	}
	for row := range all {
		b := &pair{x: &Forest{}}
		for _, call := range ahead {
			call(t, b)
		}
		for range count {
			l[row%len(l)](t, b)
			row /= len(l)
		}
		b.holdFew(t)
		if t.Failed() {
			return
		}
	}
}

// holdFew holds what there may be behind steps, and the order of all.
func (b *pair) holdFew(t *testing.T) {
	b.holdRights(t)
	for env := range 3 {
		b.holdEnv(t, env)
		b.holdSlot(t, env, 0)
		b.holdSlot(t, env, 1)
	}
	for len(b.p.l) > 0 {
		i := slices.IndexFunc(b.p.l, func(o *one) bool { return o.of == nil })
		b.drop(t, b.p.l[i].s.Env, b.p.l[i].s.Slot)
	}
}

// P12.1 to P12.4: all rows of up to three calls, on the zero Forest, and behind a row of four, a star of four, and two of two.
func TestAllRows(t *testing.T) {
	for count := 1; count <= 3; count++ {
		rows(t, count)
		rows(t, count, root(1, 1, Frame, 0, All), give(1, 1, 0, 1, All), derive(0, 1, 0, All), give(0, 0, 1, 0, All))
		rows(t, count, root(0, 1, Frame, 0, All), give(0, 1, 1, 1, All), give(0, 1, 1, 0, Revoke|Grant), derive(0, 1, 0, Grant))
		rows(t, count, root(1, 0, Frame, 0, All), root(0, 1, Frame, 0, Read|Grant), give(0, 1, 0, 0, Grant), give(1, 0, 1, 1, All))
	}
}

// P12.1 to P12.4: many calls in turn, right ones and wrong ones, with few slots and with many.
func TestMany(t *testing.T) {
	for round := range 24 {
		b, mix := both(t), uint64(round)
		// some tells a number below most that looks mixed, the same ones each time.
		some := func(most int) int {
			mix = mix*6364136223846793005 + 1442695040888963407
			return int(mix >> 33 % uint64(most))
		}
		envs, slots, things := 1+round%wantEnvs, 1+round*5%wantSlots, 1+round%3
		for range 600 {
			env, slot, other, to := some(envs+1)-some(2), some(slots+1)-some(2), some(envs+1)-some(2), some(slots+1)-some(2)
			rights := All
			if some(3) == 0 {
				rights = some(wantAll+4) - 2
			}
			switch some(12) {
			case 0:
				b.root(t, env, slot, Cap{some(things+2) + some(2), some(things) - some(8)/7, rights})
			case 1, 2, 3:
				b.derive(t, env, slot, to, rights)
			case 4, 5, 6, 7, 8:
				b.give(t, env, slot, other, to, rights)
			case 9:
				b.revoke(t, env, slot)
			case 10:
				b.drop(t, env, slot)
			case 11:
				if some(4) == 0 {
					b.purge(t, some(things+2), some(things+1))
				}
			}
			b.hold(t)
			if t.Failed() {
				return
			}
		}
		b.holdOrder(t)
	}
}
