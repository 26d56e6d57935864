package heap

import (
	"fmt"
	"math"
	"slices"
	"strings"
	"testing"
)

// lowest and highest are the edges of an int.
const (
	lowest  = math.MinInt
	highest = math.MaxInt
)

// entry is a thing of a plain list.
type entry struct {
	handle int
	item   Item
}

// plain is a list of things in the order in which they are popped, against which a heap's answers are held.
type plain struct {
	list []entry
	told int // how many handles
}

// wantPut puts a thing behind all that are of its Key or of less.
func (p *plain) wantPut(x entry) {
	i := 0
	for i < len(p.list) && p.list[i].item.Key <= x.item.Key {
		i++
	}
	p.list = slices.Insert(p.list, i, x)
}

// wantPlace tells where the thing of a handle is in the list; -1: nowhere.
func (p *plain) wantPlace(handle int) int {
	return slices.IndexFunc(p.list, func(x entry) bool { return x.handle == handle })
}

// wantOut takes the thing of a handle out of the list.
func (p *plain) wantOut(handle int) (entry, bool) {
	i := p.wantPlace(handle)
	if i < 0 {
		return entry{}, false
	}
	x := p.list[i]
	p.list = slices.Delete(p.list, i, i+1)
	return x, true
}

// pair is a heap, the plain list that it must be like, and what was called on both.
type pair struct {
	h      *Heap
	p      plain
	called []string
}

// both tells a new heap, and a plain list of nothing.
func both() *pair { return &pair{h: New()} }

// calls tells what was called, for what a test says.
func (b *pair) calls() string {
	return strings.Join(b.called[max(0, len(b.called)-12):], ", ")
}

// note keeps what is called.
func (b *pair) note(what string, args ...any) { b.called = append(b.called, what+fmt.Sprint(args...)) }

// push puts a thing into both, and holds the handles.
func (b *pair) push(t *testing.T, it Item) int {
	t.Helper()
	b.note("Push ", it)
	b.p.told++
	b.p.wantPut(entry{b.p.told, it})
	got := b.h.Push(it)
	if got != b.p.told {
		t.Errorf("%s: handle %d, not %d", b.calls(), got, b.p.told)
	}
	return got
}

// pop pops of both, and holds what comes.
func (b *pair) pop(t *testing.T) {
	t.Helper()
	b.note("Pop")
	var want entry
	var ok bool
	if len(b.p.list) > 0 {
		want, ok = b.p.wantOut(b.p.list[0].handle)
	}
	if it, got := b.h.Pop(); it != want.item || got != ok {
		t.Errorf("%s: %v %v, not %v %v", b.calls(), it, got, want.item, ok)
	}
}

// drop drops of both, and holds what is told.
func (b *pair) drop(t *testing.T, handle int) {
	t.Helper()
	b.note("Drop ", handle)
	_, want := b.p.wantOut(handle)
	if got := b.h.Drop(handle); got != want {
		t.Errorf("%s: %v, not %v", b.calls(), got, want)
	}
}

// change changes in both, and holds what is told.
func (b *pair) change(t *testing.T, handle, key int) {
	t.Helper()
	b.note("Change ", handle, " ", key)
	x, want := b.p.wantOut(handle)
	if want {
		x.item.Key = key
		b.p.wantPut(x)
	}
	if got := b.h.Change(handle, key); got != want {
		t.Errorf("%s: %v, not %v", b.calls(), got, want)
	}
}

// holdFirst holds how many there are, and which is the first.
func (b *pair) holdFirst(t *testing.T) {
	t.Helper()
	var want entry
	if len(b.p.list) > 0 {
		want = b.p.list[0]
	}
	if got := b.h.Len(); got != len(b.p.list) {
		t.Errorf("%s: Len %d, not %d", b.calls(), got, len(b.p.list))
	}
	if it, handle := b.h.First(); it != want.item || handle != want.handle {
		t.Errorf("%s: First %v %d, not %v", b.calls(), it, handle, want)
	}
}

// noHandles are handles that nothing has in what these tests put.
var noHandles = []int{0, -1, -2, lowest, lowest + 1, 1 << 20, 1 << 32, 1<<32 + 1, highest - 1, highest}

// holdAll holds all that can be asked without a change.
func (b *pair) holdAll(t *testing.T) {
	t.Helper()
	b.holdFirst(t)
	for handle := 1; handle <= b.p.told+3; handle++ {
		var want Item
		i := b.p.wantPlace(handle)
		if i >= 0 {
			want = b.p.list[i].item
		}
		if it, ok := b.h.Get(handle); it != want || ok != (i >= 0) {
			t.Errorf("%s: Get of %d: %v %v, not %v", b.calls(), handle, it, ok, want)
		}
	}
	for _, handle := range noHandles {
		if it, ok := b.h.Get(handle); it != (Item{}) || ok {
			t.Errorf("%s: Get of %d: %v %v", b.calls(), handle, it, ok)
		}
	}
}

// popAll pops till there is nothing, and twice more.
func (b *pair) popAll(t *testing.T) {
	t.Helper()
	for range len(b.p.list) + 2 {
		b.pop(t)
		b.holdFirst(t)
	}
}

// steps tells each kind of call on few things of few Keys: calls of things that there never were, and that are there no more, among them.
func steps() []func(*testing.T, *pair) {
	l := []func(*testing.T, *pair){func(t *testing.T, b *pair) { b.pop(t) }}
	for _, key := range []int{4, 5} {
		l = append(l, func(t *testing.T, b *pair) { b.push(t, Item{Key: key, What: 100 + len(b.called)}) })
	}
	for handle := 1; handle <= 3; handle++ {
		l = append(l, func(t *testing.T, b *pair) { b.drop(t, handle) })
		for _, key := range []int{4, 5} {
			l = append(l, func(t *testing.T, b *pair) { b.change(t, handle, key) })
		}
	}
	return l
}

// P7.1, P7.2, P7.3: all rows of calls, up to so many, on a heap that has three things and on a new one.
func TestAllRows(t *testing.T) {
	l := steps()
	for _, keys := range [][]int{nil, {5, 4, 5}} {
		for count := range 5 {
			rows := 1
			for range count {
				rows *= len(l)
			}
			for row := range rows {
				b := both()
				for _, key := range keys {
					b.push(t, Item{Key: key, What: -key})
				}
				for range count {
					l[row%len(l)](t, b)
					row /= len(l)
				}
				b.holdAll(t)
				b.popAll(t)
			}
		}
	}
}

// permutations tells all orders of places below n.
func permutations(n int) [][]int {
	if n == 0 {
		return [][]int{nil}
	}
	var all [][]int
	for _, l := range permutations(n - 1) {
		for at := range n {
			all = append(all, slices.Insert(slices.Clone(l), at, n-1))
		}
	}
	return all
}

// P7.3: things put in all orders, some of them of alike Keys, come in order.
func TestAllOrders(t *testing.T) {
	for n := range 8 {
		for _, l := range permutations(n) {
			for _, by := range []int{1, 2, 3} {
				b := both()
				for _, key := range l {
					b.push(t, Item{Key: key / by, What: key})
				}
				b.holdFirst(t)
				b.popAll(t)
			}
		}
	}
}

// P7.2: each thing of a heap, the first, the last and all between, dropped, and changed to each Key between, at and beside those of others.
func TestEachPlace(t *testing.T) {
	for n := 1; n <= 6; n++ {
		for _, l := range permutations(n) {
			for handle := 1; handle <= n; handle++ {
				for key := -1; key <= 2*n; key++ {
					b := fill(t, l)
					b.change(t, handle, key)
					b.holdFirst(t)
					b.popAll(t)
				}
				b := fill(t, l)
				b.drop(t, handle)
				b.drop(t, handle)
				b.change(t, handle, 0)
				b.holdAll(t)
				b.popAll(t)
			}
		}
	}
}

// fill tells a heap of things of even Keys, as they stand.
func fill(t *testing.T, l []int) *pair {
	t.Helper()
	b := both()
	for _, key := range l {
		b.push(t, Item{Key: 2 * key, What: 7 - key})
	}
	return b
}

// mixer tells numbers that look mixed, the same ones each time.
type mixer uint64

// next tells a number below n.
func (m *mixer) next(n int) int {
	*m = *m*6364136223846793005 + 1442695040888963407
	return int(uint64(*m) >> 33 % uint64(n))
}

// P7.1, P7.2, P7.3: many things put, popped, dropped and changed in turn, of few Keys and of many.
func TestMany(t *testing.T) {
	for i, keys := range []int{1, 2, 7, 100, 1 << 30} {
		m, b := mixer(i), both()
		for round := range 6000 {
			key := m.next(keys) - keys/2
			handle := 1 + m.next(b.p.told+3)
			switch kind := m.next(12); {
			case kind < 5+round/1000%2:
				b.push(t, Item{Key: key, What: round})
			case kind < 8:
				b.pop(t)
			case kind < 10:
				b.drop(t, handle)
			default:
				b.change(t, handle, key)
			}
			b.holdFirst(t)
		}
		b.holdAll(t)
		b.popAll(t)
		b.holdAll(t)
		if t.Failed() {
			return
		}
	}
}

// P7.3: many things put first, and popped then, are those that were put, in order.
func TestPopsInOrder(t *testing.T) {
	const count = 100000
	h, m := New(), mixer(3)
	list := make([]Item, count)
	for i := range list {
		list[i] = Item{Key: m.next(count / 3), What: i}
		if got := h.Push(list[i]); got != i+1 {
			t.Fatalf("Push: %d, not %d", got, i+1)
		}
	}
	slices.SortStableFunc(list, func(x, y Item) int { return x.Key - y.Key })
	for i, want := range list {
		if it, ok := h.Pop(); it != want || !ok {
			t.Fatalf("Pop %d: %v %v, not %v", i, it, ok, want)
		}
	}
	if it, ok := h.Pop(); it != (Item{}) || ok || h.Len() != 0 {
		t.Errorf("Pop of nothing: %v %v, Len %d", it, ok, h.Len())
	}
}

// holdPops holds what is popped of a heap, by their Whats, and that nothing is left.
func holdPops(t *testing.T, h *Heap, want ...int) {
	t.Helper()
	var got []int
	for h.Len() > 0 && len(got) <= len(want) {
		it, ok := h.Pop()
		if !ok {
			t.Errorf("Pop: false, though there are %d", h.Len())
			return
		}
		got = append(got, it.What)
	}
	if !slices.Equal(got, want) {
		t.Errorf("popped %v, not %v", got, want)
	}
	if it, ok := h.Pop(); it != (Item{}) || ok {
		t.Errorf("Pop of nothing: %v %v", it, ok)
	}
}

// three tells a heap of things of Keys 5, 3, 5, whose Whats are 0, 1, 2, and whose handles are 1, 2, 3.
func three() *Heap {
	h := New()
	for i, key := range []int{5, 3, 5} {
		h.Push(Item{Key: key, What: i})
	}
	return h
}

// P7.2: the chapter's example, and the edges, by hand.
func TestByHand(t *testing.T) {
	for _, c := range []struct {
		what string
		do   func(h *Heap) bool
		ok   bool
		want []int
	}{
		{"nothing", func(h *Heap) bool { return true }, true, []int{1, 0, 2}},
		{"the first to a greater Key, between none", func(h *Heap) bool { return h.Change(2, 4) }, true, []int{1, 0, 2}},
		{"the first to that of others", func(h *Heap) bool { return h.Change(2, 5) }, true, []int{0, 2, 1}},
		{"the first to the greatest", func(h *Heap) bool { return h.Change(2, highest) }, true, []int{0, 2, 1}},
		{"the first to what it has", func(h *Heap) bool { return h.Change(2, 3) }, true, []int{1, 0, 2}},
		{"one of alike ones to what it has", func(h *Heap) bool { return h.Change(1, 5) }, true, []int{1, 2, 0}},
		{"the last one to what it has", func(h *Heap) bool { return h.Change(3, 5) }, true, []int{1, 0, 2}},
		{"one to the first's Key", func(h *Heap) bool { return h.Change(3, 3) }, true, []int{1, 2, 0}},
		{"one to a less Key", func(h *Heap) bool { return h.Change(3, 2) }, true, []int{2, 1, 0}},
		{"one to the least", func(h *Heap) bool { return h.Change(1, lowest) }, true, []int{0, 1, 2}},
		{"one there and back", func(h *Heap) bool { return h.Change(1, 9) && h.Change(1, 5) }, true, []int{1, 2, 0}},
		{"the first dropped", func(h *Heap) bool { return h.Drop(2) }, true, []int{0, 2}},
		{"a middle one dropped", func(h *Heap) bool { return h.Drop(1) }, true, []int{1, 2}},
		{"the last dropped", func(h *Heap) bool { return h.Drop(3) }, true, []int{1, 0}},
		{"all dropped", func(h *Heap) bool { return h.Drop(2) && h.Drop(3) && h.Drop(1) }, true, nil},
		{"one dropped twice", func(h *Heap) bool { return h.Drop(1) && h.Drop(1) }, false, []int{1, 2}},
		{"one changed behind its drop", func(h *Heap) bool { return h.Drop(1) && h.Change(1, 0) }, false, []int{1, 2}},
		{"one dropped that was popped", func(h *Heap) bool { h.Pop(); return h.Drop(2) }, false, []int{0, 2}},
		{"one changed that was popped", func(h *Heap) bool { h.Pop(); return h.Change(2, 0) }, false, []int{0, 2}},
	} {
		h := three()
		if got := c.do(h); got != c.ok {
			t.Errorf("%s: %v", c.what, got)
		}
		holdPops(t, h, c.want...)
	}
}

// P7.1: handles go on, one by one, behind what was popped, dropped, changed and refused.
func TestHandles(t *testing.T) {
	h := New()
	for i, between := range []func(){
		func() {}, func() { h.Pop() }, func() { h.Pop(); h.Pop() }, func() { h.Drop(3) }, func() { h.Drop(3) }, func() { h.Change(5, 1); h.Change(4, 9) }, func() { h.Drop(7); h.Change(7, 0); h.Get(7) },
		func() { h.Pop() }, func() { h.First(); h.Len() },
	} {
		between()
		if got := h.Push(Item{Key: 5, What: 5}); got != i+1 {
			t.Errorf("Push: %d, not %d", got, i+1)
		}
	}
}

// P7.1, P7.2: things of the edges of an int.
func TestEdgesOfInts(t *testing.T) {
	keys := []int{lowest, lowest + 1, -1, 0, 1, highest - 1, highest}
	for _, l := range permutations(len(keys)) {
		b := both()
		for _, i := range l {
			b.push(t, Item{Key: keys[i], What: keys[len(keys)-1-i]})
		}
		b.holdAll(t)
		b.change(t, 3, lowest)
		b.change(t, 4, highest)
		b.popAll(t)
	}
}

// P7.1, P7.2: handles that nothing has, of a heap of nothing, of one of some, and of one of which all are gone.
func TestWrongHandles(t *testing.T) {
	gone := three()
	for gone.Len() > 0 {
		gone.Pop()
	}
	for name, h := range map[string]*Heap{"new": New(), "some": three(), "gone": gone} {
		count := h.Len()
		first, handle := h.First()
		for _, wrong := range append([]int{4, 5, 6, 7, 8}, noHandles...) {
			if it, ok := h.Get(wrong); it != (Item{}) || ok || h.Drop(wrong) || h.Change(wrong, 0) {
				t.Errorf("%s: %d is of something: %v", name, wrong, it)
			}
		}
		if it, got := h.First(); h.Len() != count || it != first || got != handle {
			t.Errorf("%s: changed: Len %d, First %v %d", name, h.Len(), it, got)
		}
	}
	holdPops(t, three(), 1, 0, 2)
}

// P7.1, P7.2: a nil heap, and one that nobody made, under each of the calls.
func TestNoHeap(t *testing.T) {
	var zero Heap
	for name, h := range map[string]*Heap{"nil": nil, "zero": &zero} {
		for range 3 {
			if got := h.Push(Item{Key: 1, What: 2}); got != 0 {
				t.Errorf("%s: Push: %d", name, got)
			}
			if got := h.Len(); got != 0 {
				t.Errorf("%s: Len: %d", name, got)
			}
			if it, handle := h.First(); it != (Item{}) || handle != 0 {
				t.Errorf("%s: First: %v %d", name, it, handle)
			}
			if it, ok := h.Pop(); it != (Item{}) || ok {
				t.Errorf("%s: Pop: %v %v", name, it, ok)
			}
			for _, handle := range append([]int{1, 2, 3}, noHandles...) {
				if it, ok := h.Get(handle); it != (Item{}) || ok || h.Drop(handle) || h.Change(handle, 0) {
					t.Errorf("%s: %d is of something: %v", name, handle, it)
				}
			}
		}
	}
}

// P7.1: each heap has its own things and handles.
func TestApart(t *testing.T) {
	x, y := New(), New()
	if x.Push(Item{Key: 1, What: 10}) != 1 || y.Push(Item{Key: 2, What: 20}) != 1 || x.Push(Item{Key: 3, What: 30}) != 2 {
		t.Error("handles are not each heap's own")
	}
	if it, ok := y.Get(2); ok || y.Len() != 1 || x.Len() != 2 {
		t.Errorf("one heap has another's thing: %v", it)
	}
	if !y.Drop(1) || y.Len() != 0 {
		t.Error("Drop")
	}
	holdPops(t, x, 10, 30)
}

// Rule 'Memory': what is told is the asker's own.
func TestItemsAreCopies(t *testing.T) {
	h := New()
	it := Item{Key: 4, What: 40}
	h.Push(it)
	it.Key = 9
	got, _ := h.First()
	got.What = 41
	again, _ := h.Get(1)
	again.Key = 1
	if it, ok := h.Pop(); it != (Item{Key: 4, What: 40}) || !ok {
		t.Errorf("Pop: %v %v", it, ok)
	}
}
