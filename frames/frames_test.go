package frames

import (
	"bytes"
	"fmt"
	"math"
	"slices"
	"strings"
	"testing"

	"remontoire/api"
)

// lowest and highest are the edges of an int; wantMost and wantSize are what P9.1 says of frames and of their bytes.
const (
	lowest   = math.MinInt
	highest  = math.MaxInt
	wantMost = 32
	wantSize = 16
)

// far are numbers that are of no frame and of no byte, whatever the memory.
var far = []int{lowest, lowest + 1, -1 << 32, -wantMost, -2, -1, wantMost, wantMost + 1, 255, 256, 1 << 32, 1<<32 + 1, highest - 1, highest}

// plainFrame is a frame as the document tells of it.
type plainFrame struct {
	taken bool
	has   []byte
}

// plain is a list of frames, against which a memory's answers are held.
type plain []plainFrame

// at tells the frame of a number; nil: there is none.
func (p plain) at(i int) *plainFrame {
	for place := range p {
		if place == i {
			return &p[place]
		}
	}
	return nil
}

// wantLen tells what Len must answer.
func (p plain) wantLen() (all, free int) {
	for _, x := range p {
		if !x.taken {
			free++
		}
	}
	return len(p), free
}

// wantTaken tells what Taken must answer.
func (p plain) wantTaken(i int) bool {
	x := p.at(i)
	return x != nil && x.taken
}

// wantBytes tells what Bytes must answer.
func (p plain) wantBytes(i int) []byte {
	if x := p.at(i); x != nil {
		return x.has
	}
	return nil
}

// wantTake tells what Take must answer, and takes a frame of the list.
func (p plain) wantTake() (int, api.Errno) {
	i := slices.IndexFunc(p, func(x plainFrame) bool { return !x.taken })
	if i < 0 {
		return 0, api.ErrFull
	}
	p[i] = plainFrame{taken: true, has: make([]byte, wantSize)}
	return i, api.OK
}

// wantFree tells what Free must answer, and frees the frame of the list.
func (p plain) wantFree(i int) api.Errno {
	if !p.wantTaken(i) {
		return api.ErrNone
	}
	p[i].taken = false
	return api.OK
}

// wantRead tells what Read must answer.
func (p plain) wantRead(i, at int) (byte, api.Errno) {
	if !p.wantTaken(i) {
		return 0, api.ErrNone
	}
	if at < 0 || at > 15 {
		return 0, api.ErrArg
	}
	return p[i].has[at], api.OK
}

// wantWrite tells what Write must answer, and writes into the list.
func (p plain) wantWrite(i, at int, b byte) api.Errno {
	if _, e := p.wantRead(i, at); e != api.OK {
		return e
	}
	p[i].has[at] = b
	return api.OK
}

// pair is a memory, the plain list that it must be like, and what was called on both.
type pair struct {
	f      *Frames
	p      plain
	called []string
}

// both tells a new memory, and a plain list of as many frames.
func both(t *testing.T, n int) *pair {
	t.Helper()
	f, e := New(n)
	if f == nil || e != api.OK {
		t.Fatalf("New of %d: %v, error %d", n, f, e)
	}
	b := &pair{f: f, called: []string{fmt.Sprint("New ", n)}}
	for range n {
		b.p = append(b.p, plainFrame{has: make([]byte, wantSize)})
	}
	return b
}

// calls tells what was called, for what a test says.
func (b *pair) calls() string {
	return b.called[0] + " .. " + strings.Join(b.called[max(1, len(b.called)-12):], ", ")
}

// note keeps what is called.
func (b *pair) note(what string, args ...int) { b.called = append(b.called, what+fmt.Sprint(args)) }

// take takes a frame of both, and holds the answers.
func (b *pair) take(t *testing.T) {
	t.Helper()
	b.note("Take")
	want, wantE := b.p.wantTake()
	if got, e := b.f.Take(); got != want || e != wantE {
		t.Errorf("%s: %d, error %d, not %d, error %d", b.calls(), got, e, want, wantE)
	}
}

// free frees a frame of both, and holds the answers.
func (b *pair) free(t *testing.T, i int) {
	t.Helper()
	b.note("Free", i)
	want := b.p.wantFree(i)
	if e := b.f.Free(i); e != want {
		t.Errorf("%s: error %d, not %d", b.calls(), e, want)
	}
}

// write writes into both, and holds the answers.
func (b *pair) write(t *testing.T, i, at int, what byte) {
	t.Helper()
	b.note("Write", i, at, int(what))
	want := b.p.wantWrite(i, at, what)
	if e := b.f.Write(i, at, what); e != want {
		t.Errorf("%s: error %d, not %d", b.calls(), e, want)
	}
}

// read reads of both, and holds the answers.
func (b *pair) read(t *testing.T, i, at int) {
	t.Helper()
	want, wantE := b.p.wantRead(i, at)
	if got, e := b.f.Read(i, at); got != want || e != wantE {
		t.Errorf("%s: Read %d %d: %d, error %d, not %d, error %d", b.calls(), i, at, got, e, want, wantE)
	}
}

// holdFrame holds what is told of a frame without a byte of it.
func (b *pair) holdFrame(t *testing.T, i int) {
	t.Helper()
	if got := b.f.Taken(i); got != b.p.wantTaken(i) {
		t.Errorf("%s: Taken %d: %v", b.calls(), i, got)
	}
	if got, want := b.f.Bytes(i), b.p.wantBytes(i); !bytes.Equal(got, want) {
		t.Errorf("%s: Bytes %d: %v, not %v", b.calls(), i, got, want)
	}
}

// hold holds Len, and what is told of every frame.
func (b *pair) hold(t *testing.T) {
	t.Helper()
	all, free := b.f.Len()
	if wantAll, wantFree := b.p.wantLen(); all != wantAll || free != wantFree {
		t.Errorf("%s: Len %d %d, not %d %d", b.calls(), all, free, wantAll, wantFree)
	}
	for i := -1; i <= len(b.p); i++ {
		b.holdFrame(t, i)
	}
}

// holdAll holds all that can be asked without a change.
func (b *pair) holdAll(t *testing.T) {
	t.Helper()
	b.hold(t)
	for _, i := range far {
		b.holdFrame(t, i)
	}
	for i := -1; i <= len(b.p); i++ {
		for at := -1; at <= wantSize; at++ {
			b.read(t, i, at)
		}
	}
}

// fill takes all that isn't taken, and writes every byte, each frame's another way.
func (b *pair) fill(t *testing.T) {
	t.Helper()
	for range b.p {
		if _, free := b.p.wantLen(); free > 0 {
			b.take(t)
		}
	}
	for i := range b.p {
		for at := range wantSize {
			b.write(t, i, at, byte(1+7*i+at))
		}
	}
}

// The chapter's example, and P9.1: the limits are the document's.
func TestExample(t *testing.T) {
	if api.MaxFrames != wantMost || api.FrameSize != wantSize {
		t.Error("limits")
	}
	f, _ := New(2)
	first, _ := f.Take()
	second, _ := f.Take()
	freed := f.Free(0)
	if third, e := f.Take(); first != 0 || second != 1 || freed != api.OK || third != 0 || e != api.OK {
		t.Errorf("%d, %d, error %d; %d, error %d", first, second, freed, third, e)
	}
}

// P9.1: how many frames there may be.
func TestNew(t *testing.T) {
	for _, n := range append([]int{0}, far...) {
		f, e := New(n)
		want := api.ErrArg
		if n == wantMost {
			want = api.OK
		}
		if e != want || (f == nil) != (want != api.OK) {
			t.Errorf("New of %d: %v, error %d", n, f, e)
		}
	}
	for n := 1; n <= wantMost; n++ {
		both(t, n).holdAll(t)
	}
}

// P9.1, P9.2: of every size, the least one that isn't taken is taken, till all are; then none is, however often.
func TestTakeAll(t *testing.T) {
	for n := 1; n <= wantMost; n++ {
		b := both(t, n)
		for i := range n {
			if got, e := b.f.Take(); got != i || e != api.OK {
				t.Fatalf("of %d: Take %d, error %d, not %d", n, got, e, i)
			}
			b.p.wantTake()
			b.hold(t)
		}
		b.fill(t)
		for range 3 {
			if got, e := b.f.Take(); got != 0 || e != api.ErrFull {
				t.Fatalf("of %d: Take of all: %d, error %d", n, got, e)
			}
			b.holdAll(t)
		}
	}
}

// P9.2, P9.4: of a full memory each one, and each two in both orders, are freed, keep their bytes, and are taken anew with noughts.
func TestFreeInTheMiddle(t *testing.T) {
	for _, n := range []int{1, 2, 5, wantMost} {
		for first := range n {
			for second := range n {
				b := both(t, n)
				b.fill(t)
				b.free(t, first)
				b.hold(t)
				b.free(t, second)
				b.hold(t)
				for range 3 {
					b.take(t)
					b.hold(t)
				}
			}
		}
	}
}

// P9.2: Free of what isn't taken: of a new memory, twice, behind the last one, and of no frame.
func TestFreeOfNone(t *testing.T) {
	for _, n := range []int{1, 3, wantMost} {
		b := both(t, n)
		for _, i := range append([]int{0, n - 1, n}, far...) {
			if e := b.f.Free(i); e != api.ErrNone {
				t.Errorf("of %d, new: Free of %d: error %d", n, i, e)
			}
		}
		b.holdAll(t)
		b.fill(t)
		for _, i := range append([]int{n}, far...) {
			if e := b.f.Free(i); e != api.ErrNone {
				t.Errorf("of %d, full: Free of %d: error %d", n, i, e)
			}
		}
		b.holdAll(t)
		for i := range n {
			if e, again := b.f.Free(i), b.f.Free(i); e != api.OK || again != api.ErrNone {
				t.Errorf("of %d: Free of %d: error %d, then %d", n, i, e, again)
			}
			b.p.wantFree(i)
			b.hold(t)
		}
	}
}

// P9.3: which bytes there are, and which error comes where the frame isn't taken and the place isn't one either.
func TestReadWriteEdges(t *testing.T) {
	b := both(t, 4)
	b.fill(t)
	b.free(t, 2)
	b.free(t, 3)
	for _, c := range []struct {
		i, at int
		want  api.Errno
	}{
		{0, 0, api.OK}, {1, 15, api.OK}, {0, 15, api.OK}, {1, 0, api.OK},
		{0, -1, api.ErrArg}, {0, 16, api.ErrArg}, {1, -1, api.ErrArg}, {1, 16, api.ErrArg},
		{2, 0, api.ErrNone}, {2, 15, api.ErrNone}, {2, -1, api.ErrNone}, {2, 16, api.ErrNone}, {3, 0, api.ErrNone}, {3, 16, api.ErrNone},
		{-1, 0, api.ErrNone}, {-1, 15, api.ErrNone}, {-1, 16, api.ErrNone}, {-1, -1, api.ErrNone}, {4, 0, api.ErrNone}, {4, -1, api.ErrNone}, {4, 16, api.ErrNone},
	} {
		want := byte(0)
		if c.want == api.OK {
			want = byte(1 + 7*c.i + c.at)
		}
		if got, e := b.f.Read(c.i, c.at); got != want || e != c.want {
			t.Errorf("Read %d %d: %d, error %d, not %d, error %d", c.i, c.at, got, e, want, c.want)
		}
		b.write(t, c.i, c.at, 200)
		if e := b.f.Write(c.i, c.at, 201); e != c.want {
			t.Errorf("Write %d %d: error %d, not %d", c.i, c.at, e, c.want)
		}
		b.p.wantWrite(c.i, c.at, 201)
		b.holdAll(t)
	}
	for _, x := range append([]int{16}, far...) {
		for _, y := range append([]int{0, 2, 15, 16}, far...) {
			b.read(t, y, x)
			b.write(t, y, x, 77)
			b.read(t, x, y)
			b.write(t, x, y, 78)
		}
	}
	b.holdAll(t)
}

// P9.3, P9.4: each byte of each frame has each value, and a write of one turns no other one.
func TestEachByte(t *testing.T) {
	b := both(t, wantMost)
	for range wantMost {
		b.take(t)
	}
	for i := range wantMost {
		for at := range wantSize {
			b.write(t, i, at, byte(255-i-at))
			b.hold(t)
		}
	}
	b.holdAll(t)
	for i := wantMost - 1; i >= 0; i-- {
		for at := wantSize - 1; at >= 0; at-- {
			for what := range 256 {
				b.write(t, i, at, byte(what))
				b.read(t, i, at)
			}
			b.write(t, i, at, byte(i^at))
		}
	}
	b.holdAll(t)
}

// P9.4: what was written is read as long as the frame stays taken, whatever is done with the others, and not behind a new Take.
func TestWrittenIsRead(t *testing.T) {
	for i := range wantMost {
		b := both(t, wantMost)
		b.fill(t)
		want := b.f.Bytes(i)
		for other := range wantMost {
			if other != i {
				b.free(t, other)
			}
		}
		b.write(t, (i+1)%wantMost, 3, 9)
		for range 5 {
			b.take(t)
		}
		b.fill(t)
		for at, x := range want {
			if got, e := b.f.Read(i, at); got != x || e != api.OK || x != byte(1+7*i+at) {
				t.Errorf("frame %d, byte %d: %d, error %d, not %d", i, at, got, e, x)
			}
		}
		b.free(t, i)
		if got := b.f.Bytes(i); !bytes.Equal(got, want) {
			t.Errorf("frame %d, freed: %v, not %v", i, got, want)
		}
		b.take(t)
		for at := range wantSize {
			if got, e := b.f.Read(i, at); got != 0 || e != api.OK {
				t.Errorf("frame %d, taken anew, byte %d: %d, error %d", i, at, got, e)
			}
		}
		b.holdAll(t)
	}
}

// A nil memory has no frames; Take, Free, Read and Write answer ErrNil, whatever they are asked.
func TestNil(t *testing.T) {
	var f *Frames
	for range 2 {
		if all, free := f.Len(); all != 0 || free != 0 {
			t.Errorf("Len %d %d", all, free)
		}
		if got, e := f.Take(); got != 0 || e != api.ErrNil {
			t.Errorf("Take: %d, error %d", got, e)
		}
		for _, i := range append([]int{0, 1, 15}, far...) {
			if got := f.Bytes(i); f.Taken(i) || len(got) != 0 {
				t.Errorf("%d is of something: %v", i, got)
			}
			if e := f.Free(i); e != api.ErrNil {
				t.Errorf("Free of %d: error %d", i, e)
			}
			for _, at := range append([]int{0, 15, 16}, far...) {
				if got, e := f.Read(i, at); got != 0 || e != api.ErrNil {
					t.Errorf("Read %d %d: %d, error %d", i, at, got, e)
				}
				if e := f.Write(i, at, 5); e != api.ErrNil {
					t.Errorf("Write %d %d: error %d", i, at, e)
				}
			}
		}
	}
}

// steps tells each kind of call on few frames.
func steps() []func(*testing.T, *pair) {
	l := []func(*testing.T, *pair){func(t *testing.T, b *pair) { b.take(t) }}
	for i := range 3 {
		l = append(l, func(t *testing.T, b *pair) { b.free(t, i) })
		l = append(l, func(t *testing.T, b *pair) { b.write(t, i, 5*i, byte(len(b.called))) })
	}
	return append(l, func(t *testing.T, b *pair) { b.write(t, 1, wantSize, 1) })
}

// P9.1 to P9.4: all rows of calls, up to so many, on new memories and on one that is full.
func TestAllRows(t *testing.T) {
	l := steps()
	for _, kind := range []struct {
		n    int
		full bool
	}{{1, false}, {2, false}, {3, false}, {3, true}} {
		rows := 1
		for count := range 6 {
			for row := range rows {
				b := both(t, kind.n)
				if kind.full {
					b.fill(t)
				}
				for range count {
					l[row%len(l)](t, b)
					b.hold(t)
					row /= len(l)
				}
				if t.Failed() {
					return
				}
			}
			rows *= len(l)
		}
	}
}

// P9.1 to P9.4: many calls in turn, right ones and wrong ones, on memories of several sizes.
func TestMany(t *testing.T) {
	for _, n := range []int{1, 2, 7, 31, wantMost} {
		b, mix := both(t, n), uint64(n)
		// next tells a number below most that looks mixed, the same ones each time.
		next := func(most int) int {
			mix = mix*6364136223846793005 + 1442695040888963407
			return int(mix >> 33 % uint64(most))
		}
		for round := range 6000 {
			i, at := next(n+2)-1, next(wantSize+2)-1
			switch kind := next(10); {
			// Rounds in which much is taken come in turn with some in which much is freed.
			case kind < 2+round/500%2*2:
				b.take(t)
			case kind < 5:
				b.free(t, i)
			default:
				b.write(t, i, at, byte(next(256)))
			}
			b.read(t, next(n+2)-1, next(wantSize+2)-1)
			b.hold(t)
			if t.Failed() {
				return
			}
		}
		b.holdAll(t)
	}
}

// Rule 'Memory': what is told is the asker's own.
func TestAnswersAreCopies(t *testing.T) {
	b := both(t, 3)
	b.fill(t)
	b.free(t, 2)
	for i := range 3 {
		got, other := b.f.Bytes(i), b.f.Bytes(i)
		want := slices.Clone(got)
		for at := range got {
			got[at] = 99
		}
		_ = append(got, 1, 2, 3)
		if !bytes.Equal(other, want) {
			t.Errorf("frame %d: two answers share", i)
		}
		b.write(t, i, 4, 111)
		if got[4] != 99 {
			t.Errorf("frame %d: an answer is written", i)
		}
		b.holdAll(t)
	}
}

// P9.1: each memory has its own frames.
func TestApart(t *testing.T) {
	x, y := both(t, 2), both(t, 3)
	x.fill(t)
	y.holdAll(t)
	y.take(t)
	y.write(t, 0, 0, 50)
	x.holdAll(t)
	x.free(t, 0)
	y.holdAll(t)
	y.free(t, 0)
	x.take(t)
	x.holdAll(t)
	y.holdAll(t)
}
