package wheel

import "math/bits"

const (
	digitBits = 6
	slotCount = 1 << digitBits // of each level
	levels    = 4              // as many digits as the last tick that a timer may be set to has
)

// timer is a Due in a slot. It knows its place there, so that it can be taken out without a search.
type timer struct {
	due   Due
	place int
}

// slot is timers that stand together, in no order.
type slot []*timer

// wheels are the levels, the narrowest slots first. Ticks are read by their digits, one a level: a timer lies at the level of the highest digit in which its tick is not the present one's, in the slot of its own digit there. So what lies at a level comes before all that lies above it, and of one level what lies in a slot before all that lies behind it.
type wheels [levels][slotCount]slot

// level tells the place of the highest digit in which two ticks differ; 0: of two alike.
func level(x, y int) int {
	return max(0, bits.Len(uint(x^y))-1) / digitBits
}

// digit tells a tick's digit of a level.
func digit(tick, level int) int {
	return tick >> (level * digitBits) % slotCount
}

// of tells the slot where a timer due at a tick lies, while it is now.
func (w *wheels) of(now, at int) *slot {
	l := level(now, at)
	return &w[l][digit(at, l)]
}

// put lays a timer into its slot.
func (w *wheels) put(now int, x *timer) {
	s := w.of(now, x.due.At)
	x.place = len(*s)
	*s = append(*s, x)
}

// drop takes a timer out of its slot; the last one there takes its place.
func (w *wheels) drop(now int, x *timer) {
	s := w.of(now, x.due.At)
	last := len(*s) - 1
	moved := (*s)[last]
	moved.place = x.place
	(*s)[x.place] = moved
	(*s)[last] = nil
	*s = (*s)[:last]
}

// turnTo empties all slots that begin at a tick or ahead of it, and tells what lay there: all that is due by then, and what must be put again, as it has come nearer. What lies in the other slots lies right at that tick, too.
func (w *wheels) turnTo(now, to int) []*timer {
	var reached []*timer
	top := level(now, to)
	for l := range top {
		for i := range slotCount {
			reached = append(reached, w[l][i]...)
			w[l][i] = nil
		}
	}
	for i := range digit(to, top) + 1 {
		reached = append(reached, w[top][i]...)
		w[top][i] = nil
	}
	return reached
}
