package heap

// thing is an Item in a pile. It knows where it stands, so that it can be taken out from there by its handle.
type thing struct {
	item   Item
	handle int
	turn   int // no two things have the same one, so one of two is always ahead
	at     int
}

// ahead tells whether x is ahead of y.
func (x *thing) ahead(y *thing) bool {
	if x.item.Key != y.item.Key {
		return x.item.Key < y.item.Key
	}
	return x.turn < y.turn
}

// pile is things as the library's container/heap keeps them: none is ahead of the one above it.
type pile []*thing

func (p pile) Len() int           { return len(p) }
func (p pile) Less(i, j int) bool { return p[i].ahead(p[j]) }

func (p pile) Swap(i, j int) {
	p[i], p[j] = p[j], p[i]
	p[i].at, p[j].at = i, j
}

// Push puts a thing at the end, from where container/heap brings it up.
func (p *pile) Push(x any) {
	last := x.(*thing)
	last.at = len(*p)
	*p = append(*p, last)
}

// Pop takes the thing at the end, to where container/heap has brought it, and leaves nothing of it behind.
func (p *pile) Pop() any {
	last := len(*p) - 1
	x := (*p)[last]
	(*p)[last] = nil
	*p = (*p)[:last]
	return x
}
