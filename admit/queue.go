package admit

// given is a reservation that was given back, and counts on.
type given struct {
	until int
	share uint64
}

// queue is what was given back, as the library's container/heap keeps it: first what counts no more the soonest, so that going on looks at no more than it takes away.
type queue []given

// first tells what counts no more the soonest; there must be one.
func (q queue) first() given { return q[0] }

func (q queue) Len() int           { return len(q) }
func (q queue) Less(i, j int) bool { return q[i].until < q[j].until }
func (q queue) Swap(i, j int)      { q[i], q[j] = q[j], q[i] }

// Push puts one at the end, from where container/heap brings it up.
func (q *queue) Push(x any) { *q = append(*q, x.(given)) }

// Pop takes the one at the end, to where container/heap has brought it.
func (q *queue) Pop() any {
	last := len(*q) - 1
	x := (*q)[last]
	*q = (*q)[:last]
	return x
}
