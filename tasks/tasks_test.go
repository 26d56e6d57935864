package tasks

import (
	"math"
	"math/big"
	"slices"
	"testing"

	"remontoire/api"
	"remontoire/ratio"
)

// lowest and highest are the edges of an int.
const (
	lowest  = math.MinInt
	highest = math.MaxInt
)

// right are tasks that may be, the edges of each part among them.
var right = []api.Task{
	{Cost: 1, Period: 1, Deadline: 1}, {Cost: 1, Period: 4, Deadline: 4}, {Cost: 2, Period: 6, Deadline: 5}, {Cost: 2, Period: 5, Deadline: 4},
	{Cost: 3, Period: 7, Deadline: 3}, {Cost: 1, Period: 9, Deadline: 1}, {Cost: 5, Period: 5, Deadline: 5},
	{Cost: 1, Period: api.MaxPeriod, Deadline: 1}, {Cost: 1, Period: api.MaxPeriod, Deadline: api.MaxPeriod},
	{Cost: api.MaxPeriod, Period: api.MaxPeriod, Deadline: api.MaxPeriod}, {Cost: 7, Period: api.MaxPeriod, Deadline: 7},
	{Cost: api.MaxPeriod - 1, Period: api.MaxPeriod, Deadline: api.MaxPeriod - 1},
}

// wrong are tasks that may not be; the sums of some wrap round.
var wrong = []api.Task{
	{}, {Cost: 0, Period: 4, Deadline: 4}, {Cost: -1, Period: 4, Deadline: 4}, {Cost: 0, Period: 4, Deadline: 0}, {Cost: lowest, Period: 4, Deadline: 4},
	{Cost: 3, Period: 4, Deadline: 2}, {Cost: 1, Period: 4, Deadline: 0}, {Cost: 1, Period: 4, Deadline: -1}, {Cost: 1, Period: 4, Deadline: lowest}, {Cost: highest, Period: 4, Deadline: 4}, {Cost: 5, Period: 4, Deadline: 4},
	{Cost: 1, Period: 4, Deadline: 5}, {Cost: 1, Period: 0, Deadline: 1}, {Cost: 1, Period: -4, Deadline: 1}, {Cost: 1, Period: lowest, Deadline: 1}, {Cost: 1, Period: 4, Deadline: highest}, {Cost: 0, Period: 0, Deadline: 0},
	{Cost: 1, Period: api.MaxPeriod + 1, Deadline: 4}, {Cost: 1, Period: api.MaxPeriod + 1, Deadline: api.MaxPeriod + 1}, {Cost: 1, Period: api.MaxPeriod, Deadline: api.MaxPeriod + 1}, {Cost: api.MaxPeriod + 1, Period: api.MaxPeriod + 1, Deadline: api.MaxPeriod + 1},
	{Cost: 1, Period: highest, Deadline: 1}, {Cost: highest, Period: highest, Deadline: highest}, {Cost: lowest, Period: lowest, Deadline: lowest}, {Cost: -3, Period: -1, Deadline: -2},
}

// many tells a set of so many alike tasks.
func many(t api.Task, count int) []api.Task { return slices.Repeat([]api.Task{t}, count) }

// periods tells a set of tasks with these periods.
func periods(l ...int) []api.Task {
	var set []api.Task
	for _, p := range l {
		set = append(set, api.Task{Cost: 1, Period: p, Deadline: p})
	}
	return set
}

// sets tells sets that may be: ordinary ones, an empty one, and full ones.
func sets() [][]api.Task {
	return [][]api.Task{
		nil, {}, right[:1], right[1:3], right[2:7], right[:8], right[4:], right[1:9],
		many(right[2], 2), many(right[0], api.MaxTasks), many(right[9], api.MaxTasks), many(right[8], 3),
		periods(2, 3, 5), periods(6, 4), periods(10, 10, 5), periods(1, 2, 4, 8, 16, 32, 64, 128),
		{{Cost: 1, Period: 10, Deadline: 2}, {Cost: 4, Period: 7, Deadline: 6}, {Cost: 2, Period: 10, Deadline: 10}},
		{{Cost: 1, Period: 3, Deadline: 2}, {Cost: 1, Period: 3, Deadline: 2}, {Cost: 1, Period: 2, Deadline: 2}},
	}
}

// wrongSets tells sets that may not be: each wrong task alone, and first, in the midst and last among right ones, and sets of too many.
func wrongSets() [][]api.Task {
	l := [][]api.Task{many(right[0], api.MaxTasks+1), many(right[1], 100), slices.Concat(right[:8], right[8:9]), make([]api.Task, api.MaxTasks+1)}
	for _, t := range wrong {
		l = append(l, []api.Task{t}, []api.Task{t, right[1], right[2]}, []api.Task{right[1], t, right[2]}, []api.Task{right[1], right[2], t}, append(slices.Clone(right[:7]), t))
	}
	return l
}

// stretches are ordinary numbers of ticks, and both edges.
func stretches() []int {
	l := []int{1000, 4095, 4096, 65537, api.MaxTicks - 2, api.MaxTicks - 1, api.MaxTicks}
	for n := range 70 {
		l = append(l, n)
	}
	return l
}

// noStretches are numbers of ticks of which nothing is told.
var noStretches = []int{-1, -2, -api.MaxTicks, lowest, lowest + 1, api.MaxTicks + 1, api.MaxTicks + 2, 2 * api.MaxTicks, highest - 1, highest}

// jobsDue counts the jobs of a task, one by one, that must be done by some tick.
func jobsDue(t api.Task, ticks int) int {
	n := 0
	for at := t.Deadline; at <= ticks; at += t.Period {
		n++
	}
	return n
}

// jobsCome counts the jobs of a task, one by one, that come ahead of some tick.
func jobsCome(t api.Task, ticks int) int {
	n := 0
	for at := 0; at < ticks; at += t.Period {
		n++
	}
	return n
}

// asked adds up what jobs cost that are counted somehow.
func asked(l []api.Task, ticks int, count func(api.Task, int) int) int {
	sum := 0
	for _, t := range l {
		sum += t.Cost * count(t, ticks)
	}
	return sum
}

// pointsOf marks each tick at which a job must be done, and tells the marked ones.
func pointsOf(l []api.Task, upto int) []int {
	marked := make([]bool, upto+1)
	for _, t := range l {
		for at := t.Deadline; at <= upto; at += t.Period {
			marked[at] = true
		}
	}
	var points []int
	for at, m := range marked {
		if m {
			points = append(points, at)
		}
	}
	return points
}

// P3.1.
func TestRight(t *testing.T) {
	for _, x := range right {
		if !Right(x) {
			t.Errorf("Right of %v", x)
		}
	}
	for _, x := range wrong {
		if Right(x) {
			t.Errorf("Right of %v, which is wrong", x)
		}
	}
	for cost := -2; cost <= 6; cost++ {
		for deadline := -2; deadline <= 6; deadline++ {
			for period := -2; period <= 6; period++ {
				want := cost >= 1 && cost <= deadline && deadline <= period
				if x := (api.Task{Cost: cost, Period: period, Deadline: deadline}); Right(x) != want {
					t.Errorf("Right of %v: %v", x, !want)
				}
			}
		}
	}
}

// P3.1.
func TestAll(t *testing.T) {
	for _, l := range sets() {
		if !All(l) {
			t.Errorf("All of %v", l)
		}
	}
	for _, l := range wrongSets() {
		if All(l) {
			t.Errorf("All of %v, which is wrong", l)
		}
	}
	for count := range 12 {
		if got := All(many(right[1], count)); got != (count <= 8) {
			t.Errorf("All of %d tasks: %v", count, got)
		}
	}
}

// P3.1.
func TestUse(t *testing.T) {
	for _, c := range []struct {
		l    []api.Task
		want ratio.Ratio
	}{
		{nil, ratio.Ratio{Num: 0, Den: 1}}, {[]api.Task{}, ratio.Ratio{Num: 0, Den: 1}},
		{right[1:3], ratio.Ratio{Num: 7, Den: 12}}, {right[:1], ratio.Ratio{Num: 1, Den: 1}}, {right[2:3], ratio.Ratio{Num: 1, Den: 3}},
		{periods(2, 3, 6), ratio.Ratio{Num: 1, Den: 1}}, {many(right[0], 8), ratio.Ratio{Num: 8, Den: 1}}, {many(right[9], 8), ratio.Ratio{Num: 8, Den: 1}},
		{many(right[8], 8), ratio.Ratio{Num: 1, Den: 1 << 17}}, {right[11:], ratio.Ratio{Num: 1<<20 - 1, Den: 1 << 20}},
		{periods(1<<20, 1<<20-1), ratio.Ratio{Num: 1<<21 - 1, Den: 1<<40 - 1<<20}},
		{periods(1048573, 1048571, 1048559), ratio.Ratio{Num: 1048573*1048571 + 1048573*1048559 + 1048571*1048559, Den: 1048573 * 1048571 * 1048559}},
	} {
		if got, e := Use(c.l); got != c.want || e != api.OK {
			t.Errorf("Use of %v: %v, %d", c.l, got, e)
		}
	}
	for _, l := range sets() {
		want := new(big.Rat)
		for _, x := range l {
			want.Add(want, big.NewRat(int64(x.Cost), int64(x.Period)))
		}
		if got, e := Use(l); e != api.OK || got.Num != want.Num().Uint64() || got.Den != want.Denom().Uint64() {
			t.Errorf("Use of %v: %v, %d, not %v", l, got, e, want)
		}
	}
}

// P3.1: what isn't All, and what doesn't fit.
func TestUseWrong(t *testing.T) {
	for _, l := range wrongSets() {
		if got, e := Use(l); got != (ratio.Ratio{}) || e != api.ErrArg {
			t.Errorf("Use of %v: %v, %d", l, got, e)
		}
	}
	for _, l := range [][]api.Task{
		periods(1048573, 1048571, 1048559, 1048549), periods(1048573, 1048571, 1048559, 1048549, 1048517, 1048507, 1048447, 1048433),
		periods(1, 1048573, 1048571, 1048559, 1048549, 1),
	} {
		if got, e := Use(l); got != (ratio.Ratio{}) || e != api.ErrOver {
			t.Errorf("Use of %v: %v, %d", l, got, e)
		}
	}
}

// P3.1: each share is in lowest terms, and they are added in order: two of 2^20 parts that are a whole leave room for the rest, but not behind it.
func TestUseOrder(t *testing.T) {
	primes := periods(1048573, 1048571, 1048559)
	half := api.Task{Cost: 1 << 19, Period: 1 << 20, Deadline: 1 << 20}
	if got, e := Use(slices.Concat(primes, []api.Task{half})); got.Den != 2*1048573*1048571*1048559 || e != api.OK {
		t.Errorf("Use with a half: %v, %d", got, e)
	}
	less, more := half, half
	less.Cost--
	more.Cost++
	if got, e := Use(slices.Concat([]api.Task{less, more}, primes)); got.Den != 1048573*1048571*1048559 || e != api.OK {
		t.Errorf("Use with a whole ahead: %v, %d", got, e)
	}
	if got, e := Use(slices.Concat(primes, []api.Task{less, more})); got != (ratio.Ratio{}) || e != api.ErrOver {
		t.Errorf("Use with a whole behind: %v, %d", got, e)
	}
}

// P3.2.
func TestDemandRequest(t *testing.T) {
	for _, l := range sets() {
		for _, ticks := range stretches() {
			if got, want := Demand(l, ticks), asked(l, ticks, jobsDue); got != want {
				t.Errorf("Demand of %v in %d: %d, not %d", l, ticks, got, want)
			}
			if got, want := Request(l, ticks), asked(l, ticks, jobsCome); got != want {
				t.Errorf("Request of %v in %d: %d, not %d", l, ticks, got, want)
			}
		}
	}
}

// P3.2: edges, by hand.
func TestDemandRequestEdges(t *testing.T) {
	for _, c := range []struct {
		l               []api.Task
		ticks           int
		demand, request int
	}{
		{right[3:4], 9, 4, 4}, {right[3:4], 8, 2, 4}, {right[3:4], 4, 2, 2}, {right[3:4], 3, 0, 2}, {right[3:4], 5, 2, 2}, {right[3:4], 6, 2, 4}, {right[3:4], 1, 0, 2}, {right[3:4], 0, 0, 0},
		{nil, 0, 0, 0}, {nil, 9, 0, 0}, {[]api.Task{}, api.MaxTicks, 0, 0},
		{right[:1], 0, 0, 0}, {right[:1], 1, 1, 1}, {right[:1], api.MaxTicks, 1 << 20, 1 << 20}, {many(right[0], 8), api.MaxTicks, 1 << 23, 1 << 23},
		{right[9:10], api.MaxTicks, 1 << 20, 1 << 20}, {right[9:10], api.MaxTicks - 1, 0, 1 << 20}, {right[9:10], 1, 0, 1 << 20}, {many(right[9], 8), api.MaxTicks, 1 << 23, 1 << 23},
		{right[7:8], api.MaxTicks, 1, 1}, {right[10:11], 6, 0, 7}, {right[10:11], 7, 7, 7},
		{periods(1<<20 - 1), api.MaxTicks, 1, 2}, {periods(1<<20 - 1), api.MaxTicks - 1, 1, 1}, {periods(1 << 19), api.MaxTicks, 2, 2}, {periods(1 << 19), api.MaxTicks - 1, 1, 2},
	} {
		if got := Demand(c.l, c.ticks); got != c.demand {
			t.Errorf("Demand of %v in %d: %d", c.l, c.ticks, got)
		}
		if got := Request(c.l, c.ticks); got != c.request {
			t.Errorf("Request of %v in %d: %d", c.l, c.ticks, got)
		}
	}
}

// P3.2.
func TestPoints(t *testing.T) {
	for _, l := range sets() {
		for _, upto := range stretches() {
			if got, want := Points(l, upto), pointsOf(l, upto); !slices.Equal(got, want) {
				t.Errorf("Points of %v up to %d: %d of them, not %d", l, upto, len(got), len(want))
			}
		}
	}
}

// P3.2: edges, by hand.
func TestPointsEdges(t *testing.T) {
	for _, c := range []struct {
		l    []api.Task
		upto int
		want []int
	}{
		{right[1:3], 12, []int{4, 5, 8, 11, 12}}, {right[1:3], 11, []int{4, 5, 8, 11}}, {right[1:3], 4, []int{4}}, {right[1:3], 3, nil}, {right[1:3], 0, nil},
		{nil, 0, nil}, {nil, api.MaxTicks, nil}, {[]api.Task{}, 9, nil}, {many(right[1], 8), 8, []int{4, 8}}, {right[:1], 3, []int{1, 2, 3}}, {periods(4, 2), 8, []int{2, 4, 6, 8}},
		{right[9:10], api.MaxTicks, []int{api.MaxTicks}}, {right[9:10], api.MaxTicks - 1, nil}, {right[11:], api.MaxTicks, []int{api.MaxTicks - 1}}, {right[7:8], api.MaxTicks, []int{1}},
		{periods(1<<20-1, 1<<19), api.MaxTicks, []int{1 << 19, 1<<20 - 1, 1 << 20}},
	} {
		if got := Points(c.l, c.upto); !slices.Equal(got, c.want) {
			t.Errorf("Points of %v up to %d: %v", c.l, c.upto, got)
		}
	}
}

// P3.2: nothing of what isn't All, or of ticks that aren't from 0 to MaxTicks.
func TestNothing(t *testing.T) {
	nothing := func(l []api.Task, ticks int) {
		if d, r, p := Demand(l, ticks), Request(l, ticks), Points(l, ticks); d != 0 || r != 0 || len(p) != 0 {
			t.Errorf("of %v in %d: %d, %d, %d Points", l, ticks, d, r, len(p))
		}
	}
	for _, l := range sets() {
		for _, ticks := range noStretches {
			nothing(l, ticks)
		}
	}
	for _, l := range wrongSets() {
		for _, ticks := range slices.Concat(noStretches, []int{0, 1, 4, 100, api.MaxTicks}) {
			nothing(l, ticks)
		}
	}
}

// common reckons the least common multiple of all Periods, without bounds.
func common(l []api.Task) *big.Int {
	n := big.NewInt(1)
	for _, t := range l {
		p := big.NewInt(int64(t.Period))
		g := new(big.Int).GCD(nil, nil, n, p)
		n.Mul(n, p).Quo(n, g)
	}
	return n
}

// hyperSets tells sets whose multiples lie about 2^40, above it, and so far above it that they wrap round.
func hyperSets() [][]api.Task {
	primes := []int{1048573, 1048571, 1048559, 1048549, 1048517, 1048507, 1048447, 1048433}
	l := [][]api.Task{
		periods(1048575, 17, 61681), periods(20, 229, 457, 525313), periods(1<<20, 1<<20-1), periods(1<<20, 1<<20-1, 3), periods(1<<20, 3, 1<<20-1, 7),
		periods(6, 10, 15), periods(12, 18, 8), periods(5, 5, 5), periods(7), periods(1), periods(1 << 20), periods(60, 7, 11, 13, 17, 19, 23, 29),
	}
	for i := range primes {
		set := periods(primes[:i+1]...)
		reversed := slices.Clone(set)
		slices.Reverse(reversed)
		l = append(l, set, reversed)
	}
	return append(l, sets()...)
}

// P3.3.
func TestHyper(t *testing.T) {
	for _, l := range hyperSets() {
		n := common(l)
		for _, most := range []int{1, 2, 3, 11, 12, 100, 1 << 20, 1<<20 + 1, 1<<40 - 2, 1<<40 - 1, 1 << 40} {
			hold(t, l, most, n)
		}
		// Just below, at and just above it.
		for d := int64(-1); d <= 1 && n.IsInt64(); d++ {
			if most := n.Int64() + d; most >= 1 && most <= 1<<40 {
				hold(t, l, int(most), n)
			}
		}
	}
}

// hold holds what Hyper answers against the multiple.
func hold(t *testing.T, l []api.Task, most int, n *big.Int) {
	t.Helper()
	want, wantOk := 0, n.Cmp(big.NewInt(int64(most))) <= 0
	if wantOk {
		want = int(n.Int64())
	}
	if got, ok := Hyper(l, most); got != want || ok != wantOk {
		t.Errorf("Hyper of %v, %d: %d, %v, not %d", l, most, got, ok, want)
	}
}

// P3.3: edges, by hand.
func TestHyperEdges(t *testing.T) {
	for _, c := range []struct {
		l    []api.Task
		most int
		want int
		ok   bool
	}{
		{right[1:3], 100, 12, true}, {right[1:3], 12, 12, true}, {right[1:3], 11, 0, false}, {periods(6, 10, 15), 30, 30, true}, {periods(12, 18, 8), 71, 0, false},
		{nil, 1, 1, true}, {[]api.Task{}, 1 << 40, 1, true}, {periods(1), 1, 1, true}, {periods(2), 1, 0, false}, {periods(2), 2, 2, true},
		{periods(1048575, 17, 61681), 1 << 40, 1<<40 - 1, true}, {periods(1048575, 17, 61681), 1<<40 - 1, 1<<40 - 1, true}, {periods(1048575, 17, 61681), 1<<40 - 2, 0, false},
		{periods(20, 229, 457, 525313), 1 << 40, 0, false}, // 2^40 + 4
		{many(right[8], 8), 1 << 20, 1 << 20, true}, {many(right[8], 8), 1<<20 - 1, 0, false}, {periods(1<<20, 1<<20-1), 1 << 40, 1<<40 - 1<<20, true},
	} {
		if got, ok := Hyper(c.l, c.most); got != c.want || ok != c.ok {
			t.Errorf("Hyper of %v, %d: %d, %v", c.l, c.most, got, ok)
		}
	}
}

// P3.3: what isn't All, and bounds that aren't from 1 to 2^40.
func TestHyperWrong(t *testing.T) {
	for _, l := range sets() {
		for _, most := range []int{0, -1, -1 << 40, lowest, 1<<40 + 1, 1<<40 + 2, 1 << 41, 1 << 62, highest} {
			if got, ok := Hyper(l, most); got != 0 || ok {
				t.Errorf("Hyper of %v, %d: %d, %v", l, most, got, ok)
			}
		}
	}
	for _, l := range wrongSets() {
		for _, most := range []int{-1, 0, 1, 100, 1 << 40, 1<<40 + 1} {
			if got, ok := Hyper(l, most); got != 0 || ok {
				t.Errorf("Hyper of %v, %d: %d, %v", l, most, got, ok)
			}
		}
	}
}

// orderOf takes places one by one, each time the first of those that have the least key.
func orderOf(keys []int) []int {
	var order []int
	for len(order) < len(keys) {
		best := -1
		for i, k := range keys {
			if !slices.Contains(order, i) && (best < 0 || k < keys[best]) {
				best = i
			}
		}
		order = append(order, best)
	}
	return order
}

// keySets tells lists of numbers to order by: none, alike ones, rising and falling ones, those whose differences wrap round, and so many that only a sort that keeps alike ones as they stand does.
func keySets() [][]int {
	var long, falling, alike []int
	for i := range 200 {
		long, falling, alike = append(long, i*7919%5), append(falling, -i/3), append(alike, 4)
	}
	return [][]int{
		nil, {5}, {3, 1, 3}, {1, 2, 3}, {3, 2, 1}, {2, 2, 2, 2}, {4, 1, 4, 1, 4, 1, 4, 1}, {8, 7, 6, 5, 4, 3, 2, 1},
		{highest, lowest, 0, -1, 1, lowest, highest}, {lowest, highest}, {highest, lowest}, {0, -1}, {api.MaxPeriod, 1, api.MaxPeriod}, long, falling, alike,
	}
}

// P3.4: by the one part alone, whatever the others are.
func TestOrders(t *testing.T) {
	for _, keys := range keySets() {
		want := orderOf(keys)
		var byPeriod, byDeadline []api.Task
		for i, k := range keys {
			byPeriod = append(byPeriod, api.Task{Cost: i % 3, Period: k, Deadline: -i})
			byDeadline = append(byDeadline, api.Task{Cost: -i, Period: -i, Deadline: k})
		}
		if got := ByPeriod(byPeriod); !slices.Equal(got, want) {
			t.Errorf("ByPeriod of %v: %v", byPeriod, got)
		}
		if got := ByDeadline(byDeadline); !slices.Equal(got, want) {
			t.Errorf("ByDeadline of %v: %v", byDeadline, got)
		}
	}
}

// P3.4: edges, by hand.
func TestOrdersEdges(t *testing.T) {
	for _, c := range []struct {
		l                    []api.Task
		byPeriod, byDeadline []int
	}{
		{nil, nil, nil}, {[]api.Task{}, nil, nil}, {right[:1], []int{0}, []int{0}}, {right[1:3], []int{0, 1}, []int{0, 1}},
		{right[2:6], []int{1, 0, 2, 3}, []int{3, 2, 1, 0}}, {right[7:11], []int{0, 1, 2, 3}, []int{0, 3, 1, 2}},
		{many(right[2], 8), []int{0, 1, 2, 3, 4, 5, 6, 7}, []int{0, 1, 2, 3, 4, 5, 6, 7}},
		{make([]api.Task, 9), []int{0, 1, 2, 3, 4, 5, 6, 7, 8}, []int{0, 1, 2, 3, 4, 5, 6, 7, 8}},
	} {
		if got := ByPeriod(c.l); !slices.Equal(got, c.byPeriod) {
			t.Errorf("ByPeriod of %v: %v", c.l, got)
		}
		if got := ByDeadline(c.l); !slices.Equal(got, c.byDeadline) {
			t.Errorf("ByDeadline of %v: %v", c.l, got)
		}
	}
}

// small tells each task of a Period up to most.
func small(most int) []api.Task {
	var l []api.Task
	for period := 1; period <= most; period++ {
		for deadline := 1; deadline <= period; deadline++ {
			for cost := 1; cost <= deadline; cost++ {
				l = append(l, api.Task{Cost: cost, Period: period, Deadline: deadline})
			}
		}
	}
	return l
}

// P3.5: Demand grows at Points alone, and is never more than Request.
func TestGrows(t *testing.T) {
	l := sets()
	for _, a := range small(4) {
		for _, b := range small(5) {
			l = append(l, []api.Task{a, b})
		}
	}
	for _, set := range l {
		points := Points(set, 90)
		for ticks := range 90 {
			was, is := Demand(set, ticks), Demand(set, ticks+1)
			if grows := slices.Contains(points, ticks+1); is < was || is > was != grows {
				t.Errorf("Demand of %v in %d: %d, in one more: %d", set, ticks, was, is)
			}
			if r := Request(set, ticks); was > r {
				t.Errorf("of %v in %d: Demand %d, Request %d", set, ticks, was, r)
			}
		}
	}
}

// P3.5: both of two sets together are those of each, added.
func TestTogether(t *testing.T) {
	for _, a := range sets() {
		for _, b := range sets() {
			both := slices.Concat(a, b)
			if len(both) > api.MaxTasks {
				continue
			}
			for _, ticks := range stretches() {
				if got, want := Demand(both, ticks), Demand(a, ticks)+Demand(b, ticks); got != want {
					t.Errorf("Demand of %v in %d: %d, not %d", both, ticks, got, want)
				}
				if got, want := Request(both, ticks), Request(a, ticks)+Request(b, ticks); got != want {
					t.Errorf("Request of %v in %d: %d, not %d", both, ticks, got, want)
				}
			}
		}
	}
}

// Rule 'Memory': what is handed in stays as it is, its spare room included, and each answer is new.
func TestMemory(t *testing.T) {
	l := slices.Clone(right[:6])
	Use(l[:3])
	Demand(l[:3], 9)
	Request(l[:3], 9)
	Hyper(l[:3], 100)
	for _, ask := range []func() []int{
		func() []int { return Points(l[:3], 20) }, func() []int { return ByPeriod(l[:3]) }, func() []int { return ByDeadline(l[:3]) },
	} {
		first := ask()
		kept := slices.Clone(first)
		clear(first)
		if second := ask(); len(kept) == 0 || !slices.Equal(second, kept) {
			t.Error(kept, second)
		}
	}
	if !slices.Equal(l, right[:6]) {
		t.Error(l)
	}
}
