package supply

import (
	"math"
	"math/big"
	"slices"
	"testing"

	"remontoire/api"
	"remontoire/ratio"
)

// lowest and highest are the edges of an int.
const (
	lowest  = math.MinInt
	highest = math.MaxInt
)

// right are reservations that may be: ordinary ones, and the edges of both parts.
var right = []Reserve{
	{Budget: 2, Period: 5}, {Budget: 3, Period: 10}, {Budget: 1, Period: 7}, {Budget: 7, Period: 7}, {Budget: 6, Period: 7}, {Budget: 4, Period: 6}, {Budget: 37, Period: 1000},
	{Budget: 1, Period: 1}, {Budget: 1, Period: 2}, {Budget: 2, Period: 2}, {Budget: 1, Period: 3},
	{Budget: 1, Period: api.MaxPeriod}, {Budget: api.MaxPeriod, Period: api.MaxPeriod}, {Budget: api.MaxPeriod - 1, Period: api.MaxPeriod}, {Budget: 12345, Period: api.MaxPeriod},
	{Budget: 1, Period: api.MaxPeriod / 2}, {Budget: api.MaxPeriod / 2, Period: api.MaxPeriod / 2}, {Budget: 5, Period: api.MaxPeriod/2 + 1}, {Budget: 3, Period: api.MaxPeriod / 3}, {Budget: 9, Period: api.MaxPeriod / 4},
	{Budget: 11, Period: api.MaxPeriod - 1}, {Budget: 65535, Period: 65537},
}

// wrong are reservations that may not be; the sums and products of some wrap round.
var wrong = []Reserve{
	{}, {Budget: 0, Period: 1}, {Budget: 0, Period: 5}, {Budget: 0, Period: api.MaxPeriod}, {Budget: -1, Period: 5}, {Budget: -1, Period: -1}, {Budget: -5, Period: -2}, {Budget: lowest, Period: 5}, {Budget: lowest, Period: lowest}, {Budget: lowest, Period: highest},
	{Budget: 1, Period: 0}, {Budget: 1, Period: -1}, {Budget: 1, Period: -5}, {Budget: 1, Period: lowest}, {Budget: 2, Period: 1}, {Budget: 6, Period: 5}, {Budget: highest, Period: 5}, {Budget: api.MaxPeriod + 1, Period: api.MaxPeriod}, {Budget: highest, Period: api.MaxPeriod},
	{Budget: 1, Period: api.MaxPeriod + 1}, {Budget: api.MaxPeriod, Period: api.MaxPeriod + 1}, {Budget: api.MaxPeriod + 1, Period: api.MaxPeriod + 1}, {Budget: 1, Period: 2 * api.MaxPeriod}, {Budget: 1, Period: highest}, {Budget: highest, Period: highest}, {Budget: 2, Period: 1 << 32}, {Budget: 1<<32 + 1, Period: 1<<32 + 5},
}

// noTicks are numbers of ticks that nobody may ask about.
var noTicks = []int{-1, -2, -5, -10, -api.MaxTicks, lowest, lowest + 1, api.MaxTicks + 1, api.MaxTicks + 2, 2 * api.MaxTicks, 1 << 32, highest - 1, highest}

// leasts tells, tick by tick, what a reservation gives at least: its Budget more at the end of each Period, but for the first.
func leasts(r Reserve) []int {
	l := make([]int, api.MaxTicks+1)
	for n := 1; n <= api.MaxTicks; n++ {
		l[n] = l[n-1]
		if n%r.Period == 0 && n > r.Period {
			l[n] += r.Budget
		}
	}
	return l
}

// mosts tells, tick by tick, what a reservation takes at most: its Budget at once, and again as each Period begins.
func mosts(r Reserve) []int {
	l := make([]int, api.MaxTicks+1)
	l[0] = r.Budget
	for n := range api.MaxTicks {
		l[n+1] = l[n]
		if n%r.Period == 0 {
			l[n+1] += r.Budget
		}
	}
	return l
}

// P4.1.
func TestRight(t *testing.T) {
	for _, r := range right {
		if !r.Right() {
			t.Errorf("Right of %v", r)
		}
	}
	for _, r := range wrong {
		if r.Right() {
			t.Errorf("Right of %v, which is wrong", r)
		}
	}
	for _, from := range []int{-4, api.MaxPeriod - 3} {
		for budget := from; budget < from+9; budget++ {
			for period := from; period < from+9; period++ {
				want := budget >= 1 && budget <= period && period <= 1048576
				if r := (Reserve{Budget: budget, Period: period}); r.Right() != want {
					t.Errorf("Right of %v: %v", r, !want)
				}
			}
		}
	}
}

// P4.1.
func TestShare(t *testing.T) {
	for _, c := range []struct {
		r    Reserve
		want ratio.Ratio
	}{
		{Reserve{Budget: 3, Period: 10}, ratio.Ratio{Num: 3, Den: 10}}, {Reserve{Budget: 4, Period: 6}, ratio.Ratio{Num: 2, Den: 3}}, {Reserve{Budget: 7, Period: 7}, ratio.Ratio{Num: 1, Den: 1}}, {Reserve{Budget: 1, Period: 1}, ratio.Ratio{Num: 1, Den: 1}},
		{Reserve{Budget: 1, Period: api.MaxPeriod}, ratio.Ratio{Num: 1, Den: 1 << 20}}, {Reserve{Budget: api.MaxPeriod, Period: api.MaxPeriod}, ratio.Ratio{Num: 1, Den: 1}},
		{Reserve{Budget: api.MaxPeriod - 1, Period: api.MaxPeriod}, ratio.Ratio{Num: 1<<20 - 1, Den: 1 << 20}}, {Reserve{Budget: 1 << 19, Period: 1 << 20}, ratio.Ratio{Num: 1, Den: 2}},
	} {
		if got := c.r.Share(); got != c.want {
			t.Errorf("Share of %v: %v", c.r, got)
		}
	}
	for _, r := range right {
		want := big.NewRat(int64(r.Budget), int64(r.Period))
		if got := r.Share(); got.Num != want.Num().Uint64() || got.Den != want.Denom().Uint64() {
			t.Errorf("Share of %v: %v, not %v", r, got, want)
		}
	}
	for _, r := range wrong {
		if got := r.Share(); got != (ratio.Ratio{}) {
			t.Errorf("Share of %v: %v", r, got)
		}
	}
}

// fitting tells reservations that fit: none, ordinary ones, and such as are just the whole, or hardly less.
func fitting() [][]Reserve {
	return [][]Reserve{
		nil, {}, {{Budget: 2, Period: 5}}, {{Budget: 2, Period: 5}, {Budget: 3, Period: 10}}, {{Budget: 1, Period: 2}, {Budget: 1, Period: 4}, {Budget: 1, Period: 8}, {Budget: 1, Period: 16}},
		{{Budget: 1, Period: 1}}, {{Budget: 7, Period: 7}}, {{Budget: api.MaxPeriod, Period: api.MaxPeriod}}, {{Budget: 1, Period: api.MaxPeriod}},
		{{Budget: 1, Period: 2}, {Budget: 1, Period: 3}, {Budget: 1, Period: 6}}, {{Budget: 2, Period: 3}, {Budget: 1, Period: 3}}, {{Budget: 1, Period: 2}, {Budget: 1, Period: 2}},
		{{Budget: 1, Period: api.MaxPeriod}, {Budget: api.MaxPeriod - 1, Period: api.MaxPeriod}}, {{Budget: 1, Period: api.MaxPeriod}, {Budget: api.MaxPeriod - 2, Period: api.MaxPeriod - 1}},
		slices.Repeat([]Reserve{{Budget: 1, Period: 9}}, 9), slices.Repeat([]Reserve{{Budget: 1, Period: 1000}}, 1000),
	}
}

// P4.1.
func TestFits(t *testing.T) {
	for _, l := range fitting() {
		if !Fits(l...) {
			t.Errorf("%v don't fit", l)
		}
	}
	if !Fits() {
		t.Error("none don't fit")
	}
	for _, l := range [][]Reserve{
		{{Budget: 1, Period: 1}, {Budget: 1, Period: api.MaxPeriod}}, {{Budget: api.MaxPeriod, Period: api.MaxPeriod}, {Budget: api.MaxPeriod, Period: api.MaxPeriod}},
		{{Budget: 1, Period: 2}, {Budget: 1, Period: 3}, {Budget: 1, Period: 5}}, {{Budget: 2, Period: 3}, {Budget: 2, Period: 3}}, {{Budget: 1, Period: 2}, {Budget: 1, Period: 2}, {Budget: 1, Period: api.MaxPeriod}},
		{{Budget: 1, Period: api.MaxPeriod - 1}, {Budget: api.MaxPeriod - 1, Period: api.MaxPeriod}}, {{Budget: 1, Period: api.MaxPeriod}, {Budget: api.MaxPeriod, Period: api.MaxPeriod}},
		slices.Repeat([]Reserve{{Budget: 1, Period: 9}}, 10), slices.Repeat([]Reserve{{Budget: 1, Period: 1000}}, 1001), slices.Repeat([]Reserve{{Budget: 1, Period: 1}}, 8),
	} {
		if Fits(l...) {
			t.Errorf("%v fit", l)
		}
	}
}

// P4.1: of all pairs, and of some threes, held against a sum without bounds.
func TestFitsSum(t *testing.T) {
	share := func(r Reserve) *big.Rat { return big.NewRat(int64(r.Budget), int64(r.Period)) }
	whole := big.NewRat(1, 1)
	for _, a := range right {
		for _, b := range right {
			sum := new(big.Rat).Add(share(a), share(b))
			if want := sum.Cmp(whole) <= 0; Fits(a, b) != want {
				t.Errorf("Fits of %v, %v: %v", a, b, !want)
			}
			sum.Add(sum, share(right[2]))
			if want := sum.Cmp(whole) <= 0; Fits(a, right[2], b) != want {
				t.Errorf("Fits of %v, %v, %v: %v", a, right[2], b, !want)
			}
		}
	}
}

// P4.1: one that isn't Right doesn't fit, alone, or in some place among others that leave room.
func TestFitsWrong(t *testing.T) {
	for _, r := range wrong {
		for _, l := range fitting()[:6] {
			for i := range len(l) + 1 {
				if bad := slices.Insert(slices.Clone(l), i, r); Fits(bad...) {
					t.Errorf("%v fit", bad)
				}
			}
		}
	}
}

// P4.1: a sum that is an error doesn't fit, however small it is; whether it is one hangs on the order.
func TestFitsError(t *testing.T) {
	primes := []Reserve{{Budget: 1, Period: 1048573}, {Budget: 1, Period: 1048571}, {Budget: 1, Period: 1048559}}
	halves := []Reserve{{Budget: 1<<18 - 1, Period: 1 << 20}, {Budget: 1<<18 + 1, Period: 1 << 20}}
	if !Fits(primes...) || !Fits(slices.Concat(halves, primes)...) {
		t.Error("sums that fit in words")
	}
	for _, l := range [][]Reserve{slices.Concat(primes, halves), slices.Concat(primes, halves[:1]), slices.Concat(primes, []Reserve{{Budget: 1, Period: 1048549}})} {
		if Fits(l...) {
			t.Errorf("%v fit", l)
		}
	}
}

// P4.2: at every tick.
func TestLeastMost(t *testing.T) {
	for _, r := range right {
		least, most := leasts(r), mosts(r)
		for n := range api.MaxTicks + 1 {
			if got := r.Least(n); got != least[n] {
				t.Fatalf("Least of %v in %d: %d, not %d", r, n, got, least[n])
			}
			if got := r.Most(n); got != most[n] {
				t.Fatalf("Most of %v in %d: %d, not %d", r, n, got, most[n])
			}
		}
	}
}

// P4.2: edges, by hand.
func TestLeastMostEdges(t *testing.T) {
	for _, c := range []struct {
		r                  Reserve
		ticks, least, most int
	}{
		{Reserve{Budget: 2, Period: 5}, 0, 0, 2}, {Reserve{Budget: 2, Period: 5}, 1, 0, 4}, {Reserve{Budget: 2, Period: 5}, 4, 0, 4}, {Reserve{Budget: 2, Period: 5}, 5, 0, 4}, {Reserve{Budget: 2, Period: 5}, 6, 0, 6},
		{Reserve{Budget: 2, Period: 5}, 9, 0, 6}, {Reserve{Budget: 2, Period: 5}, 10, 2, 6}, {Reserve{Budget: 2, Period: 5}, 11, 2, 8}, {Reserve{Budget: 2, Period: 5}, 14, 2, 8}, {Reserve{Budget: 2, Period: 5}, 15, 4, 8}, {Reserve{Budget: 2, Period: 5}, 16, 4, 10},
		{Reserve{Budget: 2, Period: 5}, 1048575, 419428, 419432}, {Reserve{Budget: 2, Period: 5}, api.MaxTicks, 419428, 419434},
		{Reserve{Budget: 7, Period: 7}, 0, 0, 7}, {Reserve{Budget: 7, Period: 7}, 13, 0, 21}, {Reserve{Budget: 7, Period: 7}, 14, 7, 21}, {Reserve{Budget: 7, Period: 7}, 15, 7, 28},
		{Reserve{Budget: 1, Period: 1}, 0, 0, 1}, {Reserve{Budget: 1, Period: 1}, 1, 0, 2}, {Reserve{Budget: 1, Period: 1}, 2, 1, 3}, {Reserve{Budget: 1, Period: 1}, 3, 2, 4}, {Reserve{Budget: 1, Period: 1}, api.MaxTicks, 1048575, 1048577},
		{Reserve{Budget: 1, Period: api.MaxPeriod}, 0, 0, 1}, {Reserve{Budget: 1, Period: api.MaxPeriod}, 1, 0, 2}, {Reserve{Budget: 1, Period: api.MaxPeriod}, api.MaxTicks, 0, 2},
		{Reserve{Budget: api.MaxPeriod, Period: api.MaxPeriod}, 0, 0, 1048576}, {Reserve{Budget: api.MaxPeriod, Period: api.MaxPeriod}, 1, 0, 2097152}, {Reserve{Budget: api.MaxPeriod, Period: api.MaxPeriod}, api.MaxTicks, 0, 2097152},
		{Reserve{Budget: 5, Period: api.MaxPeriod - 1}, api.MaxTicks - 1, 0, 10}, {Reserve{Budget: 5, Period: api.MaxPeriod - 1}, api.MaxTicks, 0, 15},
		{Reserve{Budget: 9, Period: api.MaxPeriod / 2}, api.MaxTicks - 1, 0, 27}, {Reserve{Budget: 9, Period: api.MaxPeriod / 2}, api.MaxTicks, 9, 27},
		{Reserve{Budget: 9, Period: api.MaxPeriod / 4}, api.MaxTicks/4*3 - 1, 9, 36}, {Reserve{Budget: 9, Period: api.MaxPeriod / 4}, api.MaxTicks / 4 * 3, 18, 36}, {Reserve{Budget: 9, Period: api.MaxPeriod / 4}, api.MaxTicks, 27, 45},
	} {
		if got := c.r.Least(c.ticks); got != c.least {
			t.Errorf("Least of %v in %d: %d", c.r, c.ticks, got)
		}
		if got := c.r.Most(c.ticks); got != c.most {
			t.Errorf("Most of %v in %d: %d", c.r, c.ticks, got)
		}
	}
}

// P4.2: 0 of what isn't Right, and of ticks that aren't from 0 to MaxTicks.
func TestLeastMostWrong(t *testing.T) {
	nothing := func(r Reserve, ticks int) {
		if least, most := r.Least(ticks), r.Most(ticks); least != 0 || most != 0 {
			t.Errorf("of %v in %d: %d, %d", r, ticks, least, most)
		}
	}
	for _, r := range right {
		for _, ticks := range noTicks {
			nothing(r, ticks)
		}
	}
	for _, r := range wrong {
		for _, ticks := range slices.Concat(noTicks, []int{0, 1, 4, 5, 9, 10, 100, api.MaxTicks - 1, api.MaxTicks}) {
			nothing(r, ticks)
		}
	}
}

// holdWait holds what Wait answers against the first tick that gives enough.
func holdWait(t *testing.T, r Reserve, least []int, need int) {
	t.Helper()
	want := slices.IndexFunc(least, func(n int) bool { return n >= need })
	wantOk := want >= 0
	if got, ok := r.Wait(need); got != max(want, 0) || ok != wantOk {
		t.Errorf("Wait of %v for %d: %d, %v, not %d", r, need, got, ok, want)
	}
}

// P4.3: of needs about some first Budgets, and about what MaxTicks give at most.
func TestWait(t *testing.T) {
	for _, r := range right {
		least := leasts(r)
		all := least[api.MaxTicks]
		for _, about := range []int{0, r.Budget, 2 * r.Budget, 3 * r.Budget, all / 2, all - r.Budget, all, all + r.Budget} {
			for need := max(0, about-2); need <= about+2; need++ {
				holdWait(t, r, least, need)
			}
		}
	}
	for _, r := range right[:4] {
		least := leasts(r)
		for need := range 200 {
			holdWait(t, r, least, need)
		}
	}
}

// P4.3: edges, by hand.
func TestWaitEdges(t *testing.T) {
	for _, c := range []struct {
		r          Reserve
		need, want int
		ok         bool
	}{
		{Reserve{Budget: 2, Period: 5}, 0, 0, true}, {Reserve{Budget: 2, Period: 5}, 1, 10, true}, {Reserve{Budget: 2, Period: 5}, 2, 10, true}, {Reserve{Budget: 2, Period: 5}, 3, 15, true}, {Reserve{Budget: 2, Period: 5}, 4, 15, true}, {Reserve{Budget: 2, Period: 5}, 5, 20, true},
		{Reserve{Budget: 2, Period: 5}, 419428, 1048575, true}, {Reserve{Budget: 2, Period: 5}, 419427, 1048575, true}, {Reserve{Budget: 2, Period: 5}, 419426, 1048570, true}, {Reserve{Budget: 2, Period: 5}, 419429, 0, false},
		{Reserve{Budget: 1, Period: 1}, 0, 0, true}, {Reserve{Budget: 1, Period: 1}, 1, 2, true}, {Reserve{Budget: 1, Period: 1}, 1048574, 1048575, true}, {Reserve{Budget: 1, Period: 1}, 1048575, api.MaxTicks, true}, {Reserve{Budget: 1, Period: 1}, 1048576, 0, false},
		{Reserve{Budget: 7, Period: 7}, 7, 14, true}, {Reserve{Budget: 7, Period: 7}, 8, 21, true},
		{Reserve{Budget: 1, Period: api.MaxPeriod}, 0, 0, true}, {Reserve{Budget: 1, Period: api.MaxPeriod}, 1, 0, false}, {Reserve{Budget: api.MaxPeriod, Period: api.MaxPeriod}, 0, 0, true}, {Reserve{Budget: api.MaxPeriod, Period: api.MaxPeriod}, 1, 0, false},
		{Reserve{Budget: 9, Period: api.MaxPeriod / 2}, 1, api.MaxTicks, true}, {Reserve{Budget: 9, Period: api.MaxPeriod / 2}, 9, api.MaxTicks, true}, {Reserve{Budget: 9, Period: api.MaxPeriod / 2}, 10, 0, false},
		{Reserve{Budget: 9, Period: api.MaxPeriod/2 + 1}, 0, 0, true}, {Reserve{Budget: 9, Period: api.MaxPeriod/2 + 1}, 1, 0, false},
		{Reserve{Budget: 9, Period: api.MaxPeriod / 4}, 27, api.MaxTicks, true}, {Reserve{Budget: 9, Period: api.MaxPeriod / 4}, 19, api.MaxTicks, true}, {Reserve{Budget: 9, Period: api.MaxPeriod / 4}, 18, api.MaxTicks / 4 * 3, true}, {Reserve{Budget: 9, Period: api.MaxPeriod / 4}, 28, 0, false},
	} {
		if got, ok := c.r.Wait(c.need); got != c.want || ok != c.ok {
			t.Errorf("Wait of %v for %d: %d, %v", c.r, c.need, got, ok)
		}
	}
}

// P4.3: what isn't Right, a need below 0, and needs so great that sums wrap round.
func TestWaitWrong(t *testing.T) {
	never := func(r Reserve, need int) {
		if got, ok := r.Wait(need); got != 0 || ok {
			t.Errorf("Wait of %v for %d: %d, %v", r, need, got, ok)
		}
	}
	for _, r := range right {
		for _, need := range []int{-1, -2, -r.Budget, lowest, lowest + 1, api.MaxTicks, api.MaxTicks + 1, 1 << 32, 1 << 62, highest - 1, highest} {
			never(r, need)
		}
	}
	for _, r := range wrong {
		for _, need := range []int{lowest, -1, 0, 1, 2, 5, 100, highest} {
			never(r, need)
		}
	}
}

// smallest tries all budgets, the least first.
func smallest(period, need, ticks int) (int, bool) {
	for budget := 1; budget <= period; budget++ {
		given := 0
		for end := 2 * period; end <= ticks; end += period {
			given += budget
		}
		if given >= need {
			return budget, true
		}
	}
	return 0, false
}

// P4.4.
func TestSmallest(t *testing.T) {
	hold := func(period, need, ticks int) {
		want, wantOk := smallest(period, need, ticks)
		if got, ok := Smallest(period, need, ticks); got != want || ok != wantOk {
			t.Errorf("Smallest of %d, %d, %d: %d, %v, not %d", period, need, ticks, got, ok, want)
		}
	}
	for period := 1; period <= 12; period++ {
		for need := range 50 {
			for ticks := range 60 {
				hold(period, need, ticks)
			}
		}
	}
	for _, period := range []int{100, 999, 1000} {
		for _, ticks := range []int{0, period, 2*period - 1, 2 * period, 3*period - 1, 3 * period, 10 * period, 10*period + 1} {
			for _, need := range []int{0, 1, 2, period - 1, period, period + 1, 2*period - 1, 2 * period, 2*period + 1, 9*period - 1, 9 * period, 9*period + 1} {
				hold(period, need, ticks)
			}
		}
	}
}

// P4.4: edges, by hand.
func TestSmallestEdges(t *testing.T) {
	for _, c := range []struct {
		period, need, ticks, want int
		ok                        bool
	}{
		{10, 7, 45, 3, true}, {10, 6, 45, 2, true}, {10, 9, 45, 3, true}, {10, 10, 45, 4, true}, {10, 30, 45, 10, true}, {10, 31, 45, 0, false},
		{10, 0, 45, 1, true}, {10, 0, 0, 1, true}, {10, 0, 10, 1, true}, {10, 0, 19, 1, true}, {10, 1, 0, 0, false}, {10, 1, 10, 0, false}, {10, 1, 19, 0, false}, {10, 1, 20, 1, true}, {10, 10, 20, 10, true}, {10, 11, 20, 0, false}, {10, 11, 29, 0, false}, {10, 11, 30, 6, true},
		{1, 0, 0, 1, true}, {1, 0, 1, 1, true}, {1, 1, 1, 0, false}, {1, 1, 2, 1, true}, {1, 2, 2, 0, false}, {1, 1048575, api.MaxTicks, 1, true}, {1, 1048576, api.MaxTicks, 0, false}, {2, 1048574, api.MaxTicks, 2, true}, {2, 524287, api.MaxTicks, 1, true}, {2, 524288, api.MaxTicks, 2, true}, {2, 1048575, api.MaxTicks, 0, false},
		{api.MaxPeriod, 0, 0, 1, true}, {api.MaxPeriod, 0, api.MaxTicks, 1, true}, {api.MaxPeriod, 1, api.MaxTicks, 0, false}, {api.MaxPeriod - 1, 1, api.MaxTicks, 0, false},
		{api.MaxPeriod / 2, 1, api.MaxTicks, 1, true}, {api.MaxPeriod / 2, api.MaxPeriod / 2, api.MaxTicks, api.MaxPeriod / 2, true}, {api.MaxPeriod / 2, api.MaxPeriod/2 + 1, api.MaxTicks, 0, false}, {api.MaxPeriod / 2, 1, api.MaxTicks - 1, 0, false}, {api.MaxPeriod / 2, 0, api.MaxTicks - 1, 1, true},
		{10, highest, 45, 0, false}, {10, highest, 20, 0, false}, {1, highest, api.MaxTicks, 0, false}, {10, highest - 1, 0, 0, false}, {3, 1 << 32, 100, 0, false},
	} {
		if got, ok := Smallest(c.period, c.need, c.ticks); got != c.want || ok != c.ok {
			t.Errorf("Smallest of %d, %d, %d: %d, %v", c.period, c.need, c.ticks, got, ok)
		}
	}
}

// P4.4: a period that isn't from 1 to MaxPeriod, a need below 0, ticks that aren't from 0 to MaxTicks.
func TestSmallestWrong(t *testing.T) {
	none := func(period, need, ticks int) {
		if got, ok := Smallest(period, need, ticks); got != 0 || ok {
			t.Errorf("Smallest of %d, %d, %d: %d, %v", period, need, ticks, got, ok)
		}
	}
	for _, period := range []int{0, -1, -10, lowest, api.MaxPeriod + 1, 2 * api.MaxPeriod, 1 << 32, highest} {
		for _, need := range []int{-1, 0, 1, 2, 100, highest} {
			for _, ticks := range []int{-1, 0, 1, 100, api.MaxTicks, api.MaxTicks + 1} {
				none(period, need, ticks)
			}
		}
	}
	for _, period := range []int{1, 2, 10, api.MaxPeriod} {
		for _, need := range []int{-1, -2, -100, lowest, lowest + 1} {
			for _, ticks := range slices.Concat(noTicks, []int{0, 1, 10, 20, 100, api.MaxTicks}) {
				none(period, need, ticks)
			}
		}
		for _, need := range []int{0, 1, 2, 100} {
			for _, ticks := range noTicks {
				none(period, need, ticks)
			}
		}
	}
}

// P4.4 with P4.2 and P4.3: the budget told is enough, one less isn't; and it is waited for no longer than those ticks.
func TestSmallestEnough(t *testing.T) {
	for _, period := range []int{1, 2, 3, 5, 8, 64, 1000, 99999, api.MaxPeriod / 3, api.MaxPeriod / 2, api.MaxPeriod/2 + 1, api.MaxPeriod} {
		for _, ticks := range []int{0, 1, 2, 7, 100, 65537, api.MaxTicks - 1, api.MaxTicks} {
			for _, need := range []int{1, 2, 3, 64, 999, 100000, api.MaxTicks - 2, api.MaxTicks - 1} {
				budget, ok := Smallest(period, need, ticks)
				if enough := (Reserve{Budget: period, Period: period}).Least(ticks) >= need; ok != enough {
					t.Errorf("Smallest of %d, %d, %d: %v", period, need, ticks, ok)
				}
				if !ok {
					continue
				}
				if (Reserve{Budget: budget, Period: period}).Least(ticks) < need || (Reserve{Budget: budget - 1, Period: period}).Least(ticks) >= need {
					t.Errorf("Smallest of %d, %d, %d: %d", period, need, ticks, budget)
				}
				if wait, ok := (Reserve{Budget: budget, Period: period}).Wait(need); !ok || wait > ticks {
					t.Errorf("Wait of %d in %d for %d: %d, %v, not %d", budget, period, need, wait, ok, ticks)
				}
			}
		}
	}
}

// P4.5.
func TestNeverFalls(t *testing.T) {
	for _, r := range right {
		was := 0
		for n := range api.MaxTicks + 1 {
			least := r.Least(n)
			if least < was || least > r.Most(n) {
				t.Fatalf("of %v in %d: Least %d, one less %d, Most %d", r, n, least, was, r.Most(n))
			}
			was = least
		}
	}
	for period := 1; period <= 20; period++ {
		for budget := 1; budget <= period; budget++ {
			r := Reserve{Budget: budget, Period: period}
			for n := range 200 {
				if r.Least(n) > r.Least(n+1) || r.Least(n) > r.Most(n) {
					t.Errorf("of %v in %d: Least %d, one more %d, Most %d", r, n, r.Least(n), r.Least(n+1), r.Most(n))
				}
			}
		}
	}
}

// Rule 'Memory': what is handed in stays as it is, its spare room included.
func TestMemory(t *testing.T) {
	l := slices.Clone(right)
	for n := range len(l) {
		Fits(l[:n]...)
	}
	if !slices.Equal(l, right) {
		t.Error(l)
	}
}
