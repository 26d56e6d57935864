package fit

import (
	"math"
	"slices"
	"testing"

	"remontoire/api"
	"remontoire/supply"
)

// lowest and highest are the edges of an int.
const (
	lowest  = math.MinInt
	highest = math.MaxInt
)

// plan is a set, its sections, and a reservation that it is to keep its deadlines on.
type plan struct {
	l        []api.Task
	sections []int
	r        supply.Reserve
}

// pair is a set with a deadline of 15, and one of 30.
var pair = []api.Task{{Cost: 1, Period: 20, Deadline: 15}, {Cost: 3, Period: 30, Deadline: 30}}

// alike tells a set of so many tasks that don't differ.
func alike(t api.Task, count int) []api.Task { return slices.Repeat([]api.Task{t}, count) }

// ordinarySets tells sets that may be: none at all, ordinary ones, and full ones.
func ordinarySets() [][]api.Task {
	return [][]api.Task{
		nil, {}, pair,
		{{Cost: 1, Period: 1, Deadline: 1}}, {{Cost: 1, Period: 10, Deadline: 10}}, {{Cost: 2, Period: 5, Deadline: 4}}, {{Cost: 5, Period: 5, Deadline: 5}}, {{Cost: 1, Period: 40, Deadline: 3}},
		{{Cost: 1, Period: 6, Deadline: 6}, {Cost: 2, Period: 20, Deadline: 17}}, {{Cost: 2, Period: 20, Deadline: 17}, {Cost: 1, Period: 6, Deadline: 6}}, {{Cost: 2, Period: 8, Deadline: 8}, {Cost: 3, Period: 8, Deadline: 8}},
		{{Cost: 1, Period: 12, Deadline: 9}, {Cost: 3, Period: 18, Deadline: 14}, {Cost: 4, Period: 30, Deadline: 22}}, {{Cost: 4, Period: 30, Deadline: 22}, {Cost: 2, Period: 12, Deadline: 12}, {Cost: 3, Period: 18, Deadline: 12}},
		alike(api.Task{Cost: 1, Period: 30, Deadline: 21}, 3), alike(api.Task{Cost: 1, Period: 28, Deadline: 25}, api.MaxTasks),
		{{Cost: 1, Period: 16, Deadline: 4}, {Cost: 1, Period: 16, Deadline: 8}, {Cost: 2, Period: 32, Deadline: 12}, {Cost: 2, Period: 32, Deadline: 16}, {Cost: 3, Period: 48, Deadline: 20}, {Cost: 3, Period: 48, Deadline: 24}, {Cost: 4, Period: 64, Deadline: 28}, {Cost: 4, Period: 64, Deadline: 32}},
	}
}

// sectionsFor tells sections that a set may have: none, some of its tasks', all, the least and the longest.
func sectionsFor(l []api.Task) [][]int {
	lists := [][]int{nil, {}, make([]int, len(l))}
	longest, mixed := make([]int, len(l)), make([]int, len(l))
	for i, t := range l {
		longest[i], mixed[i] = t.Cost, (i*5+1)%(t.Cost+1)
		one := make([]int, i+1)
		one[i] = t.Cost
		lists = append(lists, one)
	}
	return append(lists, longest, mixed, longest[:len(l)/2], mixed[:(len(l)+1)/2])
}

// reserves tells all reservations of short periods, and some of longer ones.
func reserves() []supply.Reserve {
	l := []supply.Reserve{{Budget: 1, Period: 10}, {Budget: 9, Period: 10}, {Budget: 10, Period: 10}, {Budget: 20, Period: 30}, {Budget: 1, Period: api.MaxPeriod}, {Budget: api.MaxPeriod, Period: api.MaxPeriod}}
	for period := 1; period <= 6; period++ {
		for budget := 1; budget <= period; budget++ {
			l = append(l, supply.Reserve{Budget: budget, Period: period})
		}
	}
	return l
}

// plans tells all ordinary sets, with all their sections, on all reservations.
func plans() []plan {
	var all []plan
	for _, l := range ordinarySets() {
		for _, sections := range sectionsFor(l) {
			for _, r := range reserves() {
				all = append(all, plan{l, sections, r})
			}
		}
	}
	return all
}

// ends are ticks up to which ordinary plans are asked about: most deadlines of theirs, and one tick less and more, are among them.
func ends() []int {
	var l []int
	for n := range 34 {
		l = append(l, n)
	}
	return append(l, 45, 60, 90)
}

// wrongSets tells sets that may not be, by number and by a task in some place.
func wrongSets() [][]api.Task {
	l := [][]api.Task{alike(pair[0], api.MaxTasks+1), make([]api.Task, api.MaxTasks+1), alike(pair[1], 100)}
	for _, t := range wrongTasks {
		l = append(l, []api.Task{t}, []api.Task{t, pair[1]}, []api.Task{pair[0], t}, append(alike(pair[0], api.MaxTasks-1), t))
	}
	return l
}

// wrongTasks are tasks that may not be.
var wrongTasks = []api.Task{
	{}, {Cost: 0, Period: 20, Deadline: 15}, {Cost: -1, Period: 20, Deadline: 15}, {Cost: lowest, Period: 20, Deadline: 15}, {Cost: 16, Period: 20, Deadline: 15}, {Cost: highest, Period: 20, Deadline: 15},
	{Cost: 1, Period: 20, Deadline: 0}, {Cost: 1, Period: 20, Deadline: -1}, {Cost: 1, Period: 20, Deadline: 21}, {Cost: 1, Period: 0, Deadline: 1}, {Cost: 1, Period: -20, Deadline: 1}, {Cost: 1, Period: api.MaxPeriod + 1, Deadline: 15}, {Cost: 1, Period: highest, Deadline: highest},
}

// wrongSections are sections that a pair may not have: too many, below 0, above their task's Cost.
var wrongSections = [][]int{
	{0, 0, 0}, {1, 3, 0}, {1, 3, 1}, make([]int, 9), make([]int, 100),
	{-1}, {-1, 3}, {0, -1}, {1, -1}, {lowest}, {0, lowest},
	{2}, {2, 3}, {1, 4}, {0, 4}, {3, 1}, {16}, {0, 31}, {highest}, {0, highest},
}

// wrongReserves are reservations that may not be.
var wrongReserves = []supply.Reserve{
	{}, {Budget: 0, Period: 5}, {Budget: -1, Period: 5}, {Budget: lowest, Period: 5}, {Budget: 6, Period: 5}, {Budget: highest, Period: 5}, {Budget: 1, Period: 0}, {Budget: 1, Period: -5}, {Budget: -5, Period: -5},
	{Budget: 1, Period: api.MaxPeriod + 1}, {Budget: api.MaxPeriod + 1, Period: api.MaxPeriod}, {Budget: api.MaxPeriod + 1, Period: api.MaxPeriod + 1}, {Budget: 1, Period: highest}, {Budget: highest, Period: highest}, {Budget: lowest, Period: lowest},
}

// wrongPeriods are periods that no reservation has.
var wrongPeriods = []int{0, -1, -5, lowest, api.MaxPeriod + 1, 2 * api.MaxPeriod, highest}

// wrongEnds are ticks up to which nobody may ask.
var wrongEnds = []int{-1, -2, -15, lowest, lowest + 1, api.MaxTicks + 1, api.MaxTicks + 2, 2 * api.MaxTicks, highest - 1, highest}

// wrongPlans tells plans of which one part may not be, with jobs to be done and without.
func wrongPlans() []plan {
	ample := supply.Reserve{Budget: 2, Period: 5}
	all := []plan{{nil, []int{0}, ample}, {[]api.Task{}, []int{0, 0}, ample}, {alike(pair[0], api.MaxTasks), make([]int, api.MaxTasks+1), ample}}
	for _, l := range wrongSets() {
		all = append(all, plan{l, nil, ample}, plan{l, make([]int, min(len(l), 2)), ample})
	}
	for _, sections := range wrongSections {
		all = append(all, plan{pair, sections, ample})
	}
	for _, r := range wrongReserves {
		all = append(all, plan{nil, nil, r}, plan{pair, nil, r}, plan{pair, []int{1, 3}, r})
	}
	return all
}

// wantHeld seeks the longest section among all tasks of a longer deadline.
func wantHeld(l []api.Task, sections []int, ticks int) int {
	held := 0
	for i, t := range l {
		if i < len(sections) && t.Deadline > ticks && sections[i] > held {
			held = sections[i]
		}
	}
	return held
}

// wantGiven adds up a Budget at the end of each whole Period but the first.
func wantGiven(r supply.Reserve, ticks int) int {
	sum := 0
	for end := 2 * r.Period; end <= ticks; end += r.Period {
		sum += r.Budget
	}
	return sum
}

// moment is a tick by which a job must be done, and what is given beyond the need by then.
type moment struct{ at, spare int }

// wantMoments tells, tick by tick and job by job, all ticks up to some by which a job must be done.
func wantMoments(p plan, upto int) []moment {
	var l []moment
	for at := range upto + 1 {
		asked, due := 0, false
		for _, t := range p.l {
			for end := t.Deadline; end <= at; end += t.Period {
				asked += t.Cost
				due = due || end == at
			}
		}
		if due {
			l = append(l, moment{at, wantGiven(p.r, at) - asked - wantHeld(p.l, p.sections, at)})
		}
	}
	return l
}

// upTo tells the moments up to some tick, of those up to a later one.
func upTo(l []moment, upto int) []moment {
	end := slices.IndexFunc(l, func(m moment) bool { return m.at > upto })
	if end < 0 {
		return l
	}
	return l[:end]
}

// holdFirst holds what First and Keeps answer against a tick; below 0: there is none.
func holdFirst(t *testing.T, p plan, upto, want int) {
	t.Helper()
	at, late, e := First(p.l, p.sections, p.r, upto)
	if at != max(want, 0) || late != (want >= 0) || e != api.OK {
		t.Errorf("First of %v up to %d: %d, %v, %d, not %d", p, upto, at, late, e, want)
	}
	if keeps := Keeps(p.l, p.sections, p.r, upto); keeps != (want < 0) {
		t.Errorf("Keeps of %v up to %d: %v", p, upto, keeps)
	}
}

// holdSlack holds what Slack answers against a tick and what is given beyond the need there.
func holdSlack(t *testing.T, p plan, upto, at, least int) {
	t.Helper()
	if gotAt, got, e := Slack(p.l, p.sections, p.r, upto); gotAt != at || got != least || e != api.OK {
		t.Errorf("Slack of %v up to %d: %d, %d, %d, not %d, %d", p, upto, gotAt, got, e, at, least)
	}
}

// holdNoSlack holds that Slack tells that there are no Points.
func holdNoSlack(t *testing.T, p plan, upto int) {
	t.Helper()
	if at, least, e := Slack(p.l, p.sections, p.r, upto); at != 0 || least != 0 || e != api.ErrNone {
		t.Errorf("Slack of %v up to %d: %d, %d, %d", p, upto, at, least, e)
	}
}

// holdBudget holds what Budget answers against a budget; 0: there is none.
func holdBudget(t *testing.T, l []api.Task, sections []int, period, upto, want int) {
	t.Helper()
	wantE := api.OK
	if want == 0 {
		wantE = api.ErrOver
	}
	if got, e := Budget(l, sections, period, upto); got != want || e != wantE {
		t.Errorf("Budget of %v, %v in %d up to %d: %d, %d, not %d", l, sections, period, upto, got, e, want)
	}
}

// P5.1.
func TestRight(t *testing.T) {
	for _, p := range plans() {
		if !Right(p.l, p.sections, p.r) {
			t.Errorf("Right of %v", p)
		}
	}
	for _, p := range wrongPlans() {
		if Right(p.l, p.sections, p.r) {
			t.Errorf("Right of %v, which is wrong", p)
		}
	}
	r := supply.Reserve{Budget: 2, Period: 5}
	for first := -2; first <= 5; first++ {
		for second := -2; second <= 5; second++ {
			want := first >= 0 && first <= 1 && second >= 0 && second <= 3
			if got := Right(pair, []int{first, second}, r); got != want {
				t.Errorf("Right of sections %d, %d: %v", first, second, got)
			}
		}
	}
	for count := range 12 {
		for sections := range 12 {
			if got := Right(alike(pair[0], count), make([]int, sections), r); got != (count <= 8 && sections <= count) {
				t.Errorf("Right of %d tasks with %d sections: %v", count, sections, got)
			}
		}
	}
}

// P5.1.
func TestBlocked(t *testing.T) {
	for _, l := range ordinarySets() {
		for _, sections := range sectionsFor(l) {
			for ticks := -1; ticks <= 50; ticks++ {
				if got, want := Blocked(l, sections, ticks), wantHeld(l, sections, ticks); got != want {
					t.Errorf("Blocked of %v, %v at %d: %d, not %d", l, sections, ticks, got, want)
				}
			}
		}
	}
}

// P5.1: edges, by hand.
func TestBlockedEdges(t *testing.T) {
	trio := []api.Task{{Cost: 4, Period: 30, Deadline: 20}, {Cost: 3, Period: 12, Deadline: 10}, {Cost: 5, Period: 50, Deadline: 20}}
	long := []api.Task{{Cost: api.MaxPeriod, Period: api.MaxPeriod, Deadline: api.MaxPeriod}}
	for _, c := range []struct {
		l           []api.Task
		sections    []int
		ticks, want int
	}{
		{nil, nil, 0, 0}, {[]api.Task{}, []int{}, 5, 0}, {pair, nil, 0, 0}, {pair, []int{}, 14, 0}, {pair, []int{0, 0}, 0, 0},
		{pair, []int{1, 2}, 14, 2}, {pair, []int{1, 2}, 15, 2}, {pair, []int{1, 2}, 29, 2}, {pair, []int{1, 2}, 30, 0}, {pair, []int{1, 2}, 31, 0}, {pair, []int{0, 3}, 29, 3}, {pair, []int{0, 3}, 30, 0},
		{pair, []int{1, 0}, 0, 1}, {pair, []int{1, 0}, 14, 1}, {pair, []int{1, 0}, 15, 0}, {pair, []int{1}, 14, 1}, {pair, []int{1}, 15, 0}, {pair, []int{1, 1}, 14, 1}, {pair, []int{1, 1}, 15, 1},
		{trio, []int{4, 3, 2}, 9, 4}, {trio, []int{4, 3, 2}, 10, 4}, {trio, []int{2, 3, 1}, 9, 3}, {trio, []int{2, 3, 1}, 10, 2}, {trio, []int{2, 3, 5}, 19, 5}, {trio, []int{2, 3, 5}, 20, 0}, {trio, []int{2, 3}, 9, 3}, {trio, []int{2, 3}, 10, 2}, {trio, []int{0, 3}, 10, 0},
		{pair, []int{1, 2}, -1, 2}, {pair, []int{1, 2}, lowest, 2}, {pair, []int{1, 2}, highest, 0}, {pair, []int{1, 2}, api.MaxTicks, 0},
		{long, []int{api.MaxPeriod}, api.MaxTicks - 1, 1048576}, {long, []int{api.MaxPeriod}, api.MaxTicks, 0},
	} {
		if got := Blocked(c.l, c.sections, c.ticks); got != c.want {
			t.Errorf("Blocked of %v, %v at %d: %d", c.l, c.sections, c.ticks, got)
		}
	}
}

// Rule 'Ends': Blocked ends, whatever it is given.
func TestBlockedEnds(t *testing.T) {
	for _, p := range wrongPlans() {
		for _, ticks := range []int{lowest, -1, 0, 15, api.MaxTicks, highest} {
			Blocked(p.l, p.sections, ticks)
		}
	}
}

// P5.2.
func TestFirst(t *testing.T) {
	for _, p := range plans() {
		all := wantMoments(p, 90)
		late := slices.IndexFunc(all, func(m moment) bool { return m.spare < 0 })
		for _, upto := range ends() {
			want := -1
			if late >= 0 && all[late].at <= upto {
				want = all[late].at
			}
			holdFirst(t, p, upto, want)
		}
	}
}

// tight tells a plan in which just as much is given at 20 as is needed, if the section is 2.
func tight(section int) plan {
	l := []api.Task{{Cost: 4, Period: 20, Deadline: 20}, {Cost: 7, Period: 80, Deadline: 80}}
	return plan{l, []int{0, section}, supply.Reserve{Budget: 2, Period: 5}}
}

// P5.2: edges, by hand: none to be done, upto about the first of the Points, and the need just as much as is given, and one more.
func TestFirstEdges(t *testing.T) {
	one := alike(api.Task{Cost: 2, Period: 50, Deadline: 12}, 1)
	for _, c := range []struct {
		p          plan
		upto, want int
	}{
		{plan{nil, nil, supply.Reserve{Budget: 1, Period: 1}}, 0, -1}, {plan{nil, nil, supply.Reserve{Budget: 1, Period: api.MaxPeriod}}, api.MaxTicks, -1}, {plan{[]api.Task{}, []int{}, supply.Reserve{Budget: 2, Period: 5}}, 100, -1},
		{plan{one, nil, supply.Reserve{Budget: 1, Period: 5}}, 0, -1}, {plan{one, nil, supply.Reserve{Budget: 1, Period: 5}}, 11, -1}, {plan{one, nil, supply.Reserve{Budget: 1, Period: 5}}, 12, 12}, {plan{one, nil, supply.Reserve{Budget: 1, Period: 5}}, 13, 12}, {plan{one, nil, supply.Reserve{Budget: 1, Period: 5}}, api.MaxTicks, 12},
		{plan{one, nil, supply.Reserve{Budget: 1, Period: 4}}, 12, -1}, {plan{one, []int{2}, supply.Reserve{Budget: 1, Period: 4}}, 61, -1}, {plan{one, nil, supply.Reserve{Budget: 1, Period: 4}}, api.MaxTicks, -1},
		{tight(0), 20, -1}, {tight(2), 20, -1}, {tight(2), 100, -1}, {tight(3), 19, -1}, {tight(3), 20, 20}, {tight(7), 100, 20},
		{plan{pair, []int{0, 3}, supply.Reserve{Budget: 1, Period: 5}}, 500, 15}, {plan{pair, []int{0, 1}, supply.Reserve{Budget: 1, Period: 5}}, 500, -1}, {plan{pair, []int{0, 2}, supply.Reserve{Budget: 1, Period: 5}}, 14, -1}, {plan{pair, []int{0, 2}, supply.Reserve{Budget: 1, Period: 5}}, 15, 15},
		{plan{alike(api.Task{Cost: 1, Period: 10, Deadline: 10}, 1), nil, supply.Reserve{Budget: 1, Period: 5}}, 100, -1},
		{plan{alike(api.Task{Cost: 1, Period: 10, Deadline: 9}, 1), nil, supply.Reserve{Budget: 1, Period: 5}}, 100, 9}, {plan{alike(api.Task{Cost: 3, Period: 10, Deadline: 10}, 1), nil, supply.Reserve{Budget: 3, Period: 10}}, 100, 10},
	} {
		holdFirst(t, c.p, c.upto, c.want)
	}
}

// brim tells a set of which all that half a processor gives is needed at MaxTicks, if the second task's jobs cost 262143 each.
func brim(cost int, sections ...int) plan {
	l := []api.Task{{Cost: 1, Period: 4, Deadline: 4}, {Cost: cost, Period: api.MaxPeriod, Deadline: api.MaxPeriod}}
	return plan{l, sections, supply.Reserve{Budget: 1, Period: 2}}
}

// P5.2, P5.3: up to MaxTicks.
func TestMaxTicks(t *testing.T) {
	holdFirst(t, brim(262143), api.MaxTicks, -1)
	holdFirst(t, brim(262144), api.MaxTicks, api.MaxTicks)
	holdFirst(t, brim(262144), api.MaxTicks-1, -1)
	holdFirst(t, brim(262144, 0, 1), api.MaxTicks, 4)
	holdFirst(t, brim(262143, 1, 0), api.MaxTicks, -1)
	holdSlack(t, brim(262142), api.MaxTicks, 4, 0)
	holdSlack(t, brim(262143), api.MaxTicks, 4, 0)
	holdSlack(t, brim(262144), api.MaxTicks, api.MaxTicks, -1)
	holdSlack(t, brim(262144), api.MaxTicks-1, 4, 0)
	holdSlack(t, brim(262144, 0, 1), api.MaxTicks, 4, -1)
	holdSlack(t, brim(262145, 1, 1), api.MaxTicks, api.MaxTicks, -2)
	always := plan{alike(api.Task{Cost: 1, Period: 1, Deadline: 1}, api.MaxTasks), nil, supply.Reserve{Budget: 1, Period: 1}}
	holdFirst(t, always, api.MaxTicks, 1)
	holdSlack(t, always, api.MaxTicks, api.MaxTicks, 1048575-8*1048576)
	longest := alike(api.Task{Cost: api.MaxPeriod, Period: api.MaxPeriod, Deadline: api.MaxPeriod}, 1)
	for _, r := range []supply.Reserve{{Budget: api.MaxPeriod, Period: api.MaxPeriod}, {Budget: 1, Period: 1}, {Budget: api.MaxPeriod / 2, Period: api.MaxPeriod / 2}} {
		holdFirst(t, plan{longest, []int{api.MaxPeriod}, r}, api.MaxTicks, api.MaxTicks)
		holdFirst(t, plan{longest, []int{api.MaxPeriod}, r}, api.MaxTicks-1, -1)
		holdSlack(t, plan{longest, []int{api.MaxPeriod}, r}, api.MaxTicks, api.MaxTicks, r.Least(api.MaxTicks)-api.MaxPeriod)
		holdNoSlack(t, plan{longest, []int{api.MaxPeriod}, r}, api.MaxTicks-1)
	}
}

// P5.2: a plan that may not be, or a tick up to which nobody may ask.
func TestFirstWrong(t *testing.T) {
	refused := func(p plan, upto int) {
		if at, late, e := First(p.l, p.sections, p.r, upto); at != 0 || late || e != api.ErrArg {
			t.Errorf("First of %v up to %d: %d, %v, %d", p, upto, at, late, e)
		}
		if Keeps(p.l, p.sections, p.r, upto) {
			t.Errorf("Keeps of %v up to %d", p, upto)
		}
	}
	eachWrong(refused)
}

// eachWrong goes through plans that may not be, and through ordinary ones up to ticks up to which nobody may ask.
func eachWrong(refused func(p plan, upto int)) {
	for _, p := range wrongPlans() {
		for _, upto := range slices.Concat(wrongEnds, []int{0, 1, 14, 15, 100, api.MaxTicks}) {
			refused(p, upto)
		}
	}
	for _, l := range ordinarySets() {
		for _, upto := range wrongEnds {
			refused(plan{l, nil, supply.Reserve{Budget: 2, Period: 5}}, upto)
			refused(plan{l, make([]int, len(l)), supply.Reserve{Budget: 1, Period: 1}}, upto)
		}
	}
}

// P5.3.
func TestSlack(t *testing.T) {
	for _, p := range plans() {
		all := wantMoments(p, 90)
		for _, upto := range ends() {
			l := upTo(all, upto)
			if len(l) == 0 {
				holdNoSlack(t, p, upto)
				continue
			}
			worst := l[0]
			for _, m := range l {
				if m.spare < worst.spare {
					worst = m
				}
			}
			holdSlack(t, p, upto, worst.at, worst.spare)
		}
	}
}

// P5.3: edges, by hand: one of the Points alone, several alike, the last one, above, at and below 0.
func TestSlackEdges(t *testing.T) {
	often := alike(api.Task{Cost: 1, Period: 5, Deadline: 5}, 1)
	for _, c := range []struct {
		p               plan
		upto, at, least int
	}{
		{plan{pair, []int{0, 2}, supply.Reserve{Budget: 2, Period: 5}}, 100, 15, 1}, {plan{pair, nil, supply.Reserve{Budget: 2, Period: 5}}, 100, 15, 3}, {plan{pair, []int{0, 3}, supply.Reserve{Budget: 2, Period: 5}}, 15, 15, 0}, {plan{pair, []int{0, 3}, supply.Reserve{Budget: 1, Period: 5}}, 100, 15, -2},
		{plan{pair, []int{1, 0}, supply.Reserve{Budget: 2, Period: 5}}, 100, 15, 3}, {plan{pair, []int{1}, supply.Reserve{Budget: 1, Period: 5}}, 100, 15, 1}, {plan{pair, nil, supply.Reserve{Budget: 1, Period: 5}}, 30, 15, 1}, {plan{pair, nil, supply.Reserve{Budget: 1, Period: 10}}, 30, 30, -2},
		{plan{often, nil, supply.Reserve{Budget: 1, Period: 5}}, 5, 5, -1}, {plan{often, nil, supply.Reserve{Budget: 1, Period: 5}}, 9, 5, -1}, {plan{often, nil, supply.Reserve{Budget: 1, Period: 5}}, 10, 5, -1}, {plan{often, nil, supply.Reserve{Budget: 1, Period: 5}}, 100, 5, -1}, {plan{often, nil, supply.Reserve{Budget: 1, Period: 5}}, api.MaxTicks, 5, -1},
		{plan{often, nil, supply.Reserve{Budget: 2, Period: 10}}, 5, 5, -1}, {plan{often, nil, supply.Reserve{Budget: 2, Period: 10}}, 10, 10, -2}, {plan{often, nil, supply.Reserve{Budget: 2, Period: 10}}, 15, 15, -3}, {plan{often, nil, supply.Reserve{Budget: 2, Period: 10}}, 25, 15, -3}, {plan{often, nil, supply.Reserve{Budget: 2, Period: 10}}, 100, 15, -3},
		{plan{often, nil, supply.Reserve{Budget: 1, Period: 1}}, 100, 5, 3}, {plan{alike(often[0], 3), nil, supply.Reserve{Budget: 1, Period: 1}}, 100, 5, 1}, {plan{alike(often[0], 5), nil, supply.Reserve{Budget: 1, Period: 1}}, 100, 5, -1}, {plan{alike(often[0], 6), nil, supply.Reserve{Budget: 1, Period: 1}}, 99, 95, -20},
	} {
		holdSlack(t, c.p, c.upto, c.at, c.least)
	}
	for _, upto := range []int{0, 1, 4} {
		holdNoSlack(t, plan{often, []int{1}, supply.Reserve{Budget: 1, Period: 5}}, upto)
		holdNoSlack(t, plan{nil, nil, supply.Reserve{Budget: 1, Period: 5}}, upto)
	}
	holdNoSlack(t, plan{[]api.Task{}, []int{}, supply.Reserve{Budget: 1, Period: 1}}, api.MaxTicks)
}

// P5.3: a plan that may not be, or a tick up to which nobody may ask, also where there are no Points.
func TestSlackWrong(t *testing.T) {
	eachWrong(func(p plan, upto int) {
		if at, least, e := Slack(p.l, p.sections, p.r, upto); at != 0 || least != 0 || e != api.ErrArg {
			t.Errorf("Slack of %v up to %d: %d, %d, %d", p, upto, at, least, e)
		}
	})
}

// wantBudget tries all budgets of a period, the least first; 0: none is enough.
func wantBudget(l []api.Task, sections []int, period, upto int) int {
	for budget := 1; budget <= period; budget++ {
		late := func(m moment) bool { return m.spare < 0 }
		if !slices.ContainsFunc(wantMoments(plan{l, sections, supply.Reserve{Budget: budget, Period: period}}, upto), late) {
			return budget
		}
	}
	return 0
}

// P5.4.
func TestBudget(t *testing.T) {
	for _, l := range ordinarySets() {
		for _, sections := range sectionsFor(l) {
			for period := 1; period <= 12; period++ {
				for _, upto := range []int{0, 8, 9, 14, 15, 22, 31, 60} {
					holdBudget(t, l, sections, period, upto, wantBudget(l, sections, period, upto))
				}
			}
		}
	}
}

// P5.4: edges, by hand; a budget of 0 stands for none.
func TestBudgetEdges(t *testing.T) {
	large := []api.Task{{Cost: 1000, Period: 100000, Deadline: 50000}, {Cost: 20000, Period: 200000, Deadline: 200000}}
	for _, c := range []struct {
		l                  []api.Task
		sections           []int
		period, upto, want int
	}{
		{nil, nil, 1, 0, 1}, {nil, nil, 5, 100, 1}, {[]api.Task{}, []int{}, api.MaxPeriod, api.MaxTicks, 1}, {pair, []int{1, 3}, 5, 0, 1}, {pair, []int{1, 3}, 5, 14, 1}, {pair, []int{1, 3}, api.MaxPeriod, 14, 1}, {pair, []int{1, 3}, api.MaxPeriod, 15, 0},
		{pair, nil, 5, 500, 1}, {pair, []int{0, 1}, 5, 500, 1}, {pair, []int{0, 2}, 5, 500, 2}, {pair, []int{0, 3}, 5, 500, 2}, {pair, []int{1}, 5, 500, 1}, {pair, nil, 7, 500, 2}, {pair, []int{0, 3}, 7, 500, 4}, {pair, nil, 8, 500, 0}, {pair, nil, 10, 500, 0}, {pair, nil, 1, 500, 1},
		{alike(api.Task{Cost: 5, Period: 10, Deadline: 10}, 1), nil, 5, 100, 5}, {alike(api.Task{Cost: 4, Period: 10, Deadline: 10}, 1), nil, 5, 100, 4}, {alike(api.Task{Cost: 6, Period: 10, Deadline: 10}, 1), nil, 5, 100, 0}, {alike(api.Task{Cost: 6, Period: 10, Deadline: 10}, 1), nil, 5, 9, 1},
		{tight(0).l, []int{0, 2}, 5, 100, 2}, {tight(0).l, []int{0, 3}, 5, 100, 3}, {tight(0).l, []int{0, 2}, 5, 19, 1}, {tight(0).l, []int{0, 6}, 10, 20, 10}, {tight(0).l, []int{0, 7}, 10, 20, 0}, {tight(0).l, []int{0, 7}, 10, 19, 1},
		{large, nil, 10000, api.MaxTicks, 1158}, {large, []int{0, 5000}, 10000, api.MaxTicks, 1500}, {large, nil, 25000, 199999, 1000}, {large, nil, 25001, api.MaxTicks, 0}, {large, []int{1000, 20000}, 25000, 199999, 21000},
		{brim(1).l, nil, 2, api.MaxTicks, 1}, {brim(262143).l, nil, 2, api.MaxTicks, 1}, {brim(262144).l, nil, 2, api.MaxTicks, 2}, {brim(262144).l, nil, 2, api.MaxTicks - 1, 1}, {brim(262144).l, []int{0, 1}, 2, 4, 2}, {brim(262144).l, []int{0, 2}, 2, 4, 0},
		{alike(api.Task{Cost: 1, Period: 1, Deadline: 1}, 1), nil, 1, 0, 1}, {alike(api.Task{Cost: 1, Period: 1, Deadline: 1}, 1), nil, 1, 1, 0}, {alike(api.Task{Cost: 1, Period: 1, Deadline: 1}, 8), nil, 3, api.MaxTicks, 0}, {alike(api.Task{Cost: 1, Period: 2, Deadline: 2}, 1), nil, 1, api.MaxTicks, 1},
	} {
		holdBudget(t, c.l, c.sections, c.period, c.upto, c.want)
	}
}

// P5.4: a set or sections that may not be, a period that no reservation has, a tick up to which nobody may ask.
func TestBudgetWrong(t *testing.T) {
	refused := func(l []api.Task, sections []int, period, upto int) {
		if got, e := Budget(l, sections, period, upto); got != 0 || e != api.ErrArg {
			t.Errorf("Budget of %v, %v in %d up to %d: %d, %d", l, sections, period, upto, got, e)
		}
	}
	eachWrong(func(p plan, upto int) {
		// Of a reservation that may not be, the period alone is handed in, and it may be one.
		if !slices.Contains(wrongReserves, p.r) {
			refused(p.l, p.sections, p.r.Period, upto)
		}
	})
	for _, period := range wrongPeriods {
		for _, upto := range []int{-1, 0, 14, 15, api.MaxTicks, api.MaxTicks + 1} {
			refused(nil, nil, period, upto)
			refused(pair, nil, period, upto)
			refused(pair, []int{1, 3}, period, upto)
		}
	}
}

// extras are tasks that may come to a set, each with a section that it may have.
var extras = []struct {
	t       api.Task
	section int
}{
	{api.Task{Cost: 1, Period: 1, Deadline: 1}, 0}, {api.Task{Cost: 1, Period: 50, Deadline: 50}, 1}, {api.Task{Cost: 9, Period: 12, Deadline: 12}, 0}, {api.Task{Cost: 2, Period: 16, Deadline: 11}, 2},
	{api.Task{Cost: 6, Period: 80, Deadline: 70}, 0}, {api.Task{Cost: 6, Period: 80, Deadline: 70}, 3}, {api.Task{Cost: 6, Period: 80, Deadline: 70}, 6},
}

// P5.4: With the task is as Keeps of the set in which it is the last, its section in the last place.
func TestWith(t *testing.T) {
	for _, p := range plans() {
		for _, x := range extras {
			more, held := append(slices.Clone(p.l), x.t), make([]int, len(p.l)+1)
			copy(held, p.sections)
			held[len(p.l)] = x.section
			all := wantMoments(plan{more, held, p.r}, 60)
			for _, upto := range []int{0, 10, 11, 12, 15, 50, 60} {
				late := func(m moment) bool { return m.spare < 0 }
				want := len(p.l) < 8 && !slices.ContainsFunc(upTo(all, upto), late)
				if got := With(p.l, p.sections, x.t, x.section, p.r, upto); got != want {
					t.Errorf("With of %v, %v up to %d: %v", p, x, upto, got)
				}
			}
		}
	}
}

// P5.4: edges, by hand.
func TestWithEdges(t *testing.T) {
	r, small := supply.Reserve{Budget: 2, Period: 5}, api.Task{Cost: 1, Period: 50, Deadline: 50}
	long := api.Task{Cost: 6, Period: 80, Deadline: 70}
	light := api.Task{Cost: 1, Period: 1000, Deadline: 1000}
	for _, c := range []struct {
		l        []api.Task
		sections []int
		t        api.Task
		section  int
		upto     int
		want     bool
	}{
		{pair, nil, small, 1, 500, true}, {pair, nil, small, 0, 500, true}, {pair, []int{0, 2}, small, 1, 500, true}, {pair, nil, api.Task{Cost: 9, Period: 12, Deadline: 12}, 0, 500, false}, {pair, nil, api.Task{Cost: 9, Period: 12, Deadline: 12}, 0, 11, true},
		{pair, nil, long, 3, 500, true}, {pair, []int{1}, long, 3, 500, true}, {pair, []int{1, 3}, long, 3, 500, true}, {pair, nil, long, 4, 500, false}, {pair, []int{1}, long, 4, 500, false}, {pair, nil, long, 4, 14, true}, {pair, []int{0, 3}, long, 6, 15, false},
		{nil, nil, small, 1, 500, true}, {[]api.Task{}, []int{}, long, 6, 500, true}, {nil, nil, api.Task{Cost: 5, Period: 10, Deadline: 10}, 0, 500, false}, {nil, nil, api.Task{Cost: 2, Period: 10, Deadline: 10}, 2, 500, true}, {nil, nil, api.Task{Cost: 3, Period: 10, Deadline: 10}, 0, 500, false}, {nil, nil, api.Task{Cost: 3, Period: 10, Deadline: 10}, 0, 9, true},
		{alike(light, 7), nil, light, 1, 2000, true}, {alike(light, 7), make([]int, 7), light, 0, 2000, true}, {alike(light, 8), nil, light, 0, 2000, false}, {alike(light, 8), make([]int, 8), light, 0, 0, false}, {alike(light, 9), nil, light, 0, 2000, false},
	} {
		if got := With(c.l, c.sections, c.t, c.section, r, c.upto); got != c.want {
			t.Errorf("With of %v, %v, %v, %d up to %d: %v", c.l, c.sections, c.t, c.section, c.upto, got)
		}
	}
}

// P5.4: a plan that may not be, one tick too far, or a task or a section that may not be.
func TestWithWrong(t *testing.T) {
	light := api.Task{Cost: 1, Period: 1000, Deadline: 1000}
	eachWrong(func(p plan, upto int) {
		if With(p.l, p.sections, light, 0, p.r, upto) {
			t.Errorf("With of %v up to %d", p, upto)
		}
	})
	r := supply.Reserve{Budget: 2, Period: 5}
	for _, upto := range []int{0, 14, 500} {
		for _, x := range wrongTasks {
			if With(pair, nil, x, 0, r, upto) || With(nil, nil, x, 0, r, upto) {
				t.Errorf("With of %v up to %d", x, upto)
			}
		}
		for _, section := range []int{-1, -2, lowest, 2, 3, highest} {
			if With(pair, nil, light, section, r, upto) || With(nil, nil, light, section, r, upto) {
				t.Errorf("With of a section %d up to %d", section, upto)
			}
		}
		for _, sections := range [][]int{{0, 0, 0}, {1, 3, 1}, {0, 0, 0, 0}} {
			if With(pair, sections, light, 0, r, upto) || With(nil, sections[:1], light, 0, r, upto) {
				t.Errorf("With of sections %v up to %d", sections, upto)
			}
		}
	}
}

// P5.5.
func TestJustWithBudget(t *testing.T) {
	hold := func(l []api.Task, sections []int, period, budget, upto int) {
		least, e := Budget(l, sections, period, upto)
		if keeps := Keeps(l, sections, supply.Reserve{Budget: budget, Period: period}, upto); keeps != (e == api.OK && budget >= least) {
			t.Errorf("Keeps of %v, %v on %d by %d up to %d: %v, Budget %d, %d", l, sections, budget, period, upto, keeps, least, e)
		}
	}
	for _, l := range ordinarySets() {
		for _, sections := range sectionsFor(l) {
			for period := 1; period <= 12; period++ {
				for budget := 1; budget <= period; budget++ {
					for _, upto := range []int{0, 9, 15, 30, 200} {
						hold(l, sections, period, budget, upto)
					}
				}
			}
		}
	}
	large := []api.Task{{Cost: 1000, Period: 100000, Deadline: 50000}, {Cost: 20000, Period: 200000, Deadline: 200000}}
	for budget := 1; budget <= 10000; budget++ {
		hold(large, []int{0, 5000}, 10000, budget, api.MaxTicks)
	}
}

// withRoom tells a copy of a list with spare room behind it, and all of that room as it is.
func withRoom[T any](l []T, spare T) (copied, room []T) {
	room = append(append([]T{}, l...), spare, spare, spare)
	return room[:len(l)], room
}

// Rule 'Memory': what is handed in stays as it is, its spare room included.
func TestMemory(t *testing.T) {
	for _, p := range slices.Concat(plans(), wrongPlans()) {
		l, lRoom := withRoom(p.l, api.Task{Cost: 7, Period: 77, Deadline: 70})
		sections, sectionsRoom := withRoom(p.sections, 5)
		lWas, sectionsWas := slices.Clone(lRoom), slices.Clone(sectionsRoom)
		Right(l, sections, p.r)
		Blocked(l, sections, 10)
		First(l, sections, p.r, 100)
		Keeps(l, sections, p.r, 100)
		Slack(l, sections, p.r, 100)
		Budget(l, sections, p.r.Period, 100)
		With(l, sections, extras[1].t, 1, p.r, 100)
		if !slices.Equal(lRoom, lWas) || !slices.Equal(sectionsRoom, sectionsWas) {
			t.Errorf("%v: %v, %v", p, lRoom, sectionsRoom)
		}
	}
}
