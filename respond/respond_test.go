package respond

import (
	"math"
	"slices"
	"testing"

	"remontoire/api"
	"remontoire/supply"
)

// lowest and highest are the edges of an int.
const (
	lowest  = math.MinInt
	highest = math.MaxInt
)

// far is a tick by which ordinary jobs are done, if ever they are.
const far = 180

// trio is a set whose ranks are those of its periods, of its deadlines, too.
var trio = []api.Task{{Cost: 1, Period: 15, Deadline: 15}, {Cost: 2, Period: 40, Deadline: 30}, {Cost: 4, Period: 100, Deadline: 60}}

// alike tells a set of so many tasks that don't differ.
func alike(t api.Task, count int) []api.Task { return slices.Repeat([]api.Task{t}, count) }

// ordinarySets tells sets that may be, ranked in several ways: none at all, ordinary ones, and full ones.
func ordinarySets() [][]api.Task {
	return [][]api.Task{
		nil, {}, trio, {trio[2], trio[0], trio[1]}, trio[1:],
		{{Cost: 1, Period: 20, Deadline: 20}}, {{Cost: 1, Period: 1, Deadline: 1}}, {{Cost: 4, Period: 4, Deadline: 4}}, {{Cost: 2, Period: 5, Deadline: 4}}, {{Cost: 3, Period: 8, Deadline: 3}},
		{{Cost: 1, Period: 4, Deadline: 4}, {Cost: 1, Period: 6, Deadline: 6}, {Cost: 2, Period: 12, Deadline: 12}}, {{Cost: 3, Period: 24, Deadline: 17}, {Cost: 3, Period: 24, Deadline: 24}}, {{Cost: 6, Period: 30, Deadline: 25}, {Cost: 1, Period: 9, Deadline: 7}},
		{{Cost: 2, Period: 40, Deadline: 20}, {Cost: 30, Period: 60, Deadline: 35}, {Cost: 1, Period: 50, Deadline: 50}}, {{Cost: 2, Period: 16, Deadline: 16}, {Cost: 3, Period: 50, Deadline: 40}, {Cost: 5, Period: 80, Deadline: 80}, {Cost: 9, Period: 160, Deadline: 150}},
		alike(api.Task{Cost: 1, Period: 30, Deadline: 28}, api.MaxTasks),
		{{Cost: 1, Period: 20, Deadline: 8}, {Cost: 1, Period: 24, Deadline: 12}, {Cost: 2, Period: 32, Deadline: 20}, {Cost: 1, Period: 40, Deadline: 30}, {Cost: 3, Period: 60, Deadline: 50}, {Cost: 2, Period: 70, Deadline: 70}, {Cost: 4, Period: 100, Deadline: 90}, {Cost: 5, Period: 160, Deadline: 160}},
	}
}

// sectionsFor tells sections that a set may have: none, one task's, some, all, the least and the longest.
func sectionsFor(l []api.Task) [][]int {
	longest, mixed := make([]int, len(l)), make([]int, len(l))
	lists := [][]int{nil, {}, make([]int, len(l)), longest, mixed}
	for i, t := range l {
		longest[i], mixed[i] = t.Cost, (i*5+1)%(t.Cost+1)
		one := make([]int, i+1)
		one[i] = t.Cost
		lists = append(lists, one)
	}
	return append(lists, longest[:len(l)/2], mixed[:(len(l)+1)/2])
}

// reserves tells all reservations of short periods, and some of longer ones.
func reserves() []supply.Reserve {
	l := []supply.Reserve{{Budget: 1, Period: 10}, {Budget: 7, Period: 10}, {Budget: 10, Period: 10}, {Budget: 20, Period: 30}, {Budget: 1, Period: api.MaxPeriod}, {Budget: api.MaxPeriod, Period: api.MaxPeriod}}
	for period := 1; period <= 5; period++ {
		for budget := 1; budget <= period; budget++ {
			l = append(l, supply.Reserve{Budget: budget, Period: period})
		}
	}
	return l
}

// jobs are tasks that ordinary sets are put ahead of.
var jobs = []api.Task{{Cost: 1, Period: 1, Deadline: 1}, {Cost: 1, Period: 20, Deadline: 20}, {Cost: 4, Period: 9, Deadline: 7}, {Cost: 11, Period: 100, Deadline: 60}, {Cost: api.MaxPeriod, Period: api.MaxPeriod, Deadline: api.MaxPeriod}}

// holds are ticks that a job may be held up.
var holds = []int{0, 1, 5, 30, Most}

// wrongTasks are tasks that may not be.
var wrongTasks = []api.Task{
	{}, {Cost: 0, Period: 9, Deadline: 7}, {Cost: -1, Period: 9, Deadline: 7}, {Cost: lowest, Period: 9, Deadline: 7}, {Cost: 8, Period: 9, Deadline: 7}, {Cost: highest, Period: 9, Deadline: 7},
	{Cost: 1, Period: 9, Deadline: 0}, {Cost: 1, Period: 9, Deadline: -7}, {Cost: 1, Period: 9, Deadline: 10}, {Cost: 1, Period: 0, Deadline: 1}, {Cost: 1, Period: -9, Deadline: 7}, {Cost: 1, Period: api.MaxPeriod + 1, Deadline: 7}, {Cost: 1, Period: highest, Deadline: highest},
}

// wrongSets tells sets that may not be, by number and by a task in some place.
func wrongSets() [][]api.Task {
	l := [][]api.Task{alike(trio[0], api.MaxTasks+1), make([]api.Task, api.MaxTasks+1), alike(trio[2], 100)}
	for _, t := range wrongTasks {
		l = append(l, []api.Task{t}, []api.Task{t, trio[1]}, []api.Task{trio[0], t}, append(alike(trio[0], api.MaxTasks-1), t))
	}
	return l
}

// wrongSections are sections that trio may not have: too many, below 0, above their task's Cost.
var wrongSections = [][]int{
	{0, 0, 0, 0}, {1, 2, 4, 0}, {1, 2, 4, 1}, make([]int, 9), make([]int, 100),
	{-1}, {lowest}, {-1, 2, 4}, {1, -1}, {1, 2, -1}, {0, 0, lowest},
	{2}, {highest}, {2, 2, 4}, {1, 3}, {1, 3, 4}, {1, 2, 5}, {0, 0, highest}, {4, 2, 1}, {0, 30}, {15},
}

// wrongReserves are reservations that may not be.
var wrongReserves = []supply.Reserve{
	{}, {Budget: 0, Period: 5}, {Budget: -1, Period: 5}, {Budget: lowest, Period: 5}, {Budget: 6, Period: 5}, {Budget: highest, Period: 5}, {Budget: 1, Period: 0}, {Budget: 1, Period: -5}, {Budget: -5, Period: -5},
	{Budget: 1, Period: api.MaxPeriod + 1}, {Budget: api.MaxPeriod + 1, Period: api.MaxPeriod}, {Budget: api.MaxPeriod + 1, Period: api.MaxPeriod + 1}, {Budget: 1, Period: highest}, {Budget: highest, Period: highest}, {Budget: lowest, Period: lowest},
}

// wrongTicks are ticks that nobody may be held up, and within which nobody may ask.
var wrongTicks = []int{-1, -2, -20, lowest, lowest + 1, Most + 1, Most + 2, 2 * Most, highest - 1, highest}

// question is what Time is asked, but for the bound.
type question struct {
	ahead []api.Task
	t     api.Task
	held  int
	r     supply.Reserve
}

// questions tells what may be asked: each ordinary set ahead of each job, held up so long, on each reservation.
func questions() []question {
	var all []question
	for _, ahead := range ordinarySets() {
		for _, t := range jobs {
			for _, held := range holds {
				for _, r := range reserves() {
					all = append(all, question{ahead, t, held, r})
				}
			}
		}
	}
	return all
}

// wrongQuestions tells what may not be asked, as one part of it may not be.
func wrongQuestions() []question {
	r, t := supply.Reserve{Budget: 2, Period: 5}, trio[2]
	var all []question
	for _, ahead := range wrongSets() {
		all = append(all, question{ahead, t, 0, r}, question{ahead, t, 3, r})
	}
	for _, ahead := range [][]api.Task{nil, {}, trio, trio[:1]} {
		for _, wrong := range wrongTasks {
			all = append(all, question{ahead, wrong, 0, r}, question{ahead, wrong, 1, r})
		}
		for _, held := range wrongTicks {
			all = append(all, question{ahead, t, held, r})
		}
		for _, wrong := range wrongReserves {
			all = append(all, question{ahead, t, 0, wrong}, question{ahead, t, Most, wrong})
		}
	}
	return all
}

// wantGiven adds up a Budget at the end of each whole Period but the first.
func wantGiven(r supply.Reserve, ticks int) int {
	sum := 0
	for end := 2 * r.Period; end <= ticks; end += r.Period {
		sum += r.Budget
	}
	return sum
}

// wantAsked adds up the Costs of one job, of what holds it up, and of all jobs ahead that come ahead of a tick.
func wantAsked(q question, ticks int) int {
	sum := q.t.Cost + q.held
	for _, t := range q.ahead {
		for come := 0; come < ticks; come += t.Period {
			sum += t.Cost
		}
	}
	return sum
}

// wantTime tries tick by tick whether just then, and not a tick sooner, as much is given as is asked for by then; 0: there is no such tick up to the bound.
func wantTime(q question, bound int) int {
	for n := 1; n <= bound; n++ {
		asked := wantAsked(q, n)
		if wantGiven(q.r, n) >= asked && wantGiven(q.r, n-1) < asked {
			return n
		}
	}
	return 0
}

// holdTime holds what Time answers against some ticks; 0: there are none.
func holdTime(t *testing.T, q question, bound, want int) {
	t.Helper()
	wantE := api.OK
	if want == 0 {
		wantE = api.ErrOver
	}
	if got, e := Time(q.ahead, q.t, q.held, q.r, bound); got != want || e != wantE {
		t.Errorf("Time of %v within %d: %d, %d, not %d", q, bound, got, e, want)
	}
}

// holdAbout holds what Time answers within some ticks, and within bounds beside the answer; 0: there is none.
func holdAbout(t *testing.T, q question, bound, want int) {
	t.Helper()
	holdTime(t, q, bound, want)
	holdTime(t, q, 0, 0)
	if want > 0 {
		holdTime(t, q, want, want)
		holdTime(t, q, want-1, 0)
	}
	if want > 0 && want < Most {
		holdTime(t, q, want+1, want)
		holdTime(t, q, Most, want)
	}
}

// P6.1.
func TestTime(t *testing.T) {
	for _, q := range questions() {
		holdAbout(t, q, far, wantTime(q, far))
	}
}

// P6.1: edges, by hand: none ahead, held up not at all and most, jobs that come just when one is done, more asked than is given.
func TestTimeEdges(t *testing.T) {
	one, whole, half, fifth := api.Task{Cost: 1, Period: 20, Deadline: 20}, supply.Reserve{Budget: 1, Period: 1}, supply.Reserve{Budget: 2, Period: 4}, supply.Reserve{Budget: 1, Period: 5}
	always, often := api.Task{Cost: 1, Period: 1, Deadline: 1}, api.Task{Cost: 1, Period: 4, Deadline: 4}
	for _, c := range []struct {
		q           question
		bound, want int
	}{
		{question{nil, one, 0, fifth}, 20, 10}, {question{[]api.Task{}, one, 0, fifth}, Most, 10}, {question{nil, one, 1, fifth}, 20, 15}, {question{nil, one, 3, fifth}, 20, 0}, {question{nil, one, 3, fifth}, 25, 25},
		{question{nil, one, 0, whole}, 2, 2}, {question{nil, always, 0, whole}, Most, 2}, {question{nil, one, 0, half}, 20, 8}, {question{nil, one, 1, half}, 20, 8}, {question{nil, one, 2, half}, 20, 12},
		{question{[]api.Task{often}, one, 0, whole}, 20, 3}, {question{[]api.Task{often}, one, 1, whole}, 20, 4}, {question{[]api.Task{often}, one, 2, whole}, 20, 6}, {question{[]api.Task{often}, one, 3, whole}, 20, 7}, {question{[]api.Task{often}, one, 4, whole}, 20, 8}, {question{[]api.Task{often}, one, 5, whole}, 20, 10},
		{question{[]api.Task{often}, one, 0, half}, 20, 12}, {question{[]api.Task{often}, one, 1, half}, 20, 16}, {question{[]api.Task{often}, one, 2, half}, 20, 20}, {question{[]api.Task{often}, one, 3, half}, 20, 0}, {question{[]api.Task{often, often}, one, 0, half}, Most, 0},
		{question{[]api.Task{always}, one, 0, whole}, Most, 0}, {question{alike(always, api.MaxTasks), one, 0, supply.Reserve{Budget: api.MaxPeriod, Period: api.MaxPeriod}}, Most, 0}, {question{[]api.Task{{Cost: 3, Period: 4, Deadline: 4}}, one, 0, half}, Most, 0}, {question{[]api.Task{{Cost: 20, Period: 20, Deadline: 20}}, one, 0, whole}, Most, 0},
		{question{trio[:1], trio[1], 0, supply.Reserve{Budget: 2, Period: 5}}, 30, 15}, {question{trio[:1], trio[1], 2, supply.Reserve{Budget: 2, Period: 5}}, 30, 20}, {question{trio[:2], trio[2], 0, supply.Reserve{Budget: 2, Period: 5}}, 60, 25}, {question{trio[:2], trio[2], 2, supply.Reserve{Budget: 2, Period: 5}}, 60, 30},
	} {
		holdAbout(t, c.q, c.bound, c.want)
	}
}

// late tells a question of which all that half a processor gives up to Most is asked, if it is held up 262142 ticks.
func late(held int) question {
	return question{[]api.Task{{Cost: 1, Period: 4, Deadline: 4}}, api.Task{Cost: 1, Period: 9, Deadline: 9}, held, supply.Reserve{Budget: 1, Period: 2}}
}

// P6.1: up to Most, and where it would be more: neither what is given nor what is requested ends there.
func TestTimeMost(t *testing.T) {
	one, whole := api.Task{Cost: 1, Period: 9, Deadline: 9}, supply.Reserve{Budget: 1, Period: 1}
	huge := api.Task{Cost: api.MaxPeriod, Period: api.MaxPeriod, Deadline: api.MaxPeriod}
	for _, c := range []struct {
		q    question
		want int
	}{
		{question{nil, one, Most - 3, whole}, Most - 1}, {question{nil, one, Most - 2, whole}, Most}, {question{nil, one, Most - 1, whole}, 0}, {question{nil, one, Most, whole}, 0},
		{question{nil, one, Most/2 - 1, supply.Reserve{Budget: Most / 2, Period: Most / 2}}, Most}, {question{nil, one, Most / 2, supply.Reserve{Budget: Most / 2, Period: Most / 2}}, 0}, {question{nil, one, 0, supply.Reserve{Budget: 1, Period: Most / 2}}, Most}, {question{nil, one, 1, supply.Reserve{Budget: 1, Period: Most / 2}}, 0},
		{question{nil, one, 0, supply.Reserve{Budget: api.MaxPeriod, Period: api.MaxPeriod}}, 0}, {question{nil, one, 0, supply.Reserve{Budget: api.MaxPeriod / 2, Period: api.MaxPeriod/2 + 1}}, 0}, {question{nil, huge, 0, whole}, 0}, {question{alike(huge, api.MaxTasks), huge, Most, whole}, 0},
		{late(262141), Most - 4}, {late(262142), Most}, {late(262143), 0}, {late(Most), 0},
		{question{[]api.Task{{Cost: Most - 3, Period: Most, Deadline: Most}}, one, 0, whole}, Most - 1}, {question{[]api.Task{{Cost: Most - 2, Period: Most, Deadline: Most}}, one, 0, whole}, Most}, {question{[]api.Task{{Cost: Most - 2, Period: Most - 1, Deadline: Most - 1}}, one, 0, whole}, 0}, {question{[]api.Task{{Cost: Most - 1, Period: Most, Deadline: Most}}, one, 0, whole}, 0},
	} {
		holdAbout(t, c.q, Most, c.want)
	}
}

// P6.1: a set, a task, ticks or a reservation that may not be, whatever the bound; and a bound that may not be.
func TestTimeWrong(t *testing.T) {
	refused := func(q question, bound int) {
		if got, e := Time(q.ahead, q.t, q.held, q.r, bound); got != 0 || e != api.ErrArg {
			t.Errorf("Time of %v within %d: %d, %d", q, bound, got, e)
		}
	}
	for _, q := range wrongQuestions() {
		for _, bound := range slices.Concat(wrongTicks, []int{0, 1, 60, far, Most}) {
			refused(q, bound)
		}
	}
	for _, q := range questions() {
		for _, bound := range wrongTicks {
			refused(q, bound)
		}
	}
}

// wantHeld seeks the section behind a rank that is longer than all others there.
func wantHeld(sections []int, rank int) int {
	held := 0
	for i := len(sections) - 1; i >= 0 && i > rank; i-- {
		if sections[i] > held {
			held = sections[i]
		}
	}
	return held
}

// P6.2.
func TestHeld(t *testing.T) {
	for _, l := range ordinarySets() {
		for _, sections := range sectionsFor(l) {
			for rank := -3; rank <= 10; rank++ {
				if got, want := Held(sections, rank), wantHeld(sections, rank); got != want {
					t.Errorf("Held of %v at %d: %d, not %d", sections, rank, got, want)
				}
			}
		}
	}
}

// P6.2: edges, by hand: ranks below 0, of the last place and behind it, none above 0, no sections, alike ones, more than there may be tasks.
func TestHeldEdges(t *testing.T) {
	many := append(make([]int, 100), 7)
	for _, c := range []struct {
		sections   []int
		rank, want int
	}{
		{nil, 0, 0}, {nil, -1, 0}, {nil, lowest, 0}, {nil, highest, 0}, {[]int{}, 0, 0}, {[]int{}, -1, 0},
		{[]int{5, 1, 3}, lowest, 5}, {[]int{5, 1, 3}, -2, 5}, {[]int{5, 1, 3}, -1, 5}, {[]int{5, 1, 3}, 0, 3}, {[]int{5, 1, 3}, 1, 3}, {[]int{5, 1, 3}, 2, 0}, {[]int{5, 1, 3}, 3, 0}, {[]int{5, 1, 3}, 100, 0}, {[]int{5, 1, 3}, highest, 0},
		{[]int{4}, -1, 4}, {[]int{4}, 0, 0}, {[]int{1, 9, 2}, -1, 9}, {[]int{1, 9, 2}, 0, 9}, {[]int{1, 9, 2}, 1, 2}, {[]int{3, 3, 3}, 0, 3}, {[]int{3, 3, 3}, 1, 3}, {[]int{3, 3, 3}, 2, 0},
		{[]int{0, 0, 0}, -1, 0}, {[]int{0, 0, 0}, 0, 0}, {[]int{8, 0, 0}, 0, 0}, {[]int{-3, -1, -2}, -1, 0}, {[]int{-3, -1, -2}, 0, 0}, {[]int{-3, 2, -2}, 0, 2}, {[]int{6, lowest, 1, -1}, 0, 1}, {[]int{0, highest, lowest}, -1, highest}, {[]int{0, highest, lowest}, 1, 0},
		{many, 0, 7}, {many, 98, 7}, {many, 99, 7}, {many, 100, 0}, {many, 101, 0},
	} {
		if got := Held(c.sections, c.rank); got != c.want {
			t.Errorf("Held of %v at %d: %d", c.sections, c.rank, got)
		}
	}
}

// holdAll holds what All answers against times, and the place of the first task that isn't done in time; -1: there is none.
func holdAll(t *testing.T, l []api.Task, sections []int, r supply.Reserve, times []int, first int) {
	t.Helper()
	if got, gotFirst, e := All(l, sections, r); !slices.Equal(got, times) || gotFirst != first || e != api.OK {
		t.Errorf("All of %v, %v on %v: %v, %d, %d, not %v, %d", l, sections, r, got, gotFirst, e, times, first)
	}
}

// P6.2.
func TestAll(t *testing.T) {
	for _, l := range ordinarySets() {
		for _, sections := range sectionsFor(l) {
			for _, r := range reserves() {
				times, first := []int{}, -1
				for i, x := range l {
					n := wantTime(question{l[:i], x, wantHeld(sections, i), r}, x.Deadline)
					if n == 0 {
						first = i
						break
					}
					times = append(times, n)
				}
				holdAll(t, l, sections, r, times, first)
			}
		}
	}
}

// P6.2: edges, by hand: no task at all, fewer sections than tasks, an error at the first, a middle and the last task, and none.
func TestAllEdges(t *testing.T) {
	r := supply.Reserve{Budget: 2, Period: 5}
	long := []api.Task{{Cost: 2, Period: 40, Deadline: 20}, {Cost: 30, Period: 60, Deadline: 35}, {Cost: 1, Period: 50, Deadline: 50}}
	end := []api.Task{{Cost: 1, Period: 4, Deadline: 4}, {Cost: 262143, Period: Most, Deadline: Most}}
	for _, c := range []struct {
		l        []api.Task
		sections []int
		r        supply.Reserve
		times    []int
		first    int
	}{
		{nil, nil, r, nil, -1}, {[]api.Task{}, []int{}, supply.Reserve{Budget: 1, Period: api.MaxPeriod}, nil, -1}, {trio[:1], nil, r, []int{10}, -1}, {trio[:1], []int{1}, r, []int{10}, -1},
		{trio, nil, r, []int{10, 15, 25}, -1}, {trio, []int{0, 0, 2}, r, []int{15, 20, 25}, -1}, {trio, []int{0, 2}, r, []int{15, 15, 25}, -1}, {trio, []int{0, 1}, r, []int{10, 15, 25}, -1}, {trio, []int{1}, r, []int{10, 15, 25}, -1}, {trio, []int{1, 2, 4}, r, nil, 0}, {trio, []int{1, 2, 3}, r, []int{15, 25, 25}, -1}, {trio, []int{0, 0, 3}, r, []int{15, 25, 25}, -1},
		{trio, nil, supply.Reserve{Budget: 1, Period: 10}, nil, 0}, {trio, nil, supply.Reserve{Budget: 1, Period: 5}, []int{10, 25}, 2}, {trio, []int{0, 0, 1}, supply.Reserve{Budget: 1, Period: 5}, []int{15, 30}, 2}, {trio, []int{0, 0, 2}, supply.Reserve{Budget: 1, Period: 5}, nil, 0},
		{long, nil, r, []int{10}, 1}, {long, nil, supply.Reserve{Budget: 1, Period: 1}, []int{3, 33, 34}, -1}, {long, []int{0, 0, 1}, supply.Reserve{Budget: 1, Period: 1}, []int{4, 34, 34}, -1}, {long, []int{0, 19}, supply.Reserve{Budget: 1, Period: 1}, nil, 0}, {long, []int{0, 17}, supply.Reserve{Budget: 1, Period: 1}, []int{20, 33, 34}, -1}, {long, nil, supply.Reserve{Budget: 9, Period: 10}, []int{20}, 1},
		{end, nil, supply.Reserve{Budget: 1, Period: 2}, []int{4, Most}, -1}, {[]api.Task{end[0], {Cost: 262144, Period: Most, Deadline: Most}}, nil, supply.Reserve{Budget: 1, Period: 2}, []int{4}, 1}, {end, []int{0, 1}, supply.Reserve{Budget: 1, Period: 2}, nil, 0}, {[]api.Task{end[0], {Cost: 262143, Period: Most, Deadline: Most - 1}}, nil, supply.Reserve{Budget: 1, Period: 2}, []int{4}, 1},
		{alike(api.Task{Cost: 1, Period: 50, Deadline: 10}, api.MaxTasks), nil, supply.Reserve{Budget: 1, Period: 1}, []int{2, 3, 4, 5, 6, 7, 8, 9}, -1}, {alike(api.Task{Cost: 1, Period: 50, Deadline: 8}, api.MaxTasks), nil, supply.Reserve{Budget: 1, Period: 1}, []int{2, 3, 4, 5, 6, 7, 8}, 7}, {alike(api.Task{Cost: 1, Period: 50, Deadline: 8}, api.MaxTasks), []int{0, 0, 0, 0, 0, 0, 0, 1}, supply.Reserve{Budget: 1, Period: 1}, []int{3, 4, 5, 6, 7, 8}, 6},
	} {
		holdAll(t, c.l, c.sections, c.r, c.times, c.first)
	}
}

// P6.2: a set, sections or a reservation that may not be.
func TestAllWrong(t *testing.T) {
	refused := func(l []api.Task, sections []int, r supply.Reserve) {
		if times, first, e := All(l, sections, r); len(times) != 0 || first != 0 || e != api.ErrArg {
			t.Errorf("All of %v, %v on %v: %v, %d, %d", l, sections, r, times, first, e)
		}
	}
	for _, r := range reserves() {
		for _, l := range wrongSets() {
			refused(l, nil, r)
			refused(l, make([]int, len(l)), r)
		}
		for _, sections := range wrongSections {
			refused(trio, sections, r)
		}
		refused(nil, []int{0}, r)
		refused([]api.Task{}, []int{0, 0}, r)
		refused(alike(trio[0], api.MaxTasks), make([]int, api.MaxTasks+1), r)
	}
	for _, r := range wrongReserves {
		for _, l := range ordinarySets() {
			refused(l, nil, r)
			refused(l, make([]int, len(l)), r)
		}
	}
}

// rankedLists tells lists of tasks, also of such as may not be, of alike ones, and of more than a set has.
func rankedLists() [][]api.Task {
	alikes := []api.Task{{Cost: 1, Period: 8, Deadline: 6}, {Cost: 2, Period: 5, Deadline: 5}, {Cost: 3, Period: 8, Deadline: 5}, {Cost: 4, Period: 5, Deadline: 6}, {Cost: 5, Period: 8, Deadline: 6}}
	return slices.Concat(ordinarySets(), wrongSets(), [][]api.Task{alikes, wrongTasks, jobs, slices.Repeat(alikes, 30)})
}

// wantRanked takes the least one out, of alike ones the first, till none is left.
func wantRanked(l []api.Task, key func(t api.Task) int) []api.Task {
	left, ranked := slices.Clone(l), []api.Task{}
	for len(left) > 0 {
		least := 0
		for i, t := range left {
			if key(t) < key(left[least]) {
				least = i
			}
		}
		ranked, left = append(ranked, left[least]), slices.Delete(left, least, least+1)
	}
	return ranked
}

// P6.3.
func TestRanked(t *testing.T) {
	for _, l := range rankedLists() {
		if got, want := Ranked(l, false), wantRanked(l, func(t api.Task) int { return t.Period }); !slices.Equal(got, want) {
			t.Errorf("Ranked by period of %v: %v", l, got)
		}
		if got, want := Ranked(l, true), wantRanked(l, func(t api.Task) int { return t.Deadline }); !slices.Equal(got, want) {
			t.Errorf("Ranked by deadline of %v: %v", l, got)
		}
	}
}

// P6.3: edges, by hand: the same Period, the same Deadline, one, and none.
func TestRankedEdges(t *testing.T) {
	a, b, c := api.Task{Cost: 1, Period: 9, Deadline: 4}, api.Task{Cost: 2, Period: 9, Deadline: 3}, api.Task{Cost: 2, Period: 7, Deadline: 4}
	for _, x := range []struct {
		l, byPeriod, byDeadline []api.Task
	}{
		{nil, nil, nil}, {[]api.Task{}, nil, nil}, {[]api.Task{a}, []api.Task{a}, []api.Task{a}},
		{[]api.Task{a, b}, []api.Task{a, b}, []api.Task{b, a}}, {[]api.Task{b, a}, []api.Task{b, a}, []api.Task{b, a}}, {[]api.Task{a, c}, []api.Task{c, a}, []api.Task{a, c}}, {[]api.Task{c, a}, []api.Task{c, a}, []api.Task{c, a}},
		{[]api.Task{a, b, c}, []api.Task{c, a, b}, []api.Task{b, a, c}}, {[]api.Task{c, b, a}, []api.Task{c, b, a}, []api.Task{b, c, a}}, {[]api.Task{b, a, c, a}, []api.Task{c, b, a, a}, []api.Task{b, a, c, a}},
	} {
		if got := Ranked(x.l, false); !slices.Equal(got, x.byPeriod) {
			t.Errorf("Ranked by period of %v: %v", x.l, got)
		}
		if got := Ranked(x.l, true); !slices.Equal(got, x.byDeadline) {
			t.Errorf("Ranked by deadline of %v: %v", x.l, got)
		}
	}
}

// P6.4: each job's Time, the budgets of one period gone up from 1.
func TestMoreBudget(t *testing.T) {
	for _, q := range questions() {
		for _, period := range []int{1, 2, 7, 12} {
			was, wasE := 0, api.ErrOver
			for budget := 1; budget <= period; budget++ {
				got, e := Time(q.ahead, q.t, q.held, supply.Reserve{Budget: budget, Period: period}, far)
				if wasE == api.OK && (e != api.OK || got > was) {
					t.Errorf("Time of %v on %d of %d: %d, %d, with less %d", q, budget, period, got, e, was)
				}
				was, wasE = got, e
			}
		}
	}
}

// P6.4: all tasks of a set, likewise: none that was done in time isn't any more, or takes longer.
func TestMoreBudgetAll(t *testing.T) {
	for _, l := range ordinarySets() {
		for _, sections := range sectionsFor(l) {
			for period := 1; period <= 20; period++ {
				var was []int
				for budget := 1; budget <= period; budget++ {
					got, first, e := All(l, sections, supply.Reserve{Budget: budget, Period: period})
					longer := len(got) < len(was)
					for i := range min(len(got), len(was)) {
						longer = longer || got[i] > was[i]
					}
					if longer || e != api.OK || (first < 0) != (len(got) == len(l)) {
						t.Errorf("All of %v, %v on %d of %d: %v, %d, %d, with less %v", l, sections, budget, period, got, first, e, was)
					}
					was = got
				}
			}
		}
	}
}

// P6.4, by hand: a budget of 1, some between, and the whole period.
func TestMoreBudgetEdges(t *testing.T) {
	for _, c := range []struct {
		budget int
		times  []int
		first  int
	}{
		{1, []int{10, 25}, 2}, {2, []int{10, 15, 25}, -1}, {3, []int{10, 10, 20}, -1}, {4, []int{10, 10, 15}, -1}, {5, []int{10, 10, 15}, -1},
	} {
		holdAll(t, trio, nil, supply.Reserve{Budget: c.budget, Period: 5}, c.times, c.first)
	}
}

// withRoom tells a copy of a list with spare room behind it, and all of that room as it is.
func withRoom[T any](l []T, spare T) (copied, room []T) {
	room = append(append([]T{}, l...), spare, spare, spare)
	return room[:len(l)], room
}

// Rule 'Memory': what is handed in stays as it is, its spare room included, and what is answered is new.
func TestMemory(t *testing.T) {
	lists := slices.Concat(wrongSections, [][]int{nil, {}, {0, 0, 2}, {1, 2, 4}, {5, 1, 3}})
	for _, l := range rankedLists() {
		for _, list := range lists {
			tasks, tasksRoom := withRoom(l, api.Task{Cost: 7, Period: 77, Deadline: 70})
			sections, sectionsRoom := withRoom(list, 5)
			tasksWas, sectionsWas := slices.Clone(tasksRoom), slices.Clone(sectionsRoom)
			Time(tasks, trio[1], 2, supply.Reserve{Budget: 2, Period: 5}, far)
			Held(sections, 0)
			times, _, _ := All(tasks, sections, supply.Reserve{Budget: 2, Period: 5})
			clear(times)
			clear(Ranked(tasks, false))
			clear(Ranked(tasks, true))
			if !slices.Equal(tasksRoom, tasksWas) || !slices.Equal(sectionsRoom, sectionsWas) {
				t.Errorf("%v, %v: %v, %v", l, list, tasksRoom, sectionsRoom)
			}
		}
	}
}
