package tick

import (
	"math"
	"math/rand"
	"slices"
	"testing"

	"beaconry/api"
	"beaconry/run"
)

func local(proc int) api.Event     { return api.Event{Proc: proc, Kind: api.ELocal} }
func send(proc, msg int) api.Event { return api.Event{Proc: proc, Kind: api.ESend, Msg: msg} }
func take(proc, msg int) api.Event { return api.Event{Proc: proc, Kind: api.ETake, Msg: msg} }

// example is the execution of the chapter's example.
func example() []api.Event { return []api.Event{send(0, 0), local(1), take(1, 0)} }

// repeat returns count local events of process 0.
func repeat(count int) []api.Event { return slices.Repeat([]api.Event{local(0)}, count) }

// count returns the numbers from first to last.
func count(first, last int) []int {
	var result []int
	for i := first; i <= last; i++ {
		result = append(result, i)
	}
	return result
}

// functions lists the functions of the package by name.
var functions = []struct {
	name string
	call func(int, []api.Event) ([]int, api.Errno)
}{
	{"Ticks", Ticks}, {"Order", Order}, {"Longest", Longest},
}

// TestErrors: each function has the errors of run.Check, with an empty list.
func TestErrors(t *testing.T) {
	for _, c := range []struct {
		name string
		n    int
		l    []api.Event
		want api.Errno
	}{
		{"no process", 0, nil, api.ErrLarge},
		{"least n", math.MinInt, nil, api.ErrLarge},
		{"one process too many", api.MaxProc + 1, nil, api.ErrLarge},
		{"greatest n", math.MaxInt, example(), api.ErrLarge},
		{"one event too many", 1, repeat(api.MaxEvents + 1), api.ErrLarge},
		{"ErrLarge before ErrArg", 0, []api.Event{local(-1)}, api.ErrLarge},
		{"process below 0", 2, []api.Event{local(-1)}, api.ErrArg},
		{"process n", 2, []api.Event{local(0), local(2)}, api.ErrArg},
		{"ErrArg before ErrKind", 1, []api.Event{{Proc: 1}}, api.ErrArg},
		{"kind 0", 1, []api.Event{{}}, api.ErrKind},
		{"kind 4", 1, []api.Event{local(0), {Kind: api.ETake + 1}}, api.ErrKind},
		{"message below 0", 1, []api.Event{send(0, -1)}, api.ErrRange},
		{"message too great", 1, []api.Event{send(0, api.MaxMsg+1)}, api.ErrRange},
		{"received message too great", 1, []api.Event{take(0, api.MaxMsg+1)}, api.ErrRange},
		{"sent twice", 2, []api.Event{send(0, 3), send(1, 3)}, api.ErrForm},
		{"never sent", 1, []api.Event{take(0, 3)}, api.ErrForm},
		{"sent later", 2, []api.Event{take(1, 3), send(0, 3)}, api.ErrForm},
		{"received twice", 3, []api.Event{send(0, 3), take(1, 3), take(2, 3)}, api.ErrForm},
		{"the first invalid event counts", 1, []api.Event{take(0, 0), local(1)}, api.ErrForm},
	} {
		for _, f := range functions {
			if got, code := f.call(c.n, c.l); len(got) != 0 || code != c.want {
				t.Errorf("%s: %s: %v, %d, want %d", f.name, c.name, got, code, c.want)
			}
		}
	}
}

// ladder is an execution in which each process sends to the next one, and
// process 0 has further events that lead nowhere.
func ladder() []api.Event {
	return []api.Event{
		send(0, 0), local(0), take(1, 0), send(1, 1), local(0), take(2, 1), local(0), send(2, 2),
	}
}

func TestLists(t *testing.T) {
	overtaken := []api.Event{send(1, 0), send(1, 1), take(0, 1), take(0, 0)}
	fork := []api.Event{send(0, 0), send(1, 1), take(2, 1), take(2, 0)}
	crossed := []api.Event{send(0, 0), send(1, 1), take(3, 1), take(2, 0)}
	for _, c := range []struct {
		name                  string
		n                     int
		l                     []api.Event
		ticks, order, longest []int
	}{
		{"nothing", 1, nil, nil, nil, nil},
		{"an empty list", api.MaxProc, []api.Event{}, nil, nil, nil},
		{"one event", 1, []api.Event{local(0)}, []int{1}, []int{0}, []int{0}},
		{"the example", 2, example(), []int{1, 1, 2}, []int{0, 1, 2}, []int{0, 2}},
		{"one process", 1, repeat(api.MaxEvents), count(1, 30), count(0, 29), count(0, 29)},
		{"equal timestamps", 3, []api.Event{local(2), local(1), local(0)},
			[]int{1, 1, 1}, []int{2, 1, 0}, []int{0}},
		{"timestamps before processes", 3, []api.Event{local(0), local(0), local(2), local(1)},
			[]int{1, 2, 1, 1}, []int{0, 3, 2, 1}, []int{0, 1}},
		{"a message not received", 2, []api.Event{send(0, 0), local(1)},
			[]int{1, 1}, []int{0, 1}, []int{0}},
		{"a message to oneself", 1, []api.Event{send(0, 0), take(0, 0)},
			[]int{1, 2}, []int{0, 1}, []int{0, 1}},
		{"a message to oneself, later", 1, []api.Event{send(0, 0), local(0), take(0, 0)},
			[]int{1, 2, 3}, []int{0, 1, 2}, []int{0, 1, 2}},
		{"a message raises the clock", 2, []api.Event{local(0), local(0), send(0, 5), local(1), take(1, 5), local(1)},
			[]int{1, 2, 3, 1, 4, 5}, []int{0, 3, 1, 2, 4, 5}, []int{0, 1, 2, 4, 5}},
		{"a message does not lower the clock", 2, []api.Event{send(0, 5), local(1), local(1), take(1, 5)},
			[]int{1, 1, 2, 3}, []int{0, 1, 2, 3}, []int{1, 2, 3}},
		{"overtaken", 2, overtaken, []int{1, 2, 3, 4}, []int{0, 1, 2, 3}, []int{0, 1, 2, 3}},
		{"two messages to one process", 3, fork, []int{1, 1, 2, 3}, []int{0, 1, 2, 3}, []int{1, 2, 3}},
		{"the first number decides before the second", 4, crossed, []int{1, 1, 2, 2}, []int{0, 1, 3, 2}, []int{0, 3}},
		{"a small start that leads nowhere", 2, []api.Event{local(0), local(1), local(1)},
			[]int{1, 1, 2}, []int{0, 1, 2}, []int{1, 2}},
		{"a ladder", 3, ladder(), []int{1, 2, 2, 3, 3, 4, 4, 5}, []int{0, 1, 2, 4, 3, 6, 5, 7}, []int{0, 2, 3, 5, 7}},
		{"numbers of local events", 2, []api.Event{send(0, 3), {Proc: 1, Kind: api.ELocal, Msg: 3}, take(1, 3)},
			[]int{1, 1, 2}, []int{0, 1, 2}, []int{0, 2}},
		{"receipt first, then the next of the process", 2, []api.Event{send(0, 0), take(1, 0), local(0)},
			[]int{1, 2, 2}, []int{0, 2, 1}, []int{0, 1}},
		{"the next of the process first, then the receipt", 2, []api.Event{send(0, 0), local(0), take(1, 0)},
			[]int{1, 2, 2}, []int{0, 1, 2}, []int{0, 1}},
	} {
		for k, want := range [][]int{c.ticks, c.order, c.longest} {
			f := functions[k]
			if got, code := f.call(c.n, c.l); !slices.Equal(got, want) || code != api.OK {
				t.Errorf("%s: %s: %v, %d, want %v", f.name, c.name, got, code, want)
			}
		}
	}
}

// TestArgumentsStay: the events are not modified, what lies beyond their
// length is neither read nor written, and two results share no memory.
func TestArgumentsStay(t *testing.T) {
	whole := append(example(), take(1, 0), local(99))
	for _, f := range functions {
		first, code := f.call(2, whole[:3])
		if code != api.OK {
			t.Errorf("%s: %d", f.name, code)
		}
		kept := slices.Clone(first)
		second, _ := f.call(2, whole[:3])
		for i := range second {
			second[i] = -1
		}
		if !slices.Equal(first, kept) {
			t.Errorf("%s: results share memory", f.name)
		}
	}
	if !slices.Equal(whole, append(example(), take(1, 0), local(99))) {
		t.Error("events were modified:", whole)
	}
}

// relation returns the happens-before relation, as package run tells it.
func relation(t *testing.T, n int, l []api.Event) [][]bool {
	t.Helper()
	before := make([][]bool, len(l))
	for i := range l {
		before[i] = make([]bool, len(l))
		for j := range l {
			is, code := run.Ahead(n, l, i, j)
			if code != api.OK {
				t.Fatalf("%v: Ahead %d %d: %d", l, i, j, code)
			}
			before[i][j] = is
		}
	}
	return before
}

// stampsOf returns the timestamps by their definition.
func stampsOf(before [][]bool) []int {
	result := make([]int, len(before))
	for j := range before {
		result[j] = 1
		for i := range j {
			if before[i][j] {
				result[j] = max(result[j], result[i]+1)
			}
		}
	}
	return result
}

// orderOf repeatedly takes the event with the least timestamp and process.
func orderOf(l []api.Event, stamps []int) []int {
	var result []int
	for range l {
		best := -1
		for i := range l {
			if slices.Contains(result, i) {
				continue
			}
			if best < 0 || stamps[i] < stamps[best] || stamps[i] == stamps[best] && l[i].Proc < l[best].Proc {
				best = i
			}
		}
		result = append(result, best)
	}
	return result
}

// longestOf tries all lists in lexicographical order and keeps the first one
// of the greatest length.
func longestOf(before [][]bool) []int {
	var best []int
	var extend func([]int)
	extend = func(list []int) {
		if len(list) > len(best) {
			best = slices.Clone(list)
		}
		for j := range before {
			if len(list) == 0 || before[list[len(list)-1]][j] {
				extend(append(slices.Clone(list), j))
			}
		}
	}
	extend(nil)
	return best
}

// endings returns the smallest of the longest lists from their ends: of each
// event the best list that begins with it, compared whole.
func endings(before [][]bool) []int {
	var best []int
	lists := make([][]int, len(before))
	for i := len(before) - 1; i >= 0; i-- {
		for j := range before {
			if before[i][j] && better(lists[j], lists[i]) {
				lists[i] = lists[j]
			}
		}
		lists[i] = append([]int{i}, lists[i]...)
		if better(lists[i], best) {
			best = lists[i]
		}
	}
	return best
}

// better reports whether a list is longer than another one, or as long and
// lexicographically smaller.
func better(a, b []int) bool {
	return len(a) > len(b) || len(a) == len(b) && slices.Compare(a, b) < 0
}

// compare holds the three functions against their definitions.
func compare(t *testing.T, n int, l []api.Event, longest func([][]bool) []int) {
	t.Helper()
	before := relation(t, n, l)
	stamps := stampsOf(before)
	wants := [][]int{stamps, orderOf(l, stamps), longest(before)}
	for k, f := range functions {
		if got, code := f.call(n, l); !slices.Equal(got, wants[k]) || code != api.OK {
			t.Fatalf("%v: %s: %v, %d, want %v", l, f.name, got, code, wants[k])
		}
	}
}

// TestSmallExecutions compares all executions of two processes and two
// messages of at most five events.
func TestSmallExecutions(t *testing.T) {
	var choices []api.Event
	for proc := range 2 {
		choices = append(choices, local(proc))
		for msg := range 2 {
			choices = append(choices, send(proc, msg), take(proc, msg))
		}
	}
	tested := 0
	var extend func([]api.Event)
	extend = func(l []api.Event) {
		compare(t, 2, l, longestOf)
		tested++
		for _, e := range choices {
			next := append(slices.Clone(l), e)
			if len(next) <= 5 && run.Check(2, next) == api.OK {
				extend(next)
			}
		}
	}
	extend(nil)
	if tested < 1000 {
		t.Errorf("only %d executions", tested)
	}
}

// scatter returns an execution of the given number of events of n processes.
func scatter(r *rand.Rand, n, events int) []api.Event {
	var l []api.Event
	var inTransit []int
	next := 0
	for len(l) < events {
		proc := r.Intn(n)
		switch kind := r.Intn(5); {
		case kind < 2 && next <= api.MaxMsg:
			l = append(l, send(proc, next))
			inTransit = append(inTransit, next)
			next++
		case kind < 4 && len(inTransit) > 0:
			k := r.Intn(len(inTransit))
			l = append(l, take(proc, inTransit[k]))
			inTransit = slices.Delete(inTransit, k, k+1)
		default:
			l = append(l, local(proc))
		}
	}
	return l
}

func TestLargeExecutions(t *testing.T) {
	r := rand.New(rand.NewSource(2))
	for range 500 {
		n := 1 + r.Intn(api.MaxProc)
		compare(t, n, scatter(r, n, 9), longestOf)
		compare(t, api.MaxProc, scatter(r, api.MaxProc, api.MaxEvents), endings)
	}
}
