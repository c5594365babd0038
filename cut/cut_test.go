package cut

import (
	"math"
	"math/bits"
	"math/rand"
	"slices"
	"testing"

	"beaconry/api"
	"beaconry/run"
)

func local(proc int) api.Event     { return api.Event{Proc: proc, Kind: api.ELocal} }
func send(proc, msg int) api.Event { return api.Event{Proc: proc, Kind: api.ESend, Msg: msg} }
func take(proc, msg int) api.Event { return api.Event{Proc: proc, Kind: api.ETake, Msg: msg} }

// example is the execution of the chapter's example.
func example() []api.Event { return []api.Event{send(0, 0), take(1, 0)} }

// repeat returns count local events of each of the processes 0 to n-1.
func repeat(n, count int) []api.Event {
	var l []api.Event
	for proc := range n {
		l = append(l, slices.Repeat([]api.Event{local(proc)}, count)...)
	}
	return l
}

// TestExecutionErrors: all functions have the errors of run.Check, and they
// come before the errors of their own.
func TestExecutionErrors(t *testing.T) {
	for _, c := range []struct {
		name string
		n    int
		l    []api.Event
		want api.Errno
	}{
		{"no process", 0, nil, api.ErrLarge},
		{"least n", math.MinInt, nil, api.ErrLarge},
		{"one process too many", api.MaxProc + 1, nil, api.ErrLarge},
		{"greatest n", math.MaxInt, example(), api.ErrLarge},
		{"one event too many", 1, repeat(1, api.MaxEvents+1), api.ErrLarge},
		{"ErrLarge before ErrArg", 0, []api.Event{local(-1)}, api.ErrLarge},
		{"process below 0", 2, []api.Event{local(-1)}, api.ErrArg},
		{"process n", 2, []api.Event{local(0), local(2)}, api.ErrArg},
		{"ErrArg before ErrKind", 1, []api.Event{{Proc: 1}}, api.ErrArg},
		{"kind 0", 1, []api.Event{{}}, api.ErrKind},
		{"kind 4", 1, []api.Event{local(0), {Kind: api.ETake + 1}}, api.ErrKind},
		{"message below 0", 1, []api.Event{send(0, -1)}, api.ErrRange},
		{"message too great", 1, []api.Event{send(0, api.MaxMsg+1)}, api.ErrRange},
		{"received message too great", 1, []api.Event{take(0, api.MaxMsg+1)}, api.ErrRange},
		{"sent twice", 2, []api.Event{send(0, 3), send(1, 3)}, api.ErrForm},
		{"never sent", 1, []api.Event{take(0, 3)}, api.ErrForm},
		{"received twice", 3, []api.Event{send(0, 3), take(1, 3), take(2, 3)}, api.ErrForm},
		{"the first invalid event counts", 1, []api.Event{take(0, 0), local(1)}, api.ErrForm},
	} {
		// A right number of numbers, too many of them, and numbers that are
		// out of range: none of this matters for an invalid execution.
		for _, cut := range [][]int{nil, {0}, {-1}, {0, 0}, {0, 0, 0}, {99, 99}, make([]int, 7)} {
			if is, code := Is(c.n, c.l, cut); is || code != c.want {
				t.Errorf("Is: %s, %v: %v, %d, want %d", c.name, cut, is, code, c.want)
			}
			if got, code := Way(c.n, c.l, cut); len(got) != 0 || code != c.want {
				t.Errorf("Way: %s, %v: %v, %d, want %d", c.name, cut, got, code, c.want)
			}
		}
		if got, code := Many(c.n, c.l); got != 0 || code != c.want {
			t.Errorf("Many: %s: %d, %d, want %d", c.name, got, code, c.want)
		}
		for _, i := range []int{-1, 0, len(c.l)} {
			if got, code := Least(c.n, c.l, i); len(got) != 0 || code != c.want {
				t.Errorf("Least: %s, event %d: %v, %d, want %d", c.name, i, got, code, c.want)
			}
		}
	}
}

// TestCutErrors: Is and Way have the same errors of the numbers of a cut.
func TestCutErrors(t *testing.T) {
	for _, c := range []struct {
		name string
		n    int
		l    []api.Event
		cut  []int
		want api.Errno
	}{
		{"no numbers", 2, example(), nil, api.ErrForm},
		{"an empty list", 1, nil, []int{}, api.ErrForm},
		{"a number too few", 2, example(), []int{1}, api.ErrForm},
		{"a number too many", 2, example(), []int{1, 1, 0}, api.ErrForm},
		{"MaxProc numbers for fewer processes", 2, example(), make([]int, api.MaxProc), api.ErrForm},
		{"more than MaxProc numbers", api.MaxProc, nil, make([]int, api.MaxProc+1), api.ErrForm},
		{"ErrForm before ErrRange, below 0", 2, example(), []int{-1}, api.ErrForm},
		{"ErrForm before ErrRange, too great", 2, example(), []int{2, 2, 2}, api.ErrForm},
		{"ErrForm before ErrNone", 2, example(), []int{0, 1, 0}, api.ErrForm},
		{"first number below 0", 2, example(), []int{-1, 0}, api.ErrRange},
		{"last number below 0", 2, example(), []int{0, -1}, api.ErrRange},
		{"least number", 1, nil, []int{math.MinInt}, api.ErrRange},
		{"first number too great", 2, example(), []int{2, 0}, api.ErrRange},
		{"last number too great", 2, example(), []int{0, 2}, api.ErrRange},
		{"greatest number", 2, example(), []int{math.MaxInt, 0}, api.ErrRange},
		{"of a process without events", 3, example(), []int{1, 1, 1}, api.ErrRange},
		{"of an execution without events", 1, nil, []int{1}, api.ErrRange},
		{"as many as another process has", 2, repeat(1, 3), []int{0, 3}, api.ErrRange},
		{"ErrRange before ErrNone", 3, example(), []int{0, 1, -1}, api.ErrRange},
	} {
		if is, code := Is(c.n, c.l, c.cut); is || code != c.want {
			t.Errorf("Is: %s: %v, %d, want %d", c.name, is, code, c.want)
		}
		if got, code := Way(c.n, c.l, c.cut); len(got) != 0 || code != c.want {
			t.Errorf("Way: %s: %v, %d, want %d", c.name, got, code, c.want)
		}
	}
}

// TestCuts: a cut is consistent, and then Way returns messages, or it is not,
// and then Way has ErrNone.
func TestCuts(t *testing.T) {
	there := []api.Event{send(0, 7), local(0), send(0, 3), take(1, 3), local(1), take(1, 7)}
	chain := []api.Event{local(0), send(0, 20), take(1, 20), send(1, 0), take(2, 0)}
	for _, c := range []struct {
		name string
		n    int
		l    []api.Event
		cut  []int
		is   bool
		way  []int
	}{
		{"nothing", 1, nil, []int{0}, true, nil},
		{"no events of MaxProc processes", api.MaxProc, []api.Event{}, make([]int, api.MaxProc), true, nil},
		{"the example, empty", 2, example(), []int{0, 0}, true, nil},
		{"the example, sent", 2, example(), []int{1, 0}, true, []int{0}},
		{"the example, received", 2, example(), []int{1, 1}, true, nil},
		{"the example, not sent", 2, example(), []int{0, 1}, false, nil},
		{"concurrent events", 2, repeat(2, 2), []int{0, 2}, true, nil},
		{"both on the way, by number", 2, there, []int{3, 0}, true, []int{3, 7}},
		{"the second one is received", 2, there, []int{3, 2}, true, []int{7}},
		{"both are received", 2, there, []int{3, 3}, true, nil},
		{"the first one is sent alone", 2, there, []int{2, 0}, true, []int{7}},
		{"the receipt of a later send", 2, there, []int{2, 1}, false, nil},
		{"an event behind a receipt", 2, there, []int{2, 2}, false, nil},
		{"through a third process", 3, chain, []int{2, 2, 1}, true, nil},
		{"the sender is missing", 3, chain, []int{1, 0, 1}, false, nil},
		{"a sender's own receipt is missing", 3, chain, []int{0, 2, 0}, false, nil},
		{"the greatest message", 3, chain, []int{2, 0, 0}, true, []int{20}},
		{"a message is sent on", 3, chain, []int{2, 2, 0}, true, []int{0}},
		{"a message to oneself", 1, []api.Event{send(0, 5), take(0, 5)}, []int{1}, true, []int{5}},
		{"a message to oneself, received", 1, []api.Event{send(0, 5), take(0, 5)}, []int{2}, true, nil},
		{"never received", 2, []api.Event{send(1, 4)}, []int{0, 1}, true, []int{4}},
		{"the message of a local event is ignored", 2,
			[]api.Event{send(0, 3), {Proc: 1, Kind: api.ELocal, Msg: 3}, {Proc: 1, Kind: api.ELocal, Msg: -9}},
			[]int{1, 2}, true, []int{3}},
	} {
		if is, code := Is(c.n, c.l, c.cut); is != c.is || code != api.OK {
			t.Errorf("Is: %s: %v, %d, want %v", c.name, is, code, c.is)
		}
		want := api.OK
		if !c.is {
			want = api.ErrNone
		}
		if got, code := Way(c.n, c.l, c.cut); !slices.Equal(got, c.way) || code != want {
			t.Errorf("Way: %s: %v, %d, want %v, %d", c.name, got, code, c.way, want)
		}
	}
}

func TestMany(t *testing.T) {
	for _, c := range []struct {
		name string
		n    int
		l    []api.Event
		want int64
	}{
		{"nothing", 1, nil, 1},
		{"no events of MaxProc processes", api.MaxProc, []api.Event{}, 1},
		{"the example", 2, example(), 3},
		{"one process", 1, repeat(1, api.MaxEvents), api.MaxEvents + 1},
		{"processes without events", api.MaxProc, []api.Event{local(5)}, 2},
		{"a square", 2, repeat(2, 3), 16},
		{"the most there can be", api.MaxProc, repeat(api.MaxProc, 5), 46656},
		{"a message not received", 2, []api.Event{send(0, 0), local(1)}, 4},
		{"a message to oneself", 1, []api.Event{send(0, 0), take(0, 0)}, 3},
		{"through a third process", 3, []api.Event{send(0, 1), take(1, 1), send(1, 0), take(2, 0)}, 5},
		{"crossing messages", 2, []api.Event{send(0, 0), send(1, 1), take(0, 1), take(1, 0)}, 7},
	} {
		if got, code := Many(c.n, c.l); got != c.want || code != api.OK {
			t.Errorf("%s: %d, %d, want %d", c.name, got, code, c.want)
		}
	}
}

func TestLeast(t *testing.T) {
	chain := []api.Event{local(2), send(0, 1), local(0), take(1, 1), local(1), send(1, 0), take(2, 0)}
	for _, c := range []struct {
		name string
		n    int
		l    []api.Event
		i    int
		want []int
	}{
		{"the example, sent", 2, example(), 0, []int{1, 0}},
		{"the example, received", 2, example(), 1, []int{1, 1}},
		{"processes without events", api.MaxProc, []api.Event{local(5)}, 0, []int{0, 0, 0, 0, 0, 1}},
		{"last of one process", 1, repeat(1, api.MaxEvents), api.MaxEvents - 1, []int{api.MaxEvents}},
		{"first in the list", 3, chain, 0, []int{0, 0, 1}},
		{"not behind the send", 3, chain, 3, []int{1, 1, 0}},
		{"through a third process", 3, chain, 6, []int{1, 3, 2}},
	} {
		if got, code := Least(c.n, c.l, c.i); !slices.Equal(got, c.want) || code != api.OK {
			t.Errorf("%s: %v, %d, want %v", c.name, got, code, c.want)
		}
	}
	for _, i := range []int{-1, 2, math.MinInt, math.MaxInt} {
		if got, code := Least(2, example(), i); len(got) != 0 || code != api.ErrRange {
			t.Errorf("event %d: %v, %d", i, got, code)
		}
	}
	if got, code := Least(1, nil, 0); len(got) != 0 || code != api.ErrRange {
		t.Errorf("no events: %v, %d", got, code)
	}
}

// TestArgumentsStay: the arguments are not modified, what lies beyond their
// length is neither read nor written, and results are new memory.
func TestArgumentsStay(t *testing.T) {
	events := func() []api.Event { return append(example(), send(0, 1), take(1, 0), local(99)) }
	l, c := events(), []int{2, 0, 99}
	for range 2 {
		if is, code := Is(2, l[:3], c[:2]); !is || code != api.OK {
			t.Error("Is:", is, code)
		}
		way, code := Way(2, l[:3], c[:2])
		if !slices.Equal(way, []int{0, 1}) || code != api.OK {
			t.Error("Way:", way, code)
		}
		if many, code := Many(2, l[:3]); many != 5 || code != api.OK {
			t.Error("Many:", many, code)
		}
		least, code := Least(2, l[:3], 1)
		if !slices.Equal(least, []int{1, 1}) || code != api.OK {
			t.Error("Least:", least, code)
		}
		for _, result := range [][]int{way, least} {
			for i := range result {
				result[i] = -1
			}
		}
	}
	if !slices.Equal(l, events()) || !slices.Equal(c, []int{2, 0, 99}) {
		t.Error("arguments were modified:", l, c)
	}
}

// pastsOf returns, for each event, the set of the events that happen before
// it, as package run tells it.
func pastsOf(t *testing.T, n int, l []api.Event) []uint64 {
	t.Helper()
	result := make([]uint64, len(l))
	for j := range l {
		for i := range l {
			is, code := run.Ahead(n, l, i, j)
			if code != api.OK {
				t.Fatalf("%v: Ahead %d %d: %d", l, i, j, code)
			}
			if is {
				result[j] |= 1 << i
			}
		}
	}
	return result
}

// cutsOf returns the numbers of all cuts, consistent or not.
func cutsOf(n int, l []api.Event) [][]int {
	limit := make([]int, n)
	for _, e := range l {
		limit[e.Proc]++
	}
	result := [][]int{make([]int, n)}
	for proc := range n {
		for _, c := range slices.Clone(result) {
			for count := 1; count <= limit[proc]; count++ {
				more := slices.Clone(c)
				more[proc] = count
				result = append(result, more)
			}
		}
	}
	return result
}

// setOf returns the set of the events of a cut.
func setOf(l []api.Event, c []int) uint64 {
	set := uint64(0)
	left := slices.Clone(c)
	for i, e := range l {
		if left[e.Proc] > 0 {
			left[e.Proc]--
			set |= 1 << i
		}
	}
	return set
}

// closed reports whether a set contains with each event all events that happen
// before it.
func closed(set uint64, pasts []uint64) bool {
	for i, past := range pasts {
		if set>>i&1 == 1 && past&^set != 0 {
			return false
		}
	}
	return true
}

// wayOf returns the messages that are sent, but not received, by the events of
// a set.
func wayOf(l []api.Event, set uint64) []int {
	var result []int
	for msg := range api.MaxMsg + 1 {
		sent, taken := false, false
		for i, e := range l {
			if set>>i&1 == 1 && e.Msg == msg {
				sent = sent || e.Kind == api.ESend
				taken = taken || e.Kind == api.ETake
			}
		}
		if sent && !taken {
			result = append(result, msg)
		}
	}
	return result
}

// compare holds all functions against their definitions. Of many cuts, it
// asks Is and Way for every step-th one.
func compare(t *testing.T, n int, l []api.Event, step int) {
	t.Helper()
	pasts := pastsOf(t, n, l)
	many := int64(0)
	least := make([][]int, len(l))
	fewest := slices.Repeat([]int{len(l) + 1}, len(l))
	for k, c := range cutsOf(n, l) {
		set := setOf(l, c)
		good := closed(set, pasts)
		if k%step == 0 {
			compareCut(t, n, l, c, set, good)
		}
		if !good {
			continue
		}
		many++
		for i := range l {
			if size := bits.OnesCount64(set); set>>i&1 == 1 && size < fewest[i] {
				least[i], fewest[i] = c, size
			}
		}
	}
	if got, code := Many(n, l); got != many || code != api.OK {
		t.Fatalf("%v: Many: %d, %d, want %d", l, got, code, many)
	}
	for i := range l {
		if got, code := Least(n, l, i); !slices.Equal(got, least[i]) || code != api.OK {
			t.Fatalf("%v: Least %d: %v, %d, want %v", l, i, got, code, least[i])
		}
	}
}

// compareCut holds Is and Way against what is known of one cut.
func compareCut(t *testing.T, n int, l []api.Event, c []int, set uint64, good bool) {
	t.Helper()
	if is, code := Is(n, l, c); is != good || code != api.OK {
		t.Fatalf("%v: Is %v: %v, %d, want %v", l, c, is, code, good)
	}
	got, code := Way(n, l, c)
	if !good {
		if len(got) != 0 || code != api.ErrNone {
			t.Fatalf("%v: Way %v: %v, %d", l, c, got, code)
		}
		return
	}
	if want := wayOf(l, set); !slices.Equal(got, want) || code != api.OK {
		t.Fatalf("%v: Way %v: %v, %d, want %v", l, c, got, code, want)
	}
}

// TestSmallExecutions compares all executions of two processes and two
// messages of at most five events.
func TestSmallExecutions(t *testing.T) {
	var choices []api.Event
	for proc := range 2 {
		choices = append(choices, local(proc))
		for msg := range 2 {
			choices = append(choices, send(proc, msg), take(proc, msg))
		}
	}
	tested := 0
	var extend func([]api.Event)
	extend = func(l []api.Event) {
		compare(t, 2, l, 1)
		tested++
		for _, e := range choices {
			next := append(slices.Clone(l), e)
			if len(next) <= 5 && run.Check(2, next) == api.OK {
				extend(next)
			}
		}
	}
	extend(nil)
	if tested < 1000 {
		t.Errorf("only %d executions", tested)
	}
}

// scatter returns an execution of the given number of events of n processes.
func scatter(r *rand.Rand, n, events int) []api.Event {
	var l []api.Event
	var inTransit []int
	next := 0
	for len(l) < events {
		proc := r.Intn(n)
		switch kind := r.Intn(5); {
		case kind < 2 && next <= api.MaxMsg:
			l = append(l, send(proc, next))
			inTransit = append(inTransit, next)
			next++
		case kind < 4 && len(inTransit) > 0:
			k := r.Intn(len(inTransit))
			l = append(l, take(proc, inTransit[k]))
			inTransit = slices.Delete(inTransit, k, k+1)
		default:
			l = append(l, local(proc))
		}
	}
	return l
}

func TestLargeExecutions(t *testing.T) {
	r := rand.New(rand.NewSource(4))
	for range 30 {
		n := 1 + r.Intn(api.MaxProc)
		compare(t, n, scatter(r, n, api.MaxEvents), 97)
		compare(t, api.MaxProc, scatter(r, api.MaxProc, api.MaxEvents), 97)
	}
}
