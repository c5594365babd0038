package vector

import (
	"math"
	"math/rand"
	"slices"
	"testing"

	"beaconry/api"
	"beaconry/run"
)

func local(proc int) api.Event     { return api.Event{Proc: proc, Kind: api.ELocal} }
func send(proc, msg int) api.Event { return api.Event{Proc: proc, Kind: api.ESend, Msg: msg} }
func take(proc, msg int) api.Event { return api.Event{Proc: proc, Kind: api.ETake, Msg: msg} }

// example is the execution of the chapter's example.
func example() []api.Event { return []api.Event{send(0, 0), local(1), take(1, 0)} }

// repeat returns count local events of process 0.
func repeat(count int) []api.Event { return slices.Repeat([]api.Event{local(0)}, count) }

// same reports whether two lists of vectors are equal.
func same(a, b [][]int) bool { return slices.EqualFunc(a, b, slices.Equal[[]int]) }

// TestVectorsErrors: Vectors has the errors of run.Check, with an empty list.
func TestVectorsErrors(t *testing.T) {
	for _, c := range []struct {
		name string
		n    int
		l    []api.Event
		want api.Errno
	}{
		{"no process", 0, nil, api.ErrLarge},
		{"least n", math.MinInt, nil, api.ErrLarge},
		{"one process too many", api.MaxProc + 1, nil, api.ErrLarge},
		{"greatest n", math.MaxInt, example(), api.ErrLarge},
		{"one event too many", 1, repeat(api.MaxEvents + 1), api.ErrLarge},
		{"ErrLarge before ErrArg", 0, []api.Event{local(-1)}, api.ErrLarge},
		{"process below 0", 2, []api.Event{local(-1)}, api.ErrArg},
		{"process n", 2, []api.Event{local(0), local(2)}, api.ErrArg},
		{"ErrArg before ErrKind", 1, []api.Event{{Proc: 1}}, api.ErrArg},
		{"kind 0", 1, []api.Event{{}}, api.ErrKind},
		{"kind 4", 1, []api.Event{local(0), {Kind: api.ETake + 1}}, api.ErrKind},
		{"message below 0", 1, []api.Event{send(0, -1)}, api.ErrRange},
		{"message too great", 1, []api.Event{send(0, api.MaxMsg+1)}, api.ErrRange},
		{"received message too great", 1, []api.Event{take(0, api.MaxMsg+1)}, api.ErrRange},
		{"sent twice", 2, []api.Event{send(0, 3), send(1, 3)}, api.ErrForm},
		{"never sent", 1, []api.Event{take(0, 3)}, api.ErrForm},
		{"received twice", 3, []api.Event{send(0, 3), take(1, 3), take(2, 3)}, api.ErrForm},
		{"the first invalid event counts", 1, []api.Event{take(0, 0), local(1)}, api.ErrForm},
	} {
		if got, code := Vectors(c.n, c.l); len(got) != 0 || code != c.want {
			t.Errorf("%s: %v, %d, want %d", c.name, got, code, c.want)
		}
	}
}

func TestVectors(t *testing.T) {
	for _, c := range []struct {
		name string
		n    int
		l    []api.Event
		want [][]int
	}{
		{"nothing", 1, nil, nil},
		{"an empty list", api.MaxProc, []api.Event{}, nil},
		{"the example", 2, example(), [][]int{{1, 0}, {0, 1}, {1, 2}}},
		{"one process", 1, repeat(3), [][]int{{1}, {2}, {3}}},
		{"processes without events", api.MaxProc, []api.Event{local(5)}, [][]int{{0, 0, 0, 0, 0, 1}}},
		{"concurrent events", 3, []api.Event{local(2), local(1), local(0)},
			[][]int{{0, 0, 1}, {0, 1, 0}, {1, 0, 0}}},
		{"a message not received", 2, []api.Event{send(0, 0), local(1)}, [][]int{{1, 0}, {0, 1}}},
		{"a message to oneself", 1, []api.Event{send(0, 0), local(0), take(0, 0)}, [][]int{{1}, {2}, {3}}},
		{"a message carries what was before the send only", 2, []api.Event{send(0, 0), local(0), take(1, 0), local(1)},
			[][]int{{1, 0}, {2, 0}, {1, 1}, {1, 2}}},
		{"an old message lowers nothing", 2, []api.Event{send(0, 0), send(0, 1), take(1, 1), take(1, 0)},
			[][]int{{1, 0}, {2, 0}, {2, 1}, {2, 2}}},
		{"through a third process", 3, []api.Event{local(0), send(0, 20), take(1, 20), send(1, 0), take(2, 0)},
			[][]int{{1, 0, 0}, {2, 0, 0}, {2, 1, 0}, {2, 2, 0}, {2, 2, 1}}},
		{"there and back", 2, []api.Event{send(0, 0), take(1, 0), send(1, 1), local(0), take(0, 1)},
			[][]int{{1, 0}, {1, 1}, {1, 2}, {2, 0}, {3, 2}}},
		{"the message of a local event is ignored", 2,
			[]api.Event{send(0, 3), {Proc: 1, Kind: api.ELocal, Msg: 3}, take(1, 3)},
			[][]int{{1, 0}, {0, 1}, {1, 2}}},
	} {
		if got, code := Vectors(c.n, c.l); !same(got, c.want) || code != api.OK {
			t.Errorf("%s: %v, %d, want %v", c.name, got, code, c.want)
		}
	}
}

// TestPairErrors: Less and Join have the same errors, with zero values.
func TestPairErrors(t *testing.T) {
	seven := make([]int, api.MaxProc+1)
	six := make([]int, api.MaxProc)
	for _, c := range []struct {
		name string
		a, b []int
		want api.Errno
	}{
		{"nothing", nil, nil, api.ErrLarge},
		{"empty lists", []int{}, []int{}, api.ErrLarge},
		{"a is empty", nil, []int{1}, api.ErrLarge},
		{"both too long", seven, seven, api.ErrLarge},
		{"a too long", seven, six, api.ErrLarge},
		{"ErrLarge before ErrForm and ErrRange", nil, []int{-1}, api.ErrLarge},
		{"ErrLarge before ErrRange", []int{0, 0, 0, 0, 0, 0, -1}, seven, api.ErrLarge},
		{"b is empty", []int{1}, nil, api.ErrForm},
		{"b shorter", []int{1, 2}, []int{1}, api.ErrForm},
		{"b longer", []int{1, 2}, []int{1, 2, 3}, api.ErrForm},
		{"b too long", six, seven, api.ErrForm},
		{"ErrForm before ErrRange in a", []int{-1}, []int{1, 2}, api.ErrForm},
		{"ErrForm before ErrRange in b", []int{1}, []int{-1, 2}, api.ErrForm},
		{"a negative", []int{-1}, []int{1}, api.ErrRange},
		{"b negative", []int{1}, []int{-1}, api.ErrRange},
		{"both negative", []int{-1}, []int{-1}, api.ErrRange},
		{"last of a", []int{0, 0, 0, 0, 0, -1}, six, api.ErrRange},
		{"last of b", six, []int{0, 0, 0, 0, 0, -1}, api.ErrRange},
		{"negative behind a greater number", []int{2, -1}, []int{1, 0}, api.ErrRange},
		{"least number", []int{math.MinInt}, []int{math.MaxInt}, api.ErrRange},
	} {
		if is, code := Less(c.a, c.b); is || code != c.want {
			t.Errorf("Less: %s: %v, %d, want %d", c.name, is, code, c.want)
		}
		if got, code := Join(c.a, c.b); len(got) != 0 || code != c.want {
			t.Errorf("Join: %s: %v, %d, want %d", c.name, got, code, c.want)
		}
	}
}

func TestPairs(t *testing.T) {
	for _, c := range []struct {
		name string
		a, b []int
		less bool
		join []int
	}{
		{"equal", []int{1, 2}, []int{1, 2}, false, []int{1, 2}},
		{"zero", []int{0}, []int{0}, false, []int{0}},
		{"one less", []int{1, 0}, []int{1, 2}, true, []int{1, 2}},
		{"the first less", []int{0, 2}, []int{1, 2}, true, []int{1, 2}},
		{"all less", []int{0, 1, 2}, []int{1, 2, 3}, true, []int{1, 2, 3}},
		{"greater", []int{1, 2}, []int{1, 0}, false, []int{1, 2}},
		{"less, then greater", []int{0, 2}, []int{1, 0}, false, []int{1, 2}},
		{"greater, then less", []int{1, 0}, []int{0, 2}, false, []int{1, 2}},
		{"less, greater, less", []int{0, 5, 0}, []int{1, 4, 1}, false, []int{1, 5, 1}},
		{"longest", []int{1, 2, 3, 4, 5, 6}, []int{6, 5, 4, 3, 2, 1}, false, []int{6, 5, 4, 4, 5, 6}},
		{"greatest number", []int{0, math.MaxInt}, []int{math.MaxInt, math.MaxInt}, true, []int{math.MaxInt, math.MaxInt}},
	} {
		if is, code := Less(c.a, c.b); is != c.less || code != api.OK {
			t.Errorf("Less: %s: %v, %d, want %v", c.name, is, code, c.less)
		}
		if got, code := Join(c.a, c.b); !slices.Equal(got, c.join) || code != api.OK {
			t.Errorf("Join: %s: %v, %d, want %v", c.name, got, code, c.join)
		}
	}
}

// TestSmallPairs compares Less and Join with their definitions on all vectors
// of two numbers below 4.
func TestSmallPairs(t *testing.T) {
	for k := range 4 * 4 * 4 * 4 {
		a, b := []int{k % 4, k / 4 % 4}, []int{k / 16 % 4, k / 64}
		less := a[0] <= b[0] && a[1] <= b[1] && (a[0] != b[0] || a[1] != b[1])
		if is, code := Less(a, b); is != less || code != api.OK {
			t.Errorf("Less: %v %v: %v, %d", a, b, is, code)
		}
		join := []int{max(a[0], b[0]), max(a[1], b[1])}
		if got, code := Join(a, b); !slices.Equal(got, join) || code != api.OK {
			t.Errorf("Join: %v %v: %v, %d", a, b, got, code)
		}
	}
}

// TestEventsStay: the events are not modified, what lies beyond their length
// is neither read nor written, and no two vectors share memory.
func TestEventsStay(t *testing.T) {
	whole := append(example(), take(1, 0), local(99))
	want := [][]int{{1, 0}, {0, 1}, {1, 2}}
	first, _ := Vectors(2, whole[:3])
	second, _ := Vectors(2, whole[:3])
	for i := range second {
		// Behind its length, too, a vector must not reach into another one.
		vector := second[i][:cap(second[i])]
		for k := range vector {
			vector[k] = -1
		}
		for j := i + 1; j < len(second); j++ {
			if !slices.Equal(second[j], want[j]) {
				t.Errorf("vectors %d and %d share memory", i, j)
			}
		}
	}
	if !same(first, want) {
		t.Error("results share memory:", first)
	}
	if !slices.Equal(whole, append(example(), take(1, 0), local(99))) {
		t.Error("events were modified:", whole)
	}
}

// TestVectorsStay: the vectors are not modified, what lies beyond their length
// is neither read nor written, and a join is new memory.
func TestVectorsStay(t *testing.T) {
	a, b := []int{1, 0, -7}, []int{1, 2, -8}
	if is, code := Less(a[:2], b[:2]); !is || code != api.OK {
		t.Error("Less:", is, code)
	}
	for _, pair := range [][2][]int{{a[:2], b[:2]}, {b[:2], a[:2]}, {b[:2], b[:2]}} {
		got, code := Join(pair[0], pair[1])
		if !slices.Equal(got, []int{1, 2}) || code != api.OK {
			t.Error("Join:", got, code)
		}
		for i := range got {
			got[i] = -1
		}
	}
	if !slices.Equal(a, []int{1, 0, -7}) || !slices.Equal(b, []int{1, 2, -8}) {
		t.Error("vectors were modified:", a, b)
	}
}

// vectorsOf counts the events of each process that happen before an event or
// are the event itself, as package run tells it.
func vectorsOf(t *testing.T, n int, l []api.Event) [][]int {
	t.Helper()
	var result [][]int
	for j := range l {
		stamp := make([]int, n)
		for i, e := range l {
			is, code := run.Ahead(n, l, i, j)
			if code != api.OK {
				t.Fatalf("%v: Ahead %d %d: %d", l, i, j, code)
			}
			if is || i == j {
				stamp[e.Proc]++
			}
		}
		result = append(result, stamp)
	}
	return result
}

// compare holds Vectors against its definition, and Less against what it is
// for: of two events, one happens before the other if its timestamp is less.
func compare(t *testing.T, n int, l []api.Event) {
	t.Helper()
	got, code := Vectors(n, l)
	if want := vectorsOf(t, n, l); !same(got, want) || code != api.OK {
		t.Fatalf("%v: %v, %d, want %v", l, got, code, want)
	}
	for i := range l {
		for j := range l {
			ahead, _ := run.Ahead(n, l, i, j)
			if less, code := Less(got[i], got[j]); less != ahead || code != api.OK {
				t.Fatalf("%v: Less %d %d: %v, %d", l, i, j, less, code)
			}
		}
	}
}

// TestSmallExecutions compares all executions of two processes and two
// messages of at most five events.
func TestSmallExecutions(t *testing.T) {
	var choices []api.Event
	for proc := range 2 {
		choices = append(choices, local(proc))
		for msg := range 2 {
			choices = append(choices, send(proc, msg), take(proc, msg))
		}
	}
	tested := 0
	var extend func([]api.Event)
	extend = func(l []api.Event) {
		compare(t, 2, l)
		tested++
		for _, e := range choices {
			next := append(slices.Clone(l), e)
			if len(next) <= 5 && run.Check(2, next) == api.OK {
				extend(next)
			}
		}
	}
	extend(nil)
	if tested < 1000 {
		t.Errorf("only %d executions", tested)
	}
}

// scatter returns an execution of the given number of events of n processes.
func scatter(r *rand.Rand, n, events int) []api.Event {
	var l []api.Event
	var inTransit []int
	next := 0
	for len(l) < events {
		proc := r.Intn(n)
		switch kind := r.Intn(5); {
		case kind < 2 && next <= api.MaxMsg:
			l = append(l, send(proc, next))
			inTransit = append(inTransit, next)
			next++
		case kind < 4 && len(inTransit) > 0:
			k := r.Intn(len(inTransit))
			l = append(l, take(proc, inTransit[k]))
			inTransit = slices.Delete(inTransit, k, k+1)
		default:
			l = append(l, local(proc))
		}
	}
	return l
}

func TestLargeExecutions(t *testing.T) {
	r := rand.New(rand.NewSource(3))
	for range 200 {
		n := 1 + r.Intn(api.MaxProc)
		compare(t, n, scatter(r, n, api.MaxEvents))
		compare(t, api.MaxProc, scatter(r, api.MaxProc, api.MaxEvents))
	}
}
