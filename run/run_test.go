package run

import (
	"math"
	"math/rand"
	"slices"
	"testing"

	"beaconry/api"
)

func local(proc int) api.Event     { return api.Event{Proc: proc, Kind: api.ELocal} }
func send(proc, msg int) api.Event { return api.Event{Proc: proc, Kind: api.ESend, Msg: msg} }
func take(proc, msg int) api.Event { return api.Event{Proc: proc, Kind: api.ETake, Msg: msg} }

// example is the execution of the chapter's example.
func example() []api.Event { return []api.Event{send(0, 0), local(1), take(1, 0)} }

// repeat returns count local events of process 0.
func repeat(count int) []api.Event { return slices.Repeat([]api.Event{local(0)}, count) }

// invalid lists executions with the error that each of them has.
var invalid = []struct {
	name string
	n    int
	l    []api.Event
	want api.Errno
}{
	{"no process", 0, nil, api.ErrLarge},
	{"fewer than no process", -1, nil, api.ErrLarge},
	{"least n", math.MinInt, nil, api.ErrLarge},
	{"one process too many", api.MaxProc + 1, nil, api.ErrLarge},
	{"greatest n", math.MaxInt, nil, api.ErrLarge},
	{"one event too many", 1, repeat(api.MaxEvents + 1), api.ErrLarge},
	{"many events", 1, repeat(1000), api.ErrLarge},

	{"process below 0", 2, []api.Event{local(-1)}, api.ErrArg},
	{"process n", 2, []api.Event{local(2)}, api.ErrArg},
	{"process MaxProc", api.MaxProc, []api.Event{local(api.MaxProc)}, api.ErrArg},
	{"least process", 2, []api.Event{local(math.MinInt)}, api.ErrArg},
	{"greatest process", 2, []api.Event{local(math.MaxInt)}, api.ErrArg},
	{"process of a send", 1, []api.Event{send(1, 0)}, api.ErrArg},
	{"process of a receipt", 1, []api.Event{send(0, 0), take(1, 0)}, api.ErrArg},

	{"kind 0", 1, []api.Event{{}}, api.ErrKind},
	{"kind 4", 1, []api.Event{{Kind: api.ETake + 1}}, api.ErrKind},
	{"kind below 0", 1, []api.Event{{Kind: -1}}, api.ErrKind},
	{"least kind", 1, []api.Event{{Kind: math.MinInt}}, api.ErrKind},
	{"greatest kind", 1, []api.Event{{Kind: math.MaxInt}}, api.ErrKind},

	{"sent message below 0", 1, []api.Event{send(0, -1)}, api.ErrRange},
	{"sent message too great", 1, []api.Event{send(0, api.MaxMsg+1)}, api.ErrRange},
	{"least message", 1, []api.Event{send(0, math.MinInt)}, api.ErrRange},
	{"greatest message", 1, []api.Event{send(0, math.MaxInt)}, api.ErrRange},
	{"received message below 0", 1, []api.Event{take(0, -1)}, api.ErrRange},
	{"received message too great", 1, []api.Event{take(0, api.MaxMsg+1)}, api.ErrRange},

	{"sent twice", 2, []api.Event{send(0, 3), send(1, 3)}, api.ErrForm},
	{"sent again after its receipt", 2, []api.Event{send(0, 3), take(1, 3), send(0, 3)}, api.ErrForm},
	{"never sent", 1, []api.Event{take(0, 3)}, api.ErrForm},
	{"another message sent", 2, []api.Event{send(0, 2), take(1, 3)}, api.ErrForm},
	{"sent later", 2, []api.Event{take(1, 3), send(0, 3)}, api.ErrForm},
	{"received twice", 3, []api.Event{send(0, 3), take(1, 3), take(2, 3)}, api.ErrForm},

	{"ErrLarge of n before ErrArg", 0, []api.Event{local(0)}, api.ErrLarge},
	{"ErrLarge of events before ErrArg", 1, append([]api.Event{local(9)}, repeat(api.MaxEvents)...), api.ErrLarge},
	{"ErrArg before ErrKind", 1, []api.Event{{Proc: 1}}, api.ErrArg},
	{"ErrArg before ErrRange", 1, []api.Event{send(1, -1)}, api.ErrArg},
	{"ErrArg before ErrForm", 1, []api.Event{take(1, 0)}, api.ErrArg},
	{"ErrKind before ErrRange", 1, []api.Event{{Kind: 4, Msg: -1}}, api.ErrKind},
	{"ErrRange before ErrForm", 1, []api.Event{take(0, -1), take(0, 0)}, api.ErrRange},
	{"first event ErrForm, then ErrArg", 1, []api.Event{take(0, 0), local(1)}, api.ErrForm},
	{"first event ErrRange, then ErrArg", 1, []api.Event{send(0, 21), local(1)}, api.ErrRange},
	{"first event ErrKind, then ErrArg", 1, []api.Event{{}, local(1)}, api.ErrKind},
	{"first event ErrForm, then ErrKind", 1, []api.Event{take(0, 0), {}}, api.ErrForm},
	{"a valid event, then ErrKind, then ErrRange", 1, []api.Event{local(0), {}, send(0, -1)}, api.ErrKind},
}

func TestCheckRejects(t *testing.T) {
	for _, c := range invalid {
		if got := Check(c.n, c.l); got != c.want {
			t.Errorf("%s: %d, want %d", c.name, got, c.want)
		}
	}
}

// TestErrorsOfCheck: the other functions have the errors of Check, before
// errors of their own and with zero values.
func TestErrorsOfCheck(t *testing.T) {
	for _, c := range invalid {
		if is, got := Ahead(c.n, c.l, -1, -1); is || got != c.want {
			t.Errorf("Ahead: %s: %v, %d, want %d", c.name, is, got, c.want)
		}
		if count, got := Apart(c.n, c.l); count != 0 || got != c.want {
			t.Errorf("Apart: %s: %d, %d, want %d", c.name, count, got, c.want)
		}
		if is, got := Again(c.n, c.l, []int{-1}); is || got != c.want {
			t.Errorf("Again: %s: %v, %d, want %d", c.name, is, got, c.want)
		}
		order := identity(len(c.l))
		if is, got := Again(c.n, c.l, order); is || got != c.want {
			t.Errorf("Again: %s: %v, %d, want %d", c.name, is, got, c.want)
		}
	}
}

func TestCheckAccepts(t *testing.T) {
	ends := []api.Event{send(0, 0), send(0, api.MaxMsg), take(0, api.MaxMsg), take(0, 0)}
	ignored := []api.Event{
		{Kind: api.ELocal, Msg: -1}, {Kind: api.ELocal, Msg: api.MaxMsg + 1},
		{Kind: api.ELocal, Msg: math.MinInt}, {Kind: api.ELocal, Msg: 3},
		send(0, 3), {Kind: api.ELocal, Msg: 3}, take(0, 3), {Kind: api.ELocal, Msg: 3},
	}
	for _, c := range []struct {
		name string
		n    int
		l    []api.Event
	}{
		{"nothing", 1, nil},
		{"an empty list", 1, []api.Event{}},
		{"nothing, with MaxProc", api.MaxProc, nil},
		{"the example", 2, example()},
		{"the last process", api.MaxProc, []api.Event{local(api.MaxProc - 1)}},
		{"MaxEvents", 1, repeat(api.MaxEvents)},
		{"messages 0 and MaxMsg, to oneself and overtaking", 1, ends},
		{"messages of local events", 1, ignored},
		{"a message that is not received", 2, []api.Event{send(1, 5)}},
	} {
		if got := Check(c.n, c.l); got != api.OK {
			t.Errorf("%s: %d", c.name, got)
		}
	}
}

func TestExample(t *testing.T) {
	l := example()
	want := [3][3]bool{0: {2: true}, 1: {2: true}}
	for i := range l {
		for j := range l {
			if is, code := Ahead(2, l, i, j); is != want[i][j] || code != api.OK {
				t.Errorf("Ahead %d %d: %v, %d", i, j, is, code)
			}
		}
	}
	if count, code := Apart(2, l); count != 1 || code != api.OK {
		t.Errorf("Apart: %d, %d", count, code)
	}
}

func TestAheadRange(t *testing.T) {
	l := example()
	for _, bad := range []int{-1, 3, 64, math.MinInt, math.MaxInt} {
		for _, good := range []int{0, 2} {
			if is, code := Ahead(2, l, bad, good); is || code != api.ErrRange {
				t.Errorf("Ahead %d %d: %v, %d", bad, good, is, code)
			}
			if is, code := Ahead(2, l, good, bad); is || code != api.ErrRange {
				t.Errorf("Ahead %d %d: %v, %d", good, bad, is, code)
			}
		}
	}
	if is, code := Ahead(1, nil, 0, 0); is || code != api.ErrRange {
		t.Errorf("Ahead of no events: %v, %d", is, code)
	}
}

// TestAheadThroughOthers: a chain over several processes counts, a message
// that has not been received does not, and neither does what its sender does
// after it.
func TestAheadThroughOthers(t *testing.T) {
	l := []api.Event{
		local(0), send(0, 1), local(0), take(1, 1), send(1, 2), local(2), take(2, 2), send(2, 3), local(3),
	}
	for _, c := range []struct {
		i, j int
		want bool
	}{
		{0, 6, true}, {1, 6, true}, {3, 7, true}, {5, 7, true}, {0, 2, true},
		{2, 3, false}, {2, 6, false}, {5, 4, false}, {3, 5, false}, {7, 8, false}, {6, 0, false}, {4, 4, false},
	} {
		if is, code := Ahead(4, l, c.i, c.j); is != c.want || code != api.OK {
			t.Errorf("Ahead %d %d: %v, %d", c.i, c.j, is, code)
		}
	}
}

func TestApart(t *testing.T) {
	spread := make([]api.Event, api.MaxEvents)
	for i := range spread {
		spread[i] = local(i % api.MaxProc)
	}
	for _, c := range []struct {
		name string
		n    int
		l    []api.Event
		want int
	}{
		{"nothing", 1, nil, 0},
		{"one event", 1, repeat(1), 0},
		{"one process", api.MaxProc, repeat(api.MaxEvents), 0},
		{"two processes", 2, []api.Event{local(0), local(1)}, 1},
		{"a message not received", 2, []api.Event{send(0, 0), local(1)}, 1},
		{"a message to oneself", 1, []api.Event{send(0, 0), take(0, 0)}, 0},
		{"all processes", api.MaxProc, spread, 30*29/2 - 6*(5*4/2)},
	} {
		if count, code := Apart(c.n, c.l); count != c.want || code != api.OK {
			t.Errorf("%s: %d, %d, want %d", c.name, count, code, c.want)
		}
	}
}

func TestAgain(t *testing.T) {
	overtaking := []api.Event{send(0, 0), send(1, 1), take(2, 0), take(2, 1)}
	for _, c := range []struct {
		name  string
		n     int
		l     []api.Event
		order []int
		want  bool
	}{
		{"nothing", 1, nil, nil, true},
		{"empty lists", 1, []api.Event{}, []int{}, true},
		{"as it is", 2, example(), []int{0, 1, 2}, true},
		{"concurrent events exchanged", 2, example(), []int{1, 0, 2}, true},
		{"events of a process exchanged", 2, example(), []int{0, 2, 1}, false},
		{"receipt before its send", 2, []api.Event{send(0, 0), take(1, 0)}, []int{1, 0}, false},
		{"equal events exchanged", 1, repeat(2), []int{1, 0}, false},
		{"sends exchanged", 3, overtaking, []int{1, 0, 2, 3}, true},
		{"receipts exchanged", 3, overtaking, []int{0, 1, 3, 2}, false},
		{"a rotation that is not its own inverse", 3, []api.Event{local(0), local(0), local(1)}, []int{2, 0, 1}, true},
	} {
		if is, code := Again(c.n, c.l, c.order); is != c.want || code != api.OK {
			t.Errorf("%s: %v, %d", c.name, is, code)
		}
	}
}

func TestAgainForm(t *testing.T) {
	for _, order := range [][]int{
		nil, {}, {0}, {0, 1}, {0, 1, 1}, {0, 0, 2}, {2, 2, 2}, {0, 1, 3}, {-1, 0, 1}, {1, 2, 3},
		{0, 1, 2, 3}, {0, 1, 2, 2}, {0, 1, 2, -1},
		{0, 1, math.MaxInt}, {math.MinInt, 1, 2}, make([]int, 1000),
	} {
		if is, code := Again(2, example(), order); is || code != api.ErrForm {
			t.Errorf("%v: %v, %d", order, is, code)
		}
	}
	if is, code := Again(1, nil, []int{0}); is || code != api.ErrForm {
		t.Errorf("an order of no events: %v, %d", is, code)
	}
}

// TestArgumentsStay: the arguments are not modified, and what lies beyond
// their lengths is neither read nor written.
func TestArgumentsStay(t *testing.T) {
	whole := append(example(), take(1, 0), local(99))
	order := []int{1, 0, 2, 7, -3}
	Check(2, whole[:3])
	Ahead(2, whole[:3], 0, 2)
	if count, code := Apart(2, whole[:3]); count != 1 || code != api.OK {
		t.Errorf("Apart: %d, %d", count, code)
	}
	if is, code := Again(2, whole[:3], order[:3]); !is || code != api.OK {
		t.Errorf("Again: %v, %d", is, code)
	}
	if !slices.Equal(whole, append(example(), take(1, 0), local(99))) {
		t.Error("events were modified:", whole)
	}
	if !slices.Equal(order, []int{1, 0, 2, 7, -3}) {
		t.Error("the order was modified:", order)
	}
}

func identity(count int) []int {
	order := make([]int, count)
	for i := range order {
		order[i] = i
	}
	return order
}

// relation is the happens-before relation by its definition: the steps within
// processes and along messages, and then what they imply.
func relation(l []api.Event) [][]bool {
	before := make([][]bool, len(l))
	for i, a := range l {
		before[i] = make([]bool, len(l))
		for j, b := range l {
			step := i < j && a.Proc == b.Proc
			message := a.Kind == api.ESend && b.Kind == api.ETake && a.Msg == b.Msg
			before[i][j] = step || message
		}
	}
	for k := range l {
		for i := range l {
			for j := range l {
				before[i][j] = before[i][j] || before[i][k] && before[k][j]
			}
		}
	}
	return before
}

// compare holds Ahead and Apart against the definition.
func compare(t *testing.T, n int, l []api.Event) {
	t.Helper()
	before := relation(l)
	concurrent := 0
	for i := range l {
		for j := range l {
			if is, code := Ahead(n, l, i, j); is != before[i][j] || code != api.OK {
				t.Fatalf("%v: Ahead %d %d: %v, %d", l, i, j, is, code)
			}
			if i < j && !before[i][j] && !before[j][i] {
				concurrent++
			}
		}
	}
	if count, code := Apart(n, l); count != concurrent || code != api.OK {
		t.Fatalf("%v: Apart: %d, %d, want %d", l, count, code, concurrent)
	}
}

// respects reports whether no event of the order stands behind one that it
// happens before: just then the rearranged events form the same execution.
func respects(l []api.Event, order []int) bool {
	before := relation(l)
	for k, i := range order {
		for _, j := range order[k+1:] {
			if before[j][i] {
				return false
			}
		}
	}
	return true
}

// permutations calls f with every order of count numbers.
func permutations(count int, f func([]int)) {
	var extend func([]int)
	extend = func(order []int) {
		if len(order) == count {
			f(order)
			return
		}
		for i := range count {
			if !slices.Contains(order, i) {
				extend(append(slices.Clone(order), i))
			}
		}
	}
	extend(nil)
}

// executions calls f with every execution of two processes and two messages
// of at most the given length.
func executions(length int, f func([]api.Event)) {
	var choices []api.Event
	for proc := range 2 {
		choices = append(choices, local(proc))
		for msg := range 2 {
			choices = append(choices, send(proc, msg), take(proc, msg))
		}
	}
	var extend func([]api.Event)
	extend = func(l []api.Event) {
		f(l)
		for _, e := range choices {
			next := append(slices.Clone(l), e)
			if len(next) <= length && plain(next) {
				extend(next)
			}
		}
	}
	extend(nil)
}

// plain reports whether each receipt has one send before it, and each message
// is sent and received at most once.
func plain(l []api.Event) bool {
	for j, b := range l {
		if b.Kind == api.ELocal {
			continue
		}
		sends, takes := 0, 0
		for _, a := range l[:j] {
			if a.Msg == b.Msg && a.Kind == api.ESend {
				sends++
			}
			if a.Msg == b.Msg && a.Kind == api.ETake {
				takes++
			}
		}
		if b.Kind == api.ESend && sends > 0 || b.Kind == api.ETake && (sends == 0 || takes > 0) {
			return false
		}
	}
	return true
}

func TestSmallExecutions(t *testing.T) {
	executions(5, func(l []api.Event) { compare(t, 2, l) })
	executions(4, func(l []api.Event) {
		permutations(len(l), func(order []int) {
			if is, code := Again(2, l, order); is != respects(l, order) || code != api.OK {
				t.Fatalf("%v %v: %v, %d", l, order, is, code)
			}
		})
	})
}

// scatter returns an execution of MaxEvents events of all processes.
func scatter(r *rand.Rand) []api.Event {
	var l []api.Event
	var inTransit []int
	next := 0
	for len(l) < api.MaxEvents {
		proc := r.Intn(api.MaxProc)
		switch kind := r.Intn(5); {
		case kind < 2 && next <= api.MaxMsg:
			l = append(l, send(proc, next))
			inTransit = append(inTransit, next)
			next++
		case kind < 4 && len(inTransit) > 0:
			k := r.Intn(len(inTransit))
			l = append(l, take(proc, inTransit[k]))
			inTransit = slices.Delete(inTransit, k, k+1)
		default:
			l = append(l, local(proc))
		}
	}
	return l
}

// mix returns an order in which some neighbours have been exchanged, so that
// the same execution is neither certain nor hopeless.
func mix(r *rand.Rand, l []api.Event) []int {
	order := identity(len(l))
	before := relation(l)
	for range 100 {
		k := r.Intn(len(l) - 1)
		if !before[order[k]][order[k+1]] || r.Intn(100) == 0 {
			order[k], order[k+1] = order[k+1], order[k]
		}
	}
	return order
}

func TestLargeExecutions(t *testing.T) {
	r := rand.New(rand.NewSource(1))
	same := 0
	for range 200 {
		l := scatter(r)
		compare(t, api.MaxProc, l)
		order := mix(r, l)
		want := respects(l, order)
		if want {
			same++
		}
		if is, code := Again(api.MaxProc, l, order); is != want || code != api.OK {
			t.Fatalf("%v %v: %v, %d", l, order, is, code)
		}
	}
	if same == 0 || same == 200 {
		t.Errorf("%d of 200 orders are the same execution: both kinds are needed", same)
	}
}
