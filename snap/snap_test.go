package snap

import (
	"math"
	"math/rand"
	"reflect"
	"slices"
	"testing"

	"beaconry/api"
	"beaconry/cut"
)

func send(from, to, val int) api.Move {
	return api.Move{Kind: api.NSend, From: from, To: to, Val: val}
}
func take(from, to int) api.Move { return api.Move{Kind: api.NTake, From: from, To: to} }
func mark(from int) api.Move     { return api.Move{Kind: api.NMark, From: from} }

// empty reports whether a result is the zero value, with nil and empty lists
// alike.
func empty(s api.Snap) bool {
	return len(s.Codes) == 0 && !s.Done && len(s.Kept) == 0 && len(s.Way) == 0
}

// same reports whether two results are equal, with nil and empty lists alike.
func same(a, b api.Snap) bool {
	return slices.Equal(a.Codes, b.Codes) && a.Done == b.Done && slices.Equal(a.Kept, b.Kept) &&
		slices.EqualFunc(a.Way, b.Way, slices.Equal[[]int])
}

func TestErrors(t *testing.T) {
	many := slices.Repeat([]api.Move{mark(0)}, api.MaxMoves+1)
	for _, c := range []struct {
		name   string
		n      int
		script []api.Move
	}{
		{"no process", 0, nil},
		{"fewer than no process", -1, []api.Move{mark(0)}},
		{"least n", math.MinInt, nil},
		{"one process too many", api.MaxProc + 1, []api.Move{mark(0)}},
		{"greatest n", math.MaxInt, nil},
		{"one operation too many", 1, many},
		{"many operations", api.MaxProc, slices.Repeat(many, 20)},
		{"many invalid operations", 2, make([]api.Move, api.MaxMoves+1)},
		{"both", 0, many},
	} {
		if s, code := Play(c.n, c.script); !empty(s) || code != api.ErrLarge {
			t.Errorf("%s: %v, %d", c.name, s, code)
		}
	}
}

// TestLimits: the greatest n and the longest script are valid.
func TestLimits(t *testing.T) {
	for n := 1; n <= api.MaxProc; n++ {
		for _, length := range []int{0, 1, api.MaxMoves - 1, api.MaxMoves} {
			s, code := Play(n, make([]api.Move, length))
			if code != api.OK || len(s.Codes) != length || s.Done || len(s.Kept) != n || len(s.Way) != n {
				t.Errorf("%d processes, %d operations: %v, %d", n, length, s, code)
			}
			for _, row := range s.Way {
				if !slices.Equal(row, make([]int, n)) {
					t.Errorf("%d processes, %d operations: %v", n, length, s)
				}
			}
		}
	}
}

// TestCodes: the code of the last operation of each script, when all before it
// are valid.
func TestCodes(t *testing.T) {
	for _, c := range []struct {
		name   string
		script []api.Move
		want   api.Errno
	}{
		{"kind 0", []api.Move{{To: 1, Val: 1}}, api.ErrKind},
		{"kind 4", []api.Move{{Kind: api.NMark + 1, To: 1, Val: 1}}, api.ErrKind},
		{"kind below 0", []api.Move{{Kind: -1, To: 1}}, api.ErrKind},
		{"least kind", []api.Move{{Kind: math.MinInt, To: 1}}, api.ErrKind},
		{"greatest kind", []api.Move{{Kind: math.MaxInt, To: 1}}, api.ErrKind},
		{"ErrKind before ErrArg", []api.Move{{Kind: 4, From: -1, To: 9, Val: -1}}, api.ErrKind},

		{"send from below 0", []api.Move{send(-1, 1, 1)}, api.ErrArg},
		{"send from n", []api.Move{send(3, 1, 1)}, api.ErrArg},
		{"send from the least", []api.Move{send(math.MinInt, 1, 1)}, api.ErrArg},
		{"send from the greatest", []api.Move{send(math.MaxInt, 1, 1)}, api.ErrArg},
		{"send to below 0", []api.Move{send(0, -1, 1)}, api.ErrArg},
		{"send to n", []api.Move{send(0, 3, 1)}, api.ErrArg},
		{"send to the least", []api.Move{send(0, math.MinInt, 1)}, api.ErrArg},
		{"send to the greatest", []api.Move{send(0, math.MaxInt, 1)}, api.ErrArg},
		{"send to oneself", []api.Move{send(1, 1, 1)}, api.ErrArg},
		{"ErrArg before ErrRange", []api.Move{send(1, 1, 0)}, api.ErrArg},
		{"take from below 0", []api.Move{take(-1, 1)}, api.ErrArg},
		{"take from n", []api.Move{take(3, 1)}, api.ErrArg},
		{"take by below 0", []api.Move{take(0, -1)}, api.ErrArg},
		{"take by n", []api.Move{take(0, 3)}, api.ErrArg},
		{"take from oneself", []api.Move{take(2, 2)}, api.ErrArg},
		{"mark of below 0", []api.Move{mark(-1)}, api.ErrArg},
		{"mark of n", []api.Move{mark(3)}, api.ErrArg},
		{"mark of the least", []api.Move{mark(math.MinInt)}, api.ErrArg},
		{"mark of the greatest", []api.Move{mark(math.MaxInt)}, api.ErrArg},

		{"send nothing", []api.Move{send(0, 1, 0)}, api.ErrRange},
		{"send less than nothing", []api.Move{send(0, 1, -1)}, api.ErrRange},
		{"send the least", []api.Move{send(0, 1, math.MinInt)}, api.ErrRange},
		{"send more than all", []api.Move{send(0, 1, api.MaxHave+1)}, api.ErrRange},
		{"send the greatest", []api.Move{send(0, 1, math.MaxInt)}, api.ErrRange},
		{"send 1", []api.Move{send(0, 1, 1)}, api.OK},
		{"send all", []api.Move{send(0, 1, api.MaxHave)}, api.OK},
		{"send all, and 1", []api.Move{send(0, 1, api.MaxHave), send(0, 2, 1)}, api.ErrRange},
		{"send the rest", []api.Move{send(0, 1, 40), send(0, 2, 60)}, api.OK},
		{"send more than the rest", []api.Move{send(0, 1, 40), send(0, 2, 61)}, api.ErrRange},
		{"send what is on the way", []api.Move{send(0, 1, 1), send(1, 2, 101)}, api.ErrRange},
		{"send what has come", []api.Move{send(0, 1, 1), take(0, 1), send(1, 2, 101)}, api.OK},
		{"send more than has come", []api.Move{send(0, 1, 1), take(0, 1), send(1, 2, 102)}, api.ErrRange},
		{"send after recording", []api.Move{mark(0), send(0, 1, 100)}, api.OK},

		{"take nothing", []api.Move{take(0, 1)}, api.ErrNone},
		{"take", []api.Move{send(0, 1, 1), take(0, 1)}, api.OK},
		{"take twice", []api.Move{send(0, 1, 1), take(0, 1), take(0, 1)}, api.ErrNone},
		{"take what goes the other way", []api.Move{send(0, 1, 1), take(1, 0)}, api.ErrNone},
		{"take what goes to another one", []api.Move{send(0, 1, 1), take(0, 2)}, api.ErrNone},
		{"take what comes from another one", []api.Move{send(0, 1, 1), take(2, 1)}, api.ErrNone},
		{"take a marker", []api.Move{mark(0), take(0, 2)}, api.OK},
		{"take a marker of another one", []api.Move{mark(0), take(1, 2)}, api.ErrNone},
		{"take a marker and its answer", []api.Move{mark(0), take(0, 2), take(2, 0)}, api.OK},
		{"take a second marker", []api.Move{mark(0), take(0, 1), take(0, 1)}, api.ErrNone},
		{"take an answer twice", []api.Move{mark(0), take(0, 1), take(1, 0), take(1, 0)}, api.ErrNone},

		{"mark", []api.Move{mark(2)}, api.OK},
		{"mark twice", []api.Move{mark(2), mark(2)}, api.ErrHold},
		{"mark another one", []api.Move{mark(2), mark(0)}, api.OK},
		{"mark before the marker comes", []api.Move{mark(0), mark(1), take(0, 1)}, api.OK},
		{"mark after the marker came", []api.Move{mark(0), take(0, 1), mark(1)}, api.ErrHold},

		{"the amount of a take is ignored", []api.Move{send(0, 1, 1), {Kind: api.NTake, To: 1, Val: math.MinInt}}, api.OK},
		{"other fields of a mark are ignored", []api.Move{{Kind: api.NMark, From: 1, To: -1, Val: 101}}, api.OK},
		{"a mark to n", []api.Move{{Kind: api.NMark, From: 1, To: 3}}, api.OK},
		{"a mark to oneself", []api.Move{{Kind: api.NMark, From: 1, To: 1}}, api.OK},
	} {
		want := make([]api.Errno, len(c.script))
		want[len(want)-1] = c.want
		if s, code := Play(3, c.script); !slices.Equal(s.Codes, want) || code != api.OK {
			t.Errorf("%s: %v, %d, want %v", c.name, s.Codes, code, want)
		}
	}
}

// TestRecording: all results of scripts without invalid operations.
func TestRecording(t *testing.T) {
	for _, c := range []struct {
		name   string
		n      int
		script []api.Move
		done   bool
		kept   []int
		way    [][]int
	}{
		{"nothing, one process", 1, nil, false, []int{0}, [][]int{{0}}},
		{"the example", 1, []api.Move{mark(0)}, true, []int{100}, [][]int{{0}}},
		{"nothing", 2, []api.Move{}, false, []int{0, 0}, [][]int{{0, 0}, {0, 0}}},
		{"nobody records", 2, []api.Move{send(0, 1, 5), take(0, 1)}, false, []int{0, 0}, [][]int{{0, 0}, {0, 0}}},
		{"one records", 2, []api.Move{send(1, 0, 5), mark(1)}, false, []int{0, 95}, [][]int{{0, 0}, {0, 0}}},
		{"a marker comes", 2, []api.Move{mark(0), take(0, 1)}, false, []int{100, 100}, [][]int{{0, 0}, {0, 0}}},
		{"both markers come", 2, []api.Move{mark(0), take(0, 1), take(1, 0)}, true,
			[]int{100, 100}, [][]int{{0, 0}, {0, 0}}},
		{"both start", 2, []api.Move{mark(0), mark(1), take(0, 1), take(1, 0)}, true,
			[]int{100, 100}, [][]int{{0, 0}, {0, 0}}},
		{"both start, one marker comes", 2, []api.Move{mark(0), mark(1), take(0, 1)}, false,
			[]int{100, 100}, [][]int{{0, 0}, {0, 0}}},
		{"nothing is kept", 2, []api.Move{send(0, 1, 100), mark(0), take(0, 1), take(0, 1), take(1, 0)}, true,
			[]int{0, 200}, [][]int{{0, 0}, {0, 0}}},
		{"on the way", 2, []api.Move{send(0, 1, 5), mark(1), take(0, 1), take(1, 0), take(0, 1)}, true,
			[]int{95, 100}, [][]int{{0, 5}, {0, 0}}},
		{"several on the way", 2, []api.Move{send(0, 1, 5), send(0, 1, 7), mark(1), take(0, 1), take(0, 1)}, false,
			[]int{0, 100}, [][]int{{0, 12}, {0, 0}}},
		{"on the way, not taken", 2, []api.Move{send(0, 1, 5), mark(1), take(1, 0)}, false,
			[]int{95, 100}, [][]int{{0, 0}, {0, 0}}},
		{"taken before recording", 2, []api.Move{send(0, 1, 5), take(0, 1), mark(1), take(1, 0), take(0, 1)}, true,
			[]int{95, 105}, [][]int{{0, 0}, {0, 0}}},
		{"sent behind the marker", 2,
			[]api.Move{mark(0), send(0, 1, 5), take(0, 1), take(0, 1), take(1, 0)}, true,
			[]int{100, 100}, [][]int{{0, 0}, {0, 0}}},
		{"sent before and behind the marker", 2,
			[]api.Move{send(0, 1, 3), mark(0), send(0, 1, 5), mark(1), take(0, 1), take(0, 1), take(0, 1), take(1, 0)},
			true, []int{97, 100}, [][]int{{0, 3}, {0, 0}}},
		{"a closed channel does not close the others", 3,
			[]api.Move{send(2, 1, 9), mark(0), send(0, 1, 4), take(0, 1), take(0, 1), take(2, 1)}, false,
			[]int{100, 100, 0}, [][]int{{0, 0, 0}, {0, 0, 0}, {0, 9, 0}}},
		{"sent after recording, taken before it", 3,
			[]api.Move{mark(0), take(0, 2), send(2, 1, 6), mark(1), take(2, 1), take(2, 1)}, false,
			[]int{100, 100, 100}, [][]int{{0, 0, 0}, {0, 0, 0}, {0, 0, 0}}},
		{"all recorded, one channel open", 3,
			[]api.Move{mark(0), mark(1), mark(2), take(0, 1), take(0, 2), take(1, 0), take(1, 2), take(2, 0)}, false,
			[]int{100, 100, 100}, [][]int{{0, 0, 0}, {0, 0, 0}, {0, 0, 0}}},
		{"all channels closed", 3,
			[]api.Move{mark(0), mark(1), mark(2), take(0, 1), take(0, 2), take(1, 0), take(1, 2), take(2, 0), take(2, 1)},
			true, []int{100, 100, 100}, [][]int{{0, 0, 0}, {0, 0, 0}, {0, 0, 0}}},
	} {
		want := api.Snap{Codes: make([]api.Errno, len(c.script)), Done: c.done, Kept: c.kept, Way: c.way}
		if s, code := Play(c.n, c.script); !same(s, want) || code != api.OK {
			t.Errorf("%s: %v, %d, want %v", c.name, s, code, want)
		}
	}
}

// TestRejectedChangesNothing: with rejected operations in between, the other
// operations have the same results.
func TestRejectedChangesNothing(t *testing.T) {
	script := []api.Move{send(0, 1, 60), mark(1), take(0, 1), take(1, 0), take(0, 1), send(0, 1, 40)}
	plain, _ := Play(2, script)
	var mixed []api.Move
	var want []api.Errno
	for _, m := range script {
		mixed = append(mixed, m, api.Move{Kind: 9, To: 1, Val: 1}, send(0, 0, 1), mark(2), send(0, 1, 101), take(0, 7))
		want = append(want, api.OK, api.ErrKind, api.ErrArg, api.ErrArg, api.ErrRange, api.ErrArg)
	}
	mixed = append(mixed, mark(0), mark(1), take(1, 0))
	want = append(want, api.ErrHold, api.ErrHold, api.ErrNone)
	plain.Codes = want
	if s, code := Play(2, mixed); !same(s, plain) || code != api.OK {
		t.Errorf("%v, %d, want %v", s, code, plain)
	}
}

// TestArgumentsStay: the script is not modified, what lies beyond its length
// is neither read nor written, and results are new memory.
func TestArgumentsStay(t *testing.T) {
	whole := func() []api.Move { return []api.Move{send(0, 1, 5), mark(1), take(0, 1), mark(0), take(1, 0)} }
	want := api.Snap{Codes: make([]api.Errno, 3), Kept: []int{0, 100}, Way: [][]int{{0, 5}, {0, 0}}}
	script := whole()
	for range 2 {
		s, code := Play(2, script[:3])
		if !same(s, want) || code != api.OK {
			t.Errorf("%v, %d, want %v", s, code, want)
		}
		s.Codes[0] = api.ErrOld
		// Writing to one list, even beyond its length, leaves the others alone.
		lists := append([][]int{s.Kept}, s.Way...)
		for i, list := range lists {
			list = list[:cap(list)]
			for k := range list {
				list[k] = -1 - i
			}
		}
		for i, list := range lists {
			if !slices.Equal(list, []int{-1 - i, -1 - i}) {
				t.Errorf("list %d shares memory: %v", i, lists)
			}
		}
	}
	if !slices.Equal(script, whole()) {
		t.Error("the script was modified:", script)
	}
}

// message is one that was sent: when, and when it was received (below 0: not
// yet). A marker has no amount.
type message struct{ amount, sent, taken int }

// history is all that has happened, from which the results follow by their
// definitions. Times are numbers of operations.
type history struct {
	n        int
	messages map[[2]int][]message
	recorded []int
	codes    []api.Errno
}

// tell returns the history of a script.
func tell(n int, script []api.Move) *history {
	h := &history{n: n, messages: map[[2]int][]message{}, recorded: slices.Repeat([]int{-1}, n)}
	for now, m := range script {
		h.codes = append(h.codes, h.add(now, m))
	}
	return h
}

func (h *history) add(now int, m api.Move) api.Errno {
	ends := [2]int{m.From, m.To}
	switch m.Kind {
	case api.NSend:
		if m.Val < 1 || m.Val > h.amount(m.From, now) {
			return api.ErrRange
		}
		h.messages[ends] = append(h.messages[ends], message{m.Val, now, -1})
	case api.NTake:
		next := slices.IndexFunc(h.messages[ends], func(x message) bool { return x.taken < 0 })
		if next < 0 {
			return api.ErrNone
		}
		h.messages[ends][next].taken = now
		if h.messages[ends][next].amount == 0 && h.recorded[m.To] < 0 {
			h.record(now, m.To)
		}
	case api.NMark:
		if h.recorded[m.From] >= 0 {
			return api.ErrHold
		}
		h.record(now, m.From)
	}
	return api.OK
}

func (h *history) record(now, proc int) {
	h.recorded[proc] = now
	for to := range h.n {
		if ends := [2]int{proc, to}; to != proc {
			h.messages[ends] = append(h.messages[ends], message{0, now, -1})
		}
	}
}

// amount returns what a process has before the operation at a time.
func (h *history) amount(proc, now int) int {
	sum := api.MaxHave
	for ends, list := range h.messages {
		for _, x := range list {
			if ends[0] == proc && x.sent < now {
				sum -= x.amount
			}
			if ends[1] == proc && x.taken >= 0 && x.taken < now {
				sum += x.amount
			}
		}
	}
	return sum
}

// closedAt returns when a channel was closed, or a time that never comes.
func (h *history) closedAt(ends [2]int) int {
	for _, x := range h.messages[ends] {
		if x.amount == 0 && x.taken >= 0 {
			return x.taken
		}
	}
	return math.MaxInt
}

// snap returns the results that follow from the history.
func (h *history) snap() api.Snap {
	s := api.Snap{Codes: h.codes, Done: true, Kept: make([]int, h.n), Way: make([][]int, h.n)}
	for from := range h.n {
		s.Way[from] = make([]int, h.n)
		if h.recorded[from] >= 0 {
			s.Kept[from] = h.amount(from, h.recorded[from])
		}
		s.Done = s.Done && h.recorded[from] >= 0
		for to := range h.n {
			if to == from {
				continue
			}
			ends := [2]int{from, to}
			end := h.closedAt(ends)
			s.Done = s.Done && end < math.MaxInt
			for _, x := range h.messages[ends] {
				if h.recorded[to] >= 0 && x.taken > h.recorded[to] && x.taken < end {
					s.Way[from][to] += x.amount
				}
			}
		}
	}
	return s
}

// execution returns the sends and receipts of amounts as an execution of
// package run, how many of them each process did before it recorded, and the
// channel and amount of each message.
func (h *history) execution(length int) ([]api.Event, []int, [][3]int) {
	events := make([]api.Event, length)
	var sent [][3]int
	for ends, list := range h.messages {
		for _, x := range list {
			if x.amount == 0 {
				continue
			}
			events[x.sent] = api.Event{Proc: ends[0], Kind: api.ESend, Msg: len(sent)}
			if x.taken >= 0 {
				events[x.taken] = api.Event{Proc: ends[1], Kind: api.ETake, Msg: len(sent)}
			}
			sent = append(sent, [3]int{ends[0], ends[1], x.amount})
		}
	}
	before := make([]int, h.n)
	for now, e := range events {
		if e.Kind != 0 && now < h.recorded[e.Proc] {
			before[e.Proc]++
		}
	}
	return slices.DeleteFunc(events, func(e api.Event) bool { return e.Kind == 0 }), before, sent
}

// consistent holds a complete result against the consistent cut of what was
// done before recording: the channels have what is on the way in this cut. It
// reports whether package cut could be asked.
func consistent(t *testing.T, script []api.Move, h *history, s api.Snap) bool {
	t.Helper()
	sum := 0
	for proc := range h.n {
		sum += s.Kept[proc]
		for _, amount := range s.Way[proc] {
			sum += amount
		}
	}
	if sum != h.n*api.MaxHave {
		t.Fatalf("%v: %v: the recorded amounts are %d in all", script, s, sum)
	}
	events, before, sent := h.execution(len(script))
	if len(events) > api.MaxEvents || len(sent) > api.MaxMsg+1 {
		return false
	}
	messages, code := cut.Way(h.n, events, before)
	if code != api.OK {
		t.Fatalf("%v: the cut %v of %v: %d", script, before, events, code)
	}
	way := make([][]int, h.n)
	for from := range way {
		way[from] = make([]int, h.n)
	}
	for _, msg := range messages {
		way[sent[msg][0]][sent[msg][1]] += sent[msg][2]
	}
	if !reflect.DeepEqual(way, s.Way) {
		t.Fatalf("%v: %v: on the way in the cut: %v", script, s, way)
	}
	return true
}

// compare holds Play against the definitions, and returns its result and
// whether package cut has confirmed it, too.
func compare(t *testing.T, n int, script []api.Move) (api.Snap, bool) {
	t.Helper()
	h := tell(n, script)
	want := h.snap()
	s, code := Play(n, script)
	if !same(s, want) || code != api.OK {
		t.Fatalf("%d processes, %v: %v, %d, want %v", n, script, s, code, want)
	}
	return s, s.Done && consistent(t, script, h, s)
}

// TestSmallScripts compares all scripts of two processes of at most six
// operations, with other amounts at each position.
func TestSmallScripts(t *testing.T) {
	confirmed := 0
	var extend func([]api.Move)
	extend = func(script []api.Move) {
		if _, ok := compare(t, 2, script); ok {
			confirmed++
		}
		if len(script) == 6 {
			return
		}
		val := 1 << len(script)
		for _, m := range []api.Move{send(0, 1, val), send(1, 0, val), take(0, 1), take(1, 0), mark(0), mark(1)} {
			extend(append(slices.Clone(script), m))
		}
	}
	extend(nil)
	if confirmed < 100 {
		t.Errorf("only %d complete snapshots", confirmed)
	}
}

// scatter returns a script of operations with valid processes; towards the
// end, there are more receipts, so that some snapshots are complete.
func scatter(r *rand.Rand, n int) []api.Move {
	length := r.Intn(api.MaxMoves + 1)
	script := make([]api.Move, 0, length)
	for len(script) < length {
		from := r.Intn(n)
		to := (from + 1 + r.Intn(max(n-1, 1))) % n
		switch kind := r.Intn(12); {
		case kind == 0 || n == 1:
			script = append(script, mark(from))
		case kind < 7 && r.Intn(length) > len(script):
			script = append(script, send(from, to, r.Intn(45)))
		default:
			script = append(script, take(from, to))
		}
	}
	return script
}

func TestLargeScripts(t *testing.T) {
	r := rand.New(rand.NewSource(5))
	done, confirmed, moving := 0, 0, 0
	for range 5000 {
		n := 1 + r.Intn(api.MaxProc)
		s, ok := compare(t, n, scatter(r, n))
		if s.Done && n > 2 {
			done++
		}
		if ok && n > 2 {
			confirmed++
		}
		if slices.ContainsFunc(s.Way, func(row []int) bool { return slices.Max(row) > 0 }) {
			moving++
		}
	}
	if done < 100 || confirmed < 50 || moving < 100 {
		t.Errorf("%d complete snapshots, %d confirmed, %d with recorded channels", done, confirmed, moving)
	}
}
