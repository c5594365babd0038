package causal

import (
	"math"
	"math/rand"
	"slices"
	"testing"

	"beaconry/api"
	"beaconry/run"
	"beaconry/snap"
)

func tell(from int) api.Move         { return api.Move{Kind: api.PTell, From: from} }
func come(val, to int) api.Move      { return api.Move{Kind: api.PCome, To: to, Val: val} }
func moves(m ...api.Move) []api.Move { return m }

// empty reports whether a result is the zero value, with nil and empty lists
// alike.
func empty(h api.Heard) bool { return len(h.Codes) == 0 && len(h.Told) == 0 }

// same reports whether two results are equal, with nil and empty lists alike.
func same(a, b api.Heard) bool {
	return slices.Equal(a.Codes, b.Codes) && slices.EqualFunc(a.Told, b.Told, slices.Equal[[]int])
}

// TestErrors: the errors are those of snap.Play.
func TestErrors(t *testing.T) {
	many := slices.Repeat(moves(tell(0)), api.MaxMoves+1)
	for _, c := range []struct {
		name   string
		n      int
		script []api.Move
	}{
		{"no process", 0, nil},
		{"fewer than no process", -1, moves(tell(0))},
		{"least n", math.MinInt, nil},
		{"one process too many", api.MaxProc + 1, moves(tell(0))},
		{"greatest n", math.MaxInt, nil},
		{"one operation too many", 1, many},
		{"many operations", api.MaxProc, slices.Repeat(many, 20)},
		{"many invalid operations", 2, make([]api.Move, api.MaxMoves+1)},
		{"both", 0, many},
	} {
		if h, code := Play(c.n, c.script); !empty(h) || code != api.ErrLarge {
			t.Errorf("%s: %v, %d", c.name, h, code)
		}
		if _, code := snap.Play(c.n, c.script); code != api.ErrLarge {
			t.Errorf("%s: %d from snap.Play", c.name, code)
		}
	}
}

// TestLimits: the greatest n and the longest script are valid.
func TestLimits(t *testing.T) {
	for n := 1; n <= api.MaxProc; n++ {
		for _, length := range []int{0, 1, api.MaxMoves - 1, api.MaxMoves} {
			want := api.Heard{Codes: slices.Repeat([]api.Errno{api.ErrKind}, length), Told: make([][]int, n)}
			if h, code := Play(n, make([]api.Move, length)); !same(h, want) || code != api.OK {
				t.Errorf("%d processes, %d invalid operations: %v, %d", n, length, h, code)
			}
			want.Codes = make([]api.Errno, length)
			for i := range length {
				want.Told[n-1] = append(want.Told[n-1], i)
			}
			h, code := Play(n, slices.Repeat(moves(tell(n-1)), length))
			if !same(h, want) || code != api.OK {
				t.Errorf("%d processes, %d messages: %v, %d", n, length, h, code)
			}
		}
	}
}

// TestCodes: the code of the last operation of each script, when all before it
// are valid.
func TestCodes(t *testing.T) {
	for _, c := range []struct {
		name   string
		script []api.Move
		want   api.Errno
	}{
		{"kind 0", moves(api.Move{}), api.ErrKind},
		{"kind 3", moves(tell(0), api.Move{Kind: api.PCome + 1, To: 1}), api.ErrKind},
		{"kind below 0", moves(api.Move{Kind: -1}), api.ErrKind},
		{"least kind", moves(api.Move{Kind: math.MinInt}), api.ErrKind},
		{"greatest kind", moves(api.Move{Kind: math.MaxInt}), api.ErrKind},
		{"ErrKind before ErrArg", moves(api.Move{Kind: 3, From: -1, To: 9, Val: -1}), api.ErrKind},

		{"tell", moves(tell(0)), api.OK},
		{"the last process tells", moves(tell(2)), api.OK},
		{"tell again", moves(tell(2), tell(2)), api.OK},
		{"tell while a message waits", moves(tell(0), tell(0), come(1, 1), tell(1)), api.OK},
		{"tell from below 0", moves(tell(-1)), api.ErrArg},
		{"tell from n", moves(tell(3)), api.ErrArg},
		{"tell from the least", moves(tell(math.MinInt)), api.ErrArg},
		{"tell from the greatest", moves(tell(math.MaxInt)), api.ErrArg},
		{"other fields of a tell are ignored", moves(api.Move{Kind: api.PTell, To: -1, Val: -1}), api.OK},
		{"a tell to n", moves(api.Move{Kind: api.PTell, From: 1, To: 3, Val: math.MaxInt}), api.OK},
		{"a tell to oneself", moves(api.Move{Kind: api.PTell, From: 1, To: 1}), api.OK},

		{"come", moves(tell(0), come(0, 1)), api.OK},
		{"come to the last process", moves(tell(0), come(0, 2)), api.OK},
		{"come to below 0", moves(tell(0), come(0, -1)), api.ErrArg},
		{"come to n", moves(tell(0), come(0, 3)), api.ErrArg},
		{"come to the least", moves(tell(0), come(0, math.MinInt)), api.ErrArg},
		{"come to the greatest", moves(tell(0), come(0, math.MaxInt)), api.ErrArg},
		{"ErrArg before ErrRange", moves(come(-1, 3)), api.ErrArg},
		{"the sender of a come is ignored", moves(tell(0), api.Move{Kind: api.PCome, From: -1, To: 1}), api.OK},
		{"a come from n", moves(tell(0), api.Move{Kind: api.PCome, From: 3, To: 1}), api.OK},
		{"a come from the receiver", moves(tell(0), api.Move{Kind: api.PCome, From: 1, To: 1}), api.OK},

		{"no message yet", moves(come(0, 1)), api.ErrRange},
		{"no such message", moves(tell(0), come(1, 1)), api.ErrRange},
		{"a message below 0", moves(tell(0), come(-1, 1)), api.ErrRange},
		{"the least message", moves(tell(0), come(math.MinInt, 1)), api.ErrRange},
		{"the greatest message", moves(tell(0), come(math.MaxInt, 1)), api.ErrRange},
		{"no message of its own yet", moves(tell(0), come(1, 0)), api.ErrRange},

		{"come twice", moves(tell(0), come(0, 1), come(0, 1)), api.ErrHold},
		{"come again later", moves(tell(0), come(0, 1), tell(1), tell(0), come(2, 1), come(0, 1)), api.ErrHold},
		{"come to its sender", moves(tell(0), come(0, 0)), api.ErrHold},
		{"come to its sender later", moves(tell(1), tell(0), tell(0), come(1, 0)), api.ErrHold},
		{"come while it waits", moves(tell(0), tell(0), come(1, 1), come(1, 1)), api.ErrHold},
		{"come after it waited", moves(tell(0), tell(0), come(1, 1), come(0, 1), come(1, 1)), api.ErrHold},
		{"come to another one, too", moves(tell(0), come(0, 1), come(0, 2)), api.OK},
		{"come where it waits elsewhere", moves(tell(0), tell(0), come(1, 1), come(1, 2)), api.OK},
		{"what it waits for comes", moves(tell(0), tell(0), come(1, 1), come(0, 1)), api.OK},
	} {
		want := make([]api.Errno, len(c.script))
		want[len(want)-1] = c.want
		if h, code := Play(3, c.script); !slices.Equal(h.Codes, want) || code != api.OK {
			t.Errorf("%s: %v, %d, want %v", c.name, h.Codes, code, want)
		}
	}
}

// TestDelivery: the messages delivered by scripts without invalid operations.
func TestDelivery(t *testing.T) {
	for _, c := range []struct {
		name   string
		script []api.Move
		want   [][]int
	}{
		{"nothing", nil, [][]int{{}, {}, {}}},
		{"to its sender at once", moves(tell(1)), [][]int{{}, {0}, {}}},
		{"numbers of all senders together", moves(tell(1), tell(0), tell(1)), [][]int{{1}, {0, 2}, {}}},
		{"immediately", moves(tell(1), come(0, 2)), [][]int{{}, {0}, {0}}},
		{"the example", moves(tell(0), come(0, 1), tell(1), come(1, 2), come(0, 2)), [][]int{{0}, {0, 1}, {0, 1}}},
		{"the example before its end", moves(tell(0), come(0, 1), tell(1), come(1, 2)), [][]int{{0}, {0, 1}, {}}},
		{"in the other order", moves(tell(0), come(0, 1), tell(1), come(0, 2), come(1, 2)), [][]int{{0}, {0, 1}, {0, 1}}},
		{"arrival after the broadcast", moves(tell(0), tell(1), come(0, 1), come(1, 2)), [][]int{{0}, {1, 0}, {1}}},
		{"independent messages as they come", moves(tell(0), tell(1), come(1, 2), come(0, 2)), [][]int{{0}, {1}, {1, 0}}},
		{"depends on its sender's messages", moves(tell(0), tell(0), come(1, 1)), [][]int{{0, 1}, {}, {}}},
		{"its sender's messages in order", moves(tell(0), tell(0), tell(0), come(2, 1), come(1, 1), come(0, 1)),
			[][]int{{0, 1, 2}, {0, 1, 2}, {}}},
		{"up to a gap", moves(tell(0), tell(0), tell(0), tell(0), come(3, 1), come(1, 1), come(0, 1)),
			[][]int{{0, 1, 2, 3}, {0, 1}, {}}},
		{"a waiting message is not depended on",
			moves(tell(0), tell(0), come(1, 1), tell(1), come(2, 2)), [][]int{{0, 1}, {2}, {2}}},
		{"a waiting message is depended on once it is delivered",
			moves(tell(0), tell(0), come(1, 1), come(0, 1), tell(1), come(0, 2), come(2, 2)), [][]int{{0, 1}, {0, 1, 2}, {0}}},
		{"depends on one's own message",
			moves(tell(2), come(0, 1), tell(1), come(1, 2)), [][]int{{}, {0, 1}, {0, 1}}},
		{"depends on a message by way of another one",
			moves(tell(0), come(0, 1), tell(1), come(0, 2), come(1, 2), tell(2), come(2, 0), come(1, 0)),
			[][]int{{0, 1, 2}, {0, 1}, {0, 1, 2}}},
		{"a sender waits behind its own message",
			moves(tell(0), come(0, 1), tell(1), come(1, 2), tell(2), come(0, 2)), [][]int{{0}, {0, 1}, {2, 0, 1}}},
		{"the smallest of several", moves(tell(0), come(0, 1), tell(1), tell(0), come(1, 2), come(2, 2), come(0, 2)),
			[][]int{{0, 2}, {0, 1}, {0, 1, 2}}},
		{"the smallest of several, in the other order",
			moves(tell(0), come(0, 1), tell(1), tell(0), come(2, 2), come(1, 2), come(0, 2)),
			[][]int{{0, 2}, {0, 1}, {0, 1, 2}}},
		// Message 2 becomes deliverable only when message 1 is delivered, and is
		// then smaller than message 3, which was deliverable before.
		{"evaluated again", moves(tell(0), come(0, 1), tell(1), tell(1), tell(0), come(3, 2), come(2, 2), come(1, 2), come(0, 2)),
			[][]int{{0, 3}, {0, 1, 2}, {0, 1, 2, 3}}},
	} {
		want := api.Heard{Codes: make([]api.Errno, len(c.script)), Told: c.want}
		if h, code := Play(3, c.script); !same(h, want) || code != api.OK {
			t.Errorf("%s: %v, %d, want %v", c.name, h, code, want)
		}
	}
}

// TestRejectedChangesNothing: with rejected operations in between, the other
// operations have the same results.
func TestRejectedChangesNothing(t *testing.T) {
	script := moves(tell(0), come(0, 1), tell(1), come(1, 2), tell(0), come(2, 2), come(0, 2))
	plain, _ := Play(3, script)
	var mixed []api.Move
	var want []api.Errno
	for _, m := range script {
		mixed = append(mixed, m, api.Move{Kind: 3}, tell(3), come(0, -1), come(3, 1), come(-1, 2), come(0, 0))
		want = append(want, api.OK, api.ErrKind, api.ErrArg, api.ErrArg, api.ErrRange, api.ErrRange, api.ErrHold)
	}
	mixed = append(mixed, come(1, 1), come(1, 2), come(2, 2))
	want = append(want, api.ErrHold, api.ErrHold, api.ErrHold)
	plain.Codes = want
	if h, code := Play(3, mixed); !same(h, plain) || code != api.OK {
		t.Errorf("%v, %d, want %v", h, code, plain)
	}
}

// TestArgumentsStay: the script is not modified, what lies beyond its length
// is neither read nor written, and results are new memory.
func TestArgumentsStay(t *testing.T) {
	whole := func() []api.Move { return moves(tell(0), tell(0), come(0, 1), come(1, 1), tell(1)) }
	want := api.Heard{Codes: make([]api.Errno, 4), Told: [][]int{{0, 1}, {0, 1}}}
	script := whole()
	for range 2 {
		h, code := Play(2, script[:4])
		if !same(h, want) || code != api.OK {
			t.Errorf("%v, %d, want %v", h, code, want)
		}
		h.Codes[0] = api.ErrOld
		// Writing to one list, even beyond its length, leaves the others alone.
		for i, list := range h.Told {
			list = list[:cap(list)]
			for k := range list {
				list[k] = -1 - i
			}
		}
		for i, list := range h.Told {
			if !slices.Equal(list, []int{-1 - i, -1 - i}) {
				t.Errorf("list %d shares memory: %v", i, h.Told)
			}
		}
	}
	if !slices.Equal(script, whole()) {
		t.Error("the script was modified:", script)
	}
}

// clocks plays scripts with vectors: a message carries how many messages of
// each sender had been delivered to its sender, and a process waits until it
// has as many.
type clocks struct {
	had     [][]int        // of each process, how many of each sender
	senders []int          // of each message
	carried [][]int        // of each message
	waiting []map[int]bool // of each process
	arrived map[[2]int]bool
	heard   api.Heard
}

func byClocks(n int, script []api.Move) api.Heard {
	c := &clocks{had: make([][]int, n), waiting: make([]map[int]bool, n), arrived: map[[2]int]bool{}}
	c.heard.Told = make([][]int, n)
	for proc := range n {
		c.had[proc] = make([]int, n)
		c.waiting[proc] = map[int]bool{}
	}
	for _, m := range script {
		c.heard.Codes = append(c.heard.Codes, c.play(m))
	}
	return c.heard
}

func (c *clocks) play(m api.Move) api.Errno {
	if m.Kind == api.PTell {
		number := len(c.senders)
		c.senders = append(c.senders, m.From)
		c.carried = append(c.carried, slices.Clone(c.had[m.From]))
		c.arrived[[2]int{number, m.From}] = true
		c.hear(number, m.From)
		return api.OK
	}
	if m.Val < 0 || m.Val >= len(c.senders) {
		return api.ErrRange
	}
	if c.arrived[[2]int{m.Val, m.To}] {
		return api.ErrHold
	}
	c.arrived[[2]int{m.Val, m.To}] = true
	c.waiting[m.To][m.Val] = true
	for number := 0; number < len(c.senders); number++ {
		if c.waiting[m.To][number] && c.enough(number, m.To) {
			delete(c.waiting[m.To], number)
			c.hear(number, m.To)
			number = -1
		}
	}
	return api.OK
}

func (c *clocks) hear(number, proc int) {
	c.had[proc][c.senders[number]]++
	c.heard.Told[proc] = append(c.heard.Told[proc], number)
}

func (c *clocks) enough(number, proc int) bool {
	for sender, count := range c.carried[number] {
		if c.had[proc][sender] < count {
			return false
		}
	}
	return true
}

// compare holds Play against the clocks, and returns its result.
func compare(t *testing.T, n int, script []api.Move) api.Heard {
	t.Helper()
	want := byClocks(n, script)
	h, code := Play(n, script)
	if !same(h, want) || code != api.OK {
		t.Fatalf("%d processes, %v: %v, %d, want %v", n, script, h, code, want)
	}
	return h
}

// TestSmallScripts compares all scripts of three processes that broadcast
// three messages and have up to four arrivals.
func TestSmallScripts(t *testing.T) {
	overtaken := 0
	var extend func([]api.Move, int)
	extend = func(script []api.Move, told int) {
		for _, list := range compare(t, 3, script).Told {
			if !slices.IsSorted(list) {
				overtaken++
				break
			}
		}
		if told < 3 {
			for from := range 3 {
				extend(append(slices.Clone(script), tell(from)), told+1)
			}
		}
		if len(script)-told < 4 {
			for val := range told {
				for to := range 3 {
					extend(append(slices.Clone(script), come(val, to)), told)
				}
			}
		}
	}
	extend(nil, 0)
	if overtaken < 100 {
		t.Errorf("only %d scripts with another order than that of the numbers", overtaken)
	}
}

// scatter returns a script of operations with valid processes, and some
// messages that there are not.
func scatter(r *rand.Rand, n int) []api.Move {
	script := make([]api.Move, 0, api.MaxMoves)
	told := 0
	for range r.Intn(api.MaxMoves + 1) {
		if r.Intn(5) == 0 {
			script = append(script, tell(r.Intn(n)))
			told++
		} else {
			script = append(script, come(r.Intn(told+2)-r.Intn(2), r.Intn(n)))
		}
	}
	return script
}

// TestLargeScripts: arrivals in disorder, where many messages wait.
func TestLargeScripts(t *testing.T) {
	r := rand.New(rand.NewSource(6))
	waited, confirmed := 0, 0
	for range 5000 {
		n := 1 + r.Intn(api.MaxProc)
		script := scatter(r, n)
		h := compare(t, n, script)
		if waits(script, h) > 2 {
			waited++
		}
		if inOrder(t, n, script, h) {
			confirmed++
		}
	}
	if waited < 500 || confirmed < 200 {
		t.Errorf("%d scripts with waiting messages, %d confirmed", waited, confirmed)
	}
}

// waits returns how many messages have arrived and are still not delivered.
func waits(script []api.Move, h api.Heard) int {
	count := 0
	for i, m := range script {
		if h.Codes[i] == api.OK && m.Kind == api.PCome && !slices.Contains(h.Told[m.To], m.Val) {
			count++
		}
	}
	return count
}

// inOrder holds the order of delivery against package run: a message whose
// broadcast happens before that of another one is delivered before it. It
// reports whether package run could be asked, and had pairs to tell of.
func inOrder(t *testing.T, n int, script []api.Move, h api.Heard) bool {
	t.Helper()
	events, sends := execution(n, script, h)
	if len(events) > api.MaxEvents || run.Check(n, events) != api.OK {
		return false
	}
	pairs := 0
	for a := range sends {
		for b := range sends {
			ahead, code := run.Ahead(n, events, sends[a], sends[b])
			if code != api.OK {
				t.Fatalf("%v: %d", events, code)
			}
			if !ahead {
				continue
			}
			for proc, list := range h.Told {
				first, second := slices.Index(list, a), slices.Index(list, b)
				if second >= 0 && (first < 0 || first > second) {
					t.Fatalf("%v: process %d: %v, want %d before %d", script, proc, list, a, b)
				}
				if second >= 0 {
					pairs++
				}
			}
		}
	}
	return pairs > 0
}

// execution returns the broadcasts and deliveries as an execution of package
// run, in which a broadcast is a local event and a send to each process to
// which it is delivered, and the position of the local event of each message.
func execution(n int, script []api.Move, h api.Heard) ([]api.Event, []int) {
	var events []api.Event
	var sends []int
	had := make([]int, n)
	for i, m := range script {
		if h.Codes[i] != api.OK {
			continue
		}
		if m.Kind == api.PTell {
			number := len(sends)
			sends = append(sends, len(events))
			events = append(events, api.Event{Proc: m.From, Kind: api.ELocal})
			for proc, list := range h.Told {
				if proc != m.From && slices.Contains(list, number) {
					events = append(events, api.Event{Proc: m.From, Kind: api.ESend, Msg: number*n + proc})
				}
			}
		}
		// What the first operations deliver is what a script of them delivers.
		so, _ := Play(n, script[:i+1])
		for proc, list := range so.Told {
			for _, number := range list[had[proc]:] {
				if m.Kind == api.PCome {
					events = append(events, api.Event{Proc: proc, Kind: api.ETake, Msg: number*n + proc})
				}
			}
			had[proc] = len(list)
		}
	}
	return events, sends
}
