package turn

import (
	"cmp"
	"math"
	"math/bits"
	"math/rand"
	"slices"
	"testing"

	"beaconry/api"
)

func want(from int) api.Move     { return api.Move{Kind: api.WWant, From: from} }
func come(from, to int) api.Move { return api.Move{Kind: api.WCome, From: from, To: to} }
func leave(from int) api.Move    { return api.Move{Kind: api.WLeave, From: from} }

// enters returns the operations by which a process requests and all others
// receive the request and reply, so that it enters if nobody defers.
func enters(n, proc int) []api.Move {
	l := []api.Move{want(proc)}
	for other := range n {
		if other != proc {
			l = append(l, come(proc, other), come(other, proc))
		}
	}
	return l
}

// empty reports whether a result is the zero value, with nil and empty lists
// alike.
func empty(r api.Turns) bool { return same(r, api.Turns{}) }

// same reports whether two results are equal, with nil and empty lists alike.
func same(a, b api.Turns) bool {
	return slices.Equal(a.Codes, b.Codes) && a.In == b.In && a.Want == b.Want && a.Way == b.Way
}

func TestErrors(t *testing.T) {
	many := slices.Repeat([]api.Move{want(0)}, api.MaxMoves+1)
	for _, c := range []struct {
		name   string
		n      int
		script []api.Move
	}{
		{"no process", 0, nil},
		{"fewer than no process", -1, []api.Move{want(0)}},
		{"least n", math.MinInt, nil},
		{"one process too many", api.MaxProc + 1, []api.Move{want(0)}},
		{"greatest n", math.MaxInt, nil},
		{"one operation too many", 1, many},
		{"many operations", api.MaxProc, slices.Repeat(many, 20)},
		{"many invalid operations", 2, make([]api.Move, api.MaxMoves+1)},
		{"both", 0, many},
	} {
		if r, code := Play(c.n, c.script); !empty(r) || code != api.ErrLarge {
			t.Errorf("%s: %v, %d", c.name, r, code)
		}
	}
}

// TestLimits: the greatest n and the longest script are valid.
func TestLimits(t *testing.T) {
	for n := 1; n <= api.MaxProc; n++ {
		for _, length := range []int{0, 1, api.MaxMoves - 1, api.MaxMoves} {
			expected := api.Turns{Codes: slices.Repeat([]api.Errno{api.ErrKind}, length)}
			if r, code := Play(n, make([]api.Move, length)); !same(r, expected) || code != api.OK {
				t.Errorf("%d processes, %d operations: %v, %d", n, length, r, code)
			}
		}
	}
}

// TestCodes: the code of the last operation of each script of three processes,
// when all before it are valid.
func TestCodes(t *testing.T) {
	for _, c := range []struct {
		name   string
		script []api.Move
		want   api.Errno
	}{
		{"kind 0", []api.Move{{To: 1}}, api.ErrKind},
		{"kind 4", []api.Move{{Kind: api.WLeave + 1, To: 1}}, api.ErrKind},
		{"kind below 0", []api.Move{{Kind: -1, To: 1}}, api.ErrKind},
		{"least kind", []api.Move{{Kind: math.MinInt, To: 1}}, api.ErrKind},
		{"greatest kind", []api.Move{{Kind: math.MaxInt, To: 1}}, api.ErrKind},
		{"ErrKind before ErrArg", []api.Move{{Kind: 4, From: -1, To: 9}}, api.ErrKind},

		{"request of below 0", []api.Move{want(-1)}, api.ErrArg},
		{"request of n", []api.Move{want(3)}, api.ErrArg},
		{"request of the least", []api.Move{want(math.MinInt)}, api.ErrArg},
		{"request of the greatest", []api.Move{want(math.MaxInt)}, api.ErrArg},
		{"receipt from below 0", []api.Move{come(-1, 1)}, api.ErrArg},
		{"receipt from n", []api.Move{come(3, 1)}, api.ErrArg},
		{"receipt from the least", []api.Move{come(math.MinInt, 1)}, api.ErrArg},
		{"receipt from the greatest", []api.Move{come(math.MaxInt, 1)}, api.ErrArg},
		{"receipt by below 0", []api.Move{come(0, -1)}, api.ErrArg},
		{"receipt by n", []api.Move{come(0, 3)}, api.ErrArg},
		{"receipt by the least", []api.Move{come(0, math.MinInt)}, api.ErrArg},
		{"receipt by the greatest", []api.Move{come(0, math.MaxInt)}, api.ErrArg},
		{"receipt from oneself", []api.Move{come(0, 0)}, api.ErrArg},
		{"receipt from oneself after a request", []api.Move{want(2), come(2, 2)}, api.ErrArg},
		{"leave of below 0", []api.Move{leave(-1)}, api.ErrArg},
		{"leave of n", []api.Move{leave(3)}, api.ErrArg},
		{"leave of the least", []api.Move{leave(math.MinInt)}, api.ErrArg},
		{"leave of the greatest", []api.Move{leave(math.MaxInt)}, api.ErrArg},

		{"request", []api.Move{want(0)}, api.OK},
		{"request of the last one", []api.Move{want(2)}, api.OK},
		{"request twice", []api.Move{want(0), want(0)}, api.ErrHold},
		{"two request", []api.Move{want(0), want(1)}, api.OK},
		{"request after one reply", []api.Move{want(0), come(0, 1), come(1, 0), want(0)}, api.ErrHold},
		{"request inside", append(enters(3, 0), want(0)), api.ErrHold},
		{"request of another one", append(enters(3, 0), want(1)), api.OK},
		{"request after leaving", append(enters(3, 0), leave(0), want(0)), api.OK},
		{"request twice after leaving", append(enters(3, 0), leave(0), want(0), want(0)), api.ErrHold},
		{"request of one that replied", []api.Move{want(0), come(0, 1), want(1)}, api.OK},

		{"receipt of nothing", []api.Move{come(0, 1)}, api.ErrNone},
		{"receipt of a request", []api.Move{want(0), come(0, 1)}, api.OK},
		{"receipt of a request by another one", []api.Move{want(0), come(0, 2)}, api.OK},
		{"receipt of a request twice", []api.Move{want(0), come(0, 1), come(0, 1)}, api.ErrNone},
		{"receipt in the other direction", []api.Move{want(0), come(1, 0)}, api.ErrNone},
		{"receipt between others", []api.Move{want(0), come(1, 2)}, api.ErrNone},
		{"receipt of a reply", []api.Move{want(0), come(0, 1), come(1, 0)}, api.OK},
		{"receipt of a reply twice", []api.Move{want(0), come(0, 1), come(1, 0), come(1, 0)}, api.ErrNone},
		{"receipt of a reply by another one", []api.Move{want(0), come(0, 1), come(1, 2)}, api.ErrNone},
		{"receipt of a reply of another one", []api.Move{want(0), come(0, 1), come(2, 0)}, api.ErrNone},
		{"receipt of a request and a reply", []api.Move{want(1), want(2), come(2, 1), come(1, 2), come(2, 1), come(1, 2)}, api.ErrNone},
		{"receipt of a reply and a request", []api.Move{want(0), come(0, 1), want(1), come(1, 0), come(1, 0)}, api.OK},
		{"receipt of a deferred reply", []api.Move{want(0), want(1), come(1, 0), come(0, 1), come(0, 1)}, api.ErrNone},
		{"receipt of a reply after leaving", append(enters(3, 0), want(1), come(1, 0), leave(0), come(0, 1)), api.OK},
		{"receipt of a reply to another one after leaving", append(enters(3, 0), want(1), come(1, 0), leave(0), come(0, 2)), api.ErrNone},
		{"receipt of a reply twice after leaving", append(enters(3, 0), want(1), come(1, 0), leave(0), come(0, 1), come(0, 1)), api.ErrNone},
		{"receipt inside", append(enters(3, 0), come(1, 0)), api.ErrNone},
		{"receipt of a request inside", append(enters(3, 0), want(1), come(1, 0)), api.OK},

		{"leave at first", []api.Move{leave(0)}, api.ErrHold},
		{"leave while requesting", []api.Move{want(0), leave(0)}, api.ErrHold},
		{"leave after one reply", []api.Move{want(0), come(0, 1), come(1, 0), leave(0)}, api.ErrHold},
		{"leave after all replies", append(enters(3, 0), leave(0)), api.OK},
		{"leave after all replies, the last process", append(enters(3, 2), leave(2)), api.OK},
		{"leave of another one", append(enters(3, 0), leave(1)), api.ErrHold},
		{"leave twice", append(enters(3, 0), leave(0), leave(0)), api.ErrHold},
		{"leave again after entering again", slices.Concat(enters(3, 0), []api.Move{leave(0)}, enters(3, 0), []api.Move{leave(0)}), api.OK},
		{"the replies of the first time are not enough", append(enters(3, 0), leave(0), want(0), leave(0)), api.ErrHold},

		{"a request ignores To and Val", []api.Move{{Kind: api.WWant, From: 1, To: -7, Val: math.MinInt}}, api.OK},
		{"a request ignores To that is From", []api.Move{{Kind: api.WWant, From: 1, To: 1}}, api.OK},
		{"a receipt ignores Val", []api.Move{want(0), {Kind: api.WCome, To: 1, Val: 9}}, api.OK},
		{"a leave ignores To and Val", append(enters(3, 1), api.Move{Kind: api.WLeave, From: 1, To: 9, Val: -9}), api.OK},
		{"a leave ignores To that is From", append(enters(3, 1), api.Move{Kind: api.WLeave, From: 1, To: 1}), api.OK},
	} {
		codes := make([]api.Errno, len(c.script))
		codes[len(codes)-1] = c.want
		if r, code := Play(3, c.script); !slices.Equal(r.Codes, codes) || code != api.OK {
			t.Errorf("%s: %v, %d, want %v", c.name, r.Codes, code, codes)
		}
	}
}

// TestResults: what is the case after scripts without rejected operations.
func TestResults(t *testing.T) {
	for _, c := range []struct {
		name     string
		n        int
		script   []api.Move
		in, want uint32
		way      int
	}{
		{"nothing, one process", 1, nil, 0, 0, 0},
		{"nothing, all processes", api.MaxProc, nil, 0, 0, 0},
		{"one process enters at once", 1, []api.Move{want(0)}, 1, 0, 0},
		{"one process leaves", 1, []api.Move{want(0), leave(0)}, 0, 0, 0},
		{"one process enters again", 1, []api.Move{want(0), leave(0), want(0)}, 1, 0, 0},
		{"a request", 2, []api.Move{want(0)}, 0, 1, 1},
		{"a request to many", api.MaxProc, []api.Move{want(3)}, 0, 8, api.MaxProc - 1},
		{"all request", api.MaxProc, []api.Move{want(0), want(1), want(2), want(3), want(4), want(5)}, 0, 63, 30},
		{"a reply is on the way", 2, []api.Move{want(0), come(0, 1)}, 0, 1, 1},
		{"the example", 2, []api.Move{want(0), come(0, 1), come(1, 0)}, 1, 0, 0},
		{"the other one", 2, []api.Move{want(1), come(1, 0), come(0, 1)}, 2, 0, 0},
		{"one of two replies", 3, []api.Move{want(0), come(0, 1), come(1, 0)}, 0, 1, 1},
		{"two of two replies", 3, enters(3, 0), 1, 0, 0},
		{"all replies", api.MaxProc, enters(api.MaxProc, 5), 32, 0, 0},

		{"a request comes inside", 2, append(enters(2, 0), want(1), come(1, 0)), 1, 2, 0},
		{"the deferred reply is sent", 2, append(enters(2, 0), want(1), come(1, 0), leave(0)), 0, 2, 1},
		{"the deferred reply comes", 2, append(enters(2, 0), want(1), come(1, 0), leave(0), come(0, 1)), 2, 0, 0},
		{"a request comes after leaving", 2, append(enters(2, 0), want(1), leave(0), come(1, 0)), 0, 2, 1},
		{"no reply is owed any more", 2,
			slices.Concat(enters(2, 0), []api.Move{want(1), come(1, 0), leave(0), come(0, 1), leave(1)}, enters(2, 0), []api.Move{leave(0)}), 0, 0, 0},
		{"two deferred replies", 3, append(enters(3, 0), want(1), want(2), come(1, 0), come(2, 0), leave(0)), 0, 6, 4},

		{"equal numbers, the smaller process defers", 2, []api.Move{want(0), want(1), come(1, 0)}, 0, 3, 1},
		{"equal numbers, the greater process replies", 2, []api.Move{want(0), want(1), come(0, 1)}, 0, 3, 2},
		{"equal numbers, the smaller process enters", 2,
			[]api.Move{want(1), want(0), come(1, 0), come(0, 1), come(1, 0)}, 1, 2, 0},
		{"equal numbers, the greater process enters next", 2,
			[]api.Move{want(1), want(0), come(1, 0), come(0, 1), come(1, 0), leave(0), come(0, 1)}, 2, 0, 0},
		{"equal numbers of processes 1 and 2", 3, []api.Move{want(1), want(2), come(1, 2), come(2, 1)}, 0, 6, 3},

		{"a smaller number of a greater process defers", 3,
			[]api.Move{want(2), come(2, 0), want(0), want(1), come(0, 1)}, 0, 7, 5},
		{"a greater number of a smaller process replies", 3,
			[]api.Move{want(2), come(2, 0), want(0), want(1), come(1, 0)}, 0, 7, 6},
		{"a request sets the clock of one that wants nothing", 2,
			append(enters(2, 0), leave(0), want(1), want(0), come(1, 0)), 0, 3, 1},
		{"and so the number of its next request", 2,
			append(enters(2, 0), leave(0), want(1), want(0), come(1, 0), come(0, 1), come(1, 0)), 1, 2, 0},
		{"a request sets the clock of one that is requesting", 3, []api.Move{
			// Process 0 enters with the number 1 and owes a reply to process
			// 1 with the number 2, so that its next number is 3.
			want(2), come(2, 1), want(1), want(0), come(1, 0), come(2, 0), come(0, 2), come(0, 1), come(2, 0), come(1, 0),
			leave(0), want(0), come(0, 1), come(0, 1)}, 0, 7, 4},
		{"a request sets the clock of one that is inside", 3,
			append(enters(3, 1), want(2), come(2, 1), leave(1), want(1), come(1, 2), come(1, 2)), 0, 6, 2},
		{"a smaller number does not set the clock back", 4, []api.Move{
			// Process 0 receives the numbers 2 and 1, so that its own is 3.
			want(3), come(3, 2), want(2), want(1), come(2, 0), come(1, 0), want(0), come(0, 2), come(0, 2)}, 0, 15, 10},
		{"one who waits for the inside one replies", 3,
			append(enters(3, 0), want(1), want(2), come(1, 2), come(2, 1), come(1, 0), come(2, 0), come(2, 1)), 1, 6, 0},
	} {
		expected := api.Turns{Codes: make([]api.Errno, len(c.script)), In: c.in, Want: c.want, Way: c.way}
		if r, code := Play(c.n, c.script); !same(r, expected) || code != api.OK {
			t.Errorf("%s: %v, %d, want %v", c.name, r, code, expected)
		}
	}
}

// TestClocks: the clocks, and the numbers of requests in transit, after scripts
// of three processes without rejected operations.
func TestClocks(t *testing.T) {
	for _, c := range []struct {
		name   string
		script []api.Move
		clocks []int
	}{
		{"nothing", nil, []int{0, 0, 0}},
		{"a request increments", []api.Move{want(1)}, []int{0, 1, 0}},
		{"the receipt of a request", []api.Move{want(1), come(1, 0)}, []int{1, 1, 0}},
		{"the receipt of a reply", []api.Move{want(1), come(1, 0), come(0, 1)}, []int{1, 1, 0}},
		{"leaving", append(enters(3, 1), leave(1)), []int{1, 1, 1}},
		{"the next request", append(enters(3, 1), leave(1), want(1)), []int{1, 2, 1}},
		{"of another one", append(enters(3, 1), leave(1), want(2)), []int{1, 1, 2}},
		{"a deferred request", append(enters(3, 1), want(2), come(2, 1)), []int{1, 2, 2}},
		{"a smaller number", append(enters(3, 0), leave(0), want(0), come(0, 2), want(1), come(1, 2)), []int{2, 2, 2}},
		{"much smaller numbers", []api.Move{want(2), come(2, 0), want(0), come(0, 1), want(1),
			come(1, 2), come(2, 1), come(0, 2), come(0, 2)}, []int{2, 3, 3}},
		{"a rejected request", []api.Move{want(0), want(0)}, []int{1, 0, 0}},
	} {
		s := start(3)
		for _, m := range c.script {
			s.execute(m)
		}
		for proc, p := range s.processes {
			if p.clock != c.clocks[proc] {
				t.Errorf("%s: clock of process %d: %d, want %d", c.name, proc, p.clock, c.clocks[proc])
			}
		}
	}
}

// letter is a message of the history: number 0 is a reply.
type letter struct {
	from, to, number int
	taken            bool
}

// history is all messages in the order in which they were sent, and for each
// process how many there were when it requested last (below 0: it has not, or
// it has left since).
type history struct {
	letters []letter
	since   []int
}

// transit returns the positions of the messages from one process to another one
// that are in transit.
func (h *history) transit(from, to int) []int {
	var l []int
	for i, m := range h.letters {
		if m.from == from && m.to == to && !m.taken {
			l = append(l, i)
		}
	}
	return l
}

// seen returns the greatest number of a request that a process has sent or
// received.
func (h *history) seen(proc int) int {
	most := 0
	for _, m := range h.letters {
		if m.from == proc || m.to == proc && m.taken {
			most = max(most, m.number)
		}
	}
	return most
}

// replied returns how many processes' replies a process has received since its
// request.
func (h *history) replied(proc int) int {
	senders := map[int]bool{}
	for i, m := range h.letters {
		if m.to == proc && m.taken && m.number == 0 && i >= h.since[proc] {
			senders[m.from] = true
		}
	}
	return len(senders)
}

func (h *history) inside(proc int) bool {
	return h.since[proc] >= 0 && h.replied(proc) == len(h.since)-1
}

func (h *history) requesting(proc int) bool {
	return h.since[proc] >= 0 && !h.inside(proc)
}

// number returns the number of the current request of a process among several.
func (h *history) number(proc int) int { return h.letters[h.since[proc]].number }

// owes reports whether a process has received more requests of another one than
// it has sent replies.
func (h *history) owes(proc, other int) bool {
	balance := 0
	for _, m := range h.letters {
		if m.from == other && m.to == proc && m.number > 0 && m.taken {
			balance++
		}
		if m.from == proc && m.to == other && m.number == 0 {
			balance--
		}
	}
	return balance > 0
}

// settle sends the replies that a process owes and need not defer.
func (h *history) settle(proc int) {
	for other := range h.since {
		if !h.owes(proc, other) || h.inside(proc) {
			continue
		}
		if h.requesting(proc) {
			own, theirs := [2]int{h.number(proc), proc}, [2]int{h.number(other), other}
			if slices.Compare(own[:], theirs[:]) < 0 {
				continue
			}
		}
		h.letters = append(h.letters, letter{from: proc, to: other})
	}
}

// judge returns the code of an operation.
func (h *history) judge(m api.Move) api.Errno {
	outside := func(proc int) bool { return proc < 0 || proc >= len(h.since) }
	switch {
	case m.Kind != api.WWant && m.Kind != api.WCome && m.Kind != api.WLeave:
		return api.ErrKind
	case outside(m.From), m.Kind == api.WCome && (outside(m.To) || m.From == m.To):
		return api.ErrArg
	case m.Kind == api.WCome && len(h.transit(m.From, m.To)) == 0:
		return api.ErrNone
	case m.Kind == api.WWant && h.since[m.From] >= 0, m.Kind == api.WLeave && !h.inside(m.From):
		return api.ErrHold
	}
	return api.OK
}

// accept executes an operation whose code is OK.
func (h *history) accept(m api.Move) {
	switch m.Kind {
	case api.WWant:
		number := h.seen(m.From) + 1
		h.since[m.From] = len(h.letters)
		for to := range h.since {
			if to != m.From {
				h.letters = append(h.letters, letter{from: m.From, to: to, number: number})
			}
		}
	case api.WCome:
		h.letters[h.transit(m.From, m.To)[0]].taken = true
		h.settle(m.To)
	case api.WLeave:
		h.since[m.From] = -1
		h.settle(m.From)
	}
}

// result returns what is the case after all operations, without their codes.
func (h *history) result() api.Turns {
	var r api.Turns
	for proc := range h.since {
		if h.inside(proc) {
			r.In += 1 << proc
		}
		if h.requesting(proc) {
			r.Want += 1 << proc
		}
		for to := range h.since {
			r.Way += len(h.transit(proc, to))
		}
	}
	return r
}

// begin returns the empty history of n processes.
func begin(n int) *history { return &history{since: slices.Repeat([]int{-1}, n)} }

// expect returns what Play should, from the history of all messages.
func expect(n int, script []api.Move) api.Turns {
	h := begin(n)
	var codes []api.Errno
	for _, m := range script {
		code := h.judge(m)
		if code == api.OK {
			h.accept(m)
		}
		codes = append(codes, code)
	}
	r := h.result()
	r.Codes = codes
	return r
}

// compare holds Play against the history, checks that at most one process is
// in the critical section, and returns the result.
func compare(t *testing.T, n int, script []api.Move) api.Turns {
	t.Helper()
	expected := expect(n, script)
	r, code := Play(n, script)
	if !same(r, expected) || code != api.OK {
		t.Fatalf("%d processes, %v: %v, %d, want %v", n, script, r, code, expected)
	}
	if bits.OnesCount32(r.In) > 1 || r.In&r.Want != 0 {
		t.Fatalf("%d processes, %v: %b are inside, %b are requesting", n, script, r.In, r.Want)
	}
	return r
}

// moves returns all operations of n processes with valid processes.
func moves(n int) []api.Move {
	var l []api.Move
	for from := range n {
		l = append(l, want(from), leave(from))
		for to := range n {
			if to != from {
				l = append(l, come(from, to))
			}
		}
	}
	return l
}

// TestSmallScripts compares all scripts without rejected operations of up to
// three processes, up to a length for each number of processes, and each of
// them with one more operation, which may be rejected.
func TestSmallScripts(t *testing.T) {
	lengths := []int{0, 6, 11, 6}
	for n := 1; n <= 3; n++ {
		var extend func([]api.Move)
		extend = func(script []api.Move) {
			if len(script) == lengths[n] {
				return
			}
			for _, m := range moves(n) {
				longer := append(slices.Clone(script), m)
				if r := compare(t, n, longer); r.Codes[len(script)] == api.OK {
					extend(longer)
				}
			}
		}
		extend(nil)
	}
}

// scatter returns a script of random operations. Most of them are accepted, and
// some processes request rarely.
func scatter(r *rand.Rand, n, length int) []api.Move {
	lazy := make([]int, n)
	for proc := range lazy {
		lazy[proc] = 1 + r.Intn(12)
	}
	h := begin(n)
	var script []api.Move
	for len(script) < length {
		from := r.Intn(n)
		m := api.Move{Kind: 1 + r.Intn(3), From: from, To: (from + 1 + r.Intn(max(n-1, 1))) % n}
		if m.Kind == api.WWant && r.Intn(lazy[from]) > 0 {
			continue
		}
		if h.judge(m) == api.OK {
			h.accept(m)
		} else if r.Intn(30) > 0 {
			continue
		}
		script = append(script, m)
	}
	return script
}

// TestLargeScripts compares random scripts of all numbers of processes.
func TestLargeScripts(t *testing.T) {
	r := rand.New(rand.NewSource(10))
	inside, waiting, quiet := 0, 0, 0
	for range 5000 {
		n := 1 + r.Intn(api.MaxProc)
		switch result := compare(t, n, scatter(r, n, r.Intn(api.MaxMoves+1))); {
		case n > 2 && result.In != 0 && result.Want != 0:
			inside++
		case n > 2 && bits.OnesCount32(result.Want) > 1:
			waiting++
		case n > 2 && result.Want == 0 && result.Way == 0:
			quiet++
		}
	}
	if inside < 100 || waiting < 100 || quiet < 100 {
		t.Errorf("inside while others wait: %d, several wait: %d, nobody waits: %d", inside, waiting, quiet)
	}
}

// TestOrder: processes enter in the order of the numbers of their requests, and
// of the processes if the numbers are equal, whatever the script.
func TestOrder(t *testing.T) {
	r := rand.New(rand.NewSource(100))
	entered, equal := 0, 0
	for range 2000 {
		n := 2 + r.Intn(api.MaxProc-1)
		s := start(n)
		var last [2]int
		for _, m := range scatter(r, n, api.MaxMoves) {
			before := s.in()
			s.execute(m)
			if s.in() == 0 || s.in() == before {
				continue
			}
			proc := bits.TrailingZeros32(s.in())
			now := [2]int{s.processes[proc].number, proc}
			if cmp.Or(cmp.Compare(last[0], now[0]), cmp.Compare(last[1], now[1])) >= 0 {
				t.Fatalf("request %d of process %d after request %d of process %d", now[0], now[1], last[0], last[1])
			}
			entered++
			if now[0] == last[0] {
				equal++
			}
			last = now
		}
	}
	if entered < 1000 || equal < 100 {
		t.Errorf("%d entered, %d of them with the number of the one before", entered, equal)
	}
}

// TestEnd: if nobody requests any more, messages are received in any order and
// whoever enters leaves, all that were requesting enter, one after the other,
// and each request costs two messages for each other process.
func TestEnd(t *testing.T) {
	r := rand.New(rand.NewSource(1000))
	for range 2000 {
		n := 1 + r.Intn(api.MaxProc)
		s := start(n)
		requests, received, entered := 0, 0, 0
		execute := func(m api.Move) {
			before := s.in()
			if s.execute(m) != api.OK {
				return
			}
			switch m.Kind {
			case api.WWant:
				requests++
			case api.WCome:
				received++
			}
			if before == 0 && s.in() != 0 {
				entered++
			}
		}
		for _, m := range scatter(r, n, r.Intn(40)) {
			execute(m)
		}
		rest := slices.DeleteFunc(moves(n), func(m api.Move) bool { return m.Kind == api.WWant })
		for range 2 * n * n {
			r.Shuffle(len(rest), func(i, j int) { rest[i], rest[j] = rest[j], rest[i] })
			for _, m := range rest {
				execute(m)
			}
		}
		if s.in() != 0 || s.want() != 0 || s.way() != 0 || entered != requests || received != 2*(n-1)*requests {
			t.Fatalf("%d processes, %d requests: %d entered, %d messages, %b inside, %b requesting, %d in transit",
				n, requests, entered, received, s.in(), s.want(), s.way())
		}
	}
}

// TestRejectedChangesNothing: with rejected operations in between, the other
// operations have the same results.
func TestRejectedChangesNothing(t *testing.T) {
	for _, script := range [][]api.Move{
		append(enters(3, 0), leave(0)),
		append(enters(3, 0), want(2), come(2, 0)),
		{want(1), want(0), come(1, 0), come(0, 1), come(1, 0)},
	} {
		for at := range len(script) + 1 {
			h := begin(3)
			for _, m := range script[:at] {
				h.accept(m)
			}
			rejected := []api.Move{{Kind: 9, To: 1}, want(3), come(0, 0), come(0, 7), leave(-1)}
			for _, m := range moves(3) {
				if h.judge(m) != api.OK {
					rejected = append(rejected, m)
				}
			}
			plain, _ := Play(3, script)
			r, code := Play(3, slices.Concat(script[:at], rejected, script[at:]))
			for i, c := range r.Codes {
				if (c == api.OK) != (i < at || i >= at+len(rejected)) {
					t.Errorf("%v, others at %d: %v", script, at, r.Codes)
				}
			}
			plain.Codes = r.Codes
			if !same(r, plain) || code != api.OK {
				t.Errorf("%v, others at %d: %v, %d, want %v", script, at, r, code, plain)
			}
		}
	}
}

// TestArgumentsStay: the script is not modified, what lies beyond its length
// is neither read nor written, and results are new memory.
func TestArgumentsStay(t *testing.T) {
	whole := func() []api.Move { return []api.Move{want(0), come(0, 1), come(1, 0), leave(0), leave(0)} }
	expected := api.Turns{Codes: make([]api.Errno, 3), In: 1}
	script := whole()
	for range 2 {
		r, code := Play(2, script[:3])
		if !same(r, expected) || code != api.OK {
			t.Errorf("%v, %d, want %v", r, code, expected)
		}
		codes := r.Codes[:cap(r.Codes)]
		for i := range codes {
			codes[i] = api.ErrOld
		}
	}
	if !slices.Equal(script, whole()) {
		t.Error("the script was modified:", script)
	}
}

// TestNilAndEmpty: they are equivalent.
func TestNilAndEmpty(t *testing.T) {
	a, first := Play(2, nil)
	b, second := Play(2, []api.Move{})
	if !empty(a) || !empty(b) || first != api.OK || second != api.OK {
		t.Error(a, first, b, second)
	}
}
