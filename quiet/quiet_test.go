package quiet

import (
	"math"
	"math/rand"
	"slices"
	"testing"

	"beaconry/api"
)

func send(from, to int) api.Move { return api.Move{Kind: api.QSend, From: from, To: to} }
func take(from, to int) api.Move { return api.Move{Kind: api.QTake, From: from, To: to} }
func rest(from int) api.Move     { return api.Move{Kind: api.QRest, From: from} }

// empty reports whether a result is the zero value, with nil and empty lists
// alike.
func empty(q api.Quiet) bool {
	return len(q.Codes) == 0 && !q.Done && q.Works == 0 && q.Way == 0
}

// same reports whether two results are equal, with nil and empty lists alike.
func same(a, b api.Quiet) bool {
	return slices.Equal(a.Codes, b.Codes) && a.Done == b.Done && a.Works == b.Works && a.Way == b.Way
}

func TestErrors(t *testing.T) {
	many := slices.Repeat([]api.Move{rest(0)}, api.MaxMoves+1)
	for _, c := range []struct {
		name   string
		n      int
		script []api.Move
	}{
		{"no process", 0, nil},
		{"fewer than no process", -1, []api.Move{rest(0)}},
		{"least n", math.MinInt, nil},
		{"one process too many", api.MaxProc + 1, []api.Move{rest(0)}},
		{"greatest n", math.MaxInt, nil},
		{"one operation too many", 1, many},
		{"many operations", api.MaxProc, slices.Repeat(many, 20)},
		{"many invalid operations", 2, make([]api.Move, api.MaxMoves+1)},
		{"both", 0, many},
	} {
		if q, code := Play(c.n, c.script); !empty(q) || code != api.ErrLarge {
			t.Errorf("%s: %v, %d", c.name, q, code)
		}
	}
}

// TestLimits: the greatest n and the longest script are valid.
func TestLimits(t *testing.T) {
	for n := 1; n <= api.MaxProc; n++ {
		for _, length := range []int{0, 1, api.MaxMoves - 1, api.MaxMoves} {
			want := api.Quiet{Codes: slices.Repeat([]api.Errno{api.ErrKind}, length), Works: 1}
			if q, code := Play(n, make([]api.Move, length)); !same(q, want) || code != api.OK {
				t.Errorf("%d processes, %d operations: %v, %d", n, length, q, code)
			}
		}
	}
}

// TestCodes: the code of the last operation of each script, when all before it
// are valid.
func TestCodes(t *testing.T) {
	for _, c := range []struct {
		name   string
		script []api.Move
		want   api.Errno
	}{
		{"kind 0", []api.Move{{To: 1}}, api.ErrKind},
		{"kind 4", []api.Move{{Kind: api.QRest + 1, To: 1}}, api.ErrKind},
		{"kind below 0", []api.Move{{Kind: -1, To: 1}}, api.ErrKind},
		{"least kind", []api.Move{{Kind: math.MinInt, To: 1}}, api.ErrKind},
		{"greatest kind", []api.Move{{Kind: math.MaxInt, To: 1}}, api.ErrKind},
		{"ErrKind before ErrArg", []api.Move{{Kind: 4, From: -1, To: 9}}, api.ErrKind},

		{"send from below 0", []api.Move{send(-1, 1)}, api.ErrArg},
		{"send from n", []api.Move{send(3, 1)}, api.ErrArg},
		{"send from the least", []api.Move{send(math.MinInt, 1)}, api.ErrArg},
		{"send from the greatest", []api.Move{send(math.MaxInt, 1)}, api.ErrArg},
		{"send to below 0", []api.Move{send(0, -1)}, api.ErrArg},
		{"send to n", []api.Move{send(0, 3)}, api.ErrArg},
		{"send to the least", []api.Move{send(0, math.MinInt)}, api.ErrArg},
		{"send to the greatest", []api.Move{send(0, math.MaxInt)}, api.ErrArg},
		{"send to oneself", []api.Move{send(0, 0)}, api.ErrArg},
		{"ErrArg before ErrHold, to oneself", []api.Move{send(1, 1)}, api.ErrArg},
		{"ErrArg before ErrHold, to n", []api.Move{send(1, 3)}, api.ErrArg},
		{"take from below 0", []api.Move{take(-1, 1)}, api.ErrArg},
		{"take from n", []api.Move{take(3, 1)}, api.ErrArg},
		{"take by below 0", []api.Move{take(0, -1)}, api.ErrArg},
		{"take by n", []api.Move{take(0, 3)}, api.ErrArg},
		{"take by the least", []api.Move{take(0, math.MinInt)}, api.ErrArg},
		{"take by the greatest", []api.Move{take(0, math.MaxInt)}, api.ErrArg},
		{"take from oneself", []api.Move{take(2, 2)}, api.ErrArg},
		{"rest of below 0", []api.Move{rest(-1)}, api.ErrArg},
		{"rest of n", []api.Move{rest(3)}, api.ErrArg},
		{"rest of the least", []api.Move{rest(math.MinInt)}, api.ErrArg},
		{"rest of the greatest", []api.Move{rest(math.MaxInt)}, api.ErrArg},

		{"send of process 0", []api.Move{send(0, 2)}, api.OK},
		{"send of another one", []api.Move{send(1, 0)}, api.ErrHold},
		{"send of the last one", []api.Move{send(2, 0)}, api.ErrHold},
		{"send before the message comes", []api.Move{send(0, 1), send(1, 0)}, api.ErrHold},
		{"send after the message came", []api.Move{send(0, 1), take(0, 1), send(1, 0)}, api.OK},
		{"send after a message came to another one", []api.Move{send(0, 1), take(0, 1), send(2, 0)}, api.ErrHold},
		{"send after resting", []api.Move{rest(0), send(0, 1)}, api.ErrHold},
		{"send after resting again", []api.Move{send(0, 1), take(0, 1), rest(1), send(1, 2)}, api.ErrHold},
		{"send while the sender expects", []api.Move{send(0, 1), rest(0), send(0, 1)}, api.ErrHold},
		{"send after being woken", []api.Move{send(0, 1), rest(0), take(0, 1), send(1, 0), take(1, 0), send(0, 2)}, api.OK},

		{"take nothing", []api.Move{take(0, 1)}, api.ErrNone},
		{"take", []api.Move{send(0, 1), take(0, 1)}, api.OK},
		{"take twice", []api.Move{send(0, 1), take(0, 1), take(0, 1)}, api.ErrNone},
		{"take two", []api.Move{send(0, 1), send(0, 1), take(0, 1), take(0, 1)}, api.OK},
		{"take three of two", []api.Move{send(0, 1), send(0, 1), take(0, 1), take(0, 1), take(0, 1)}, api.ErrNone},
		{"take what goes the other way", []api.Move{send(0, 1), take(1, 0)}, api.ErrNone},
		{"take what goes to another one", []api.Move{send(0, 1), take(0, 2)}, api.ErrNone},
		{"take what comes from another one", []api.Move{send(0, 1), take(2, 1)}, api.ErrNone},
		{"take from one that rests", []api.Move{send(0, 1), rest(0), take(0, 1)}, api.OK},

		{"rest of process 0", []api.Move{rest(0)}, api.OK},
		{"rest twice", []api.Move{rest(0), rest(0)}, api.ErrHold},
		{"rest of another one", []api.Move{rest(1)}, api.ErrHold},
		{"rest before the message comes", []api.Move{send(0, 1), rest(1)}, api.ErrHold},
		{"rest after the message came", []api.Move{send(0, 1), take(0, 1), rest(1)}, api.OK},
		{"rest twice after the message came", []api.Move{send(0, 1), take(0, 1), rest(1), rest(1)}, api.ErrHold},
		{"rest after two messages came", []api.Move{send(0, 1), send(0, 1), take(0, 1), take(0, 1), rest(1)}, api.OK},
		{"rest after each message", []api.Move{send(0, 1), send(0, 1), take(0, 1), rest(1), take(0, 1), rest(1)}, api.OK},
		{"rest while expecting", []api.Move{send(0, 1), rest(0)}, api.OK},
		{"rest twice while expecting", []api.Move{send(0, 1), rest(0), rest(0)}, api.ErrHold},

		{"the number of a send is ignored", []api.Move{{Kind: api.QSend, To: 1, Val: math.MinInt}}, api.OK},
		{"the number of a take is ignored", []api.Move{send(0, 1), {Kind: api.QTake, To: 1, Val: 9}}, api.OK},
		{"other fields of a rest are ignored", []api.Move{{Kind: api.QRest, To: -1, Val: 101}}, api.OK},
		{"a rest to n", []api.Move{{Kind: api.QRest, To: 3}}, api.OK},
		{"a rest to oneself", []api.Move{send(0, 1), take(0, 1), {Kind: api.QRest, From: 1, To: 1}}, api.OK},
	} {
		want := make([]api.Errno, len(c.script))
		want[len(want)-1] = c.want
		if q, code := Play(3, c.script); !slices.Equal(q.Codes, want) || code != api.OK {
			t.Errorf("%s: %v, %d, want %v", c.name, q.Codes, code, want)
		}
	}
}

// TestDetection: all results of scripts without rejected operations.
func TestDetection(t *testing.T) {
	for _, c := range []struct {
		name   string
		n      int
		script []api.Move
		done   bool
		works  uint32
		way    int
	}{
		{"nothing, one process", 1, nil, false, 1, 0},
		{"nothing, all processes", api.MaxProc, nil, false, 1, 0},
		{"one process rests", 1, []api.Move{rest(0)}, true, 0, 0},
		{"process 0 rests", 2, []api.Move{rest(0)}, true, 0, 0},
		{"a message is on the way", 2, []api.Move{send(0, 1)}, false, 1, 1},
		{"a message is on the way from one that rests", 2, []api.Move{send(0, 1), rest(0)}, false, 0, 1},
		{"messages are on the way on two channels", 3, []api.Move{send(0, 1), send(0, 2), send(0, 2)}, false, 1, 3},
		{"a message came", 2, []api.Move{send(0, 1), take(0, 1)}, false, 3, 0},
		{"one of two messages came", 2, []api.Move{send(0, 1), send(0, 1), take(0, 1)}, false, 3, 1},
		{"the receiver rests", 2, []api.Move{send(0, 1), take(0, 1), rest(1)}, false, 1, 0},
		{"the sender rests", 2, []api.Move{send(0, 1), take(0, 1), rest(0)}, false, 2, 0},
		{"the sender rests last", 2, []api.Move{send(0, 1), take(0, 1), rest(1), rest(0)}, true, 0, 0},
		{"the receiver rests last", 2, []api.Move{send(0, 1), rest(0), take(0, 1), rest(1)}, true, 0, 0},
		{"two messages, one taken", 2, []api.Move{send(0, 1), send(0, 1), rest(0), take(0, 1), rest(1)}, false, 0, 1},
		{"the second one is acknowledged at once", 2,
			[]api.Move{send(0, 1), send(0, 1), rest(0), take(0, 1), take(0, 1), rest(1)}, true, 0, 0},
		{"the second one comes after a rest", 2,
			[]api.Move{send(0, 1), send(0, 1), rest(0), take(0, 1), rest(1), take(0, 1)}, false, 2, 0},
		{"both come and are rested from", 2,
			[]api.Move{send(0, 1), send(0, 1), rest(0), take(0, 1), rest(1), take(0, 1), rest(1)}, true, 0, 0},

		{"process 0 acknowledges at once", 2,
			[]api.Move{send(0, 1), take(0, 1), send(1, 0), rest(0), rest(1), take(1, 0), rest(0)}, true, 0, 0},
		{"process 0 is active again", 2,
			[]api.Move{send(0, 1), take(0, 1), send(1, 0), rest(0), rest(1), take(1, 0)}, false, 1, 0},
		{"process 0 has received nothing yet", 2,
			[]api.Move{send(0, 1), take(0, 1), send(1, 0), rest(0), rest(1)}, false, 0, 1},
		{"one that waits is active again", 3,
			[]api.Move{send(0, 1), rest(0), take(0, 1), send(1, 2), rest(1), take(1, 2), send(2, 1), rest(2), take(2, 1)},
			false, 2, 0},
		{"one that waited rests again", 3,
			[]api.Move{send(0, 1), rest(0), take(0, 1), send(1, 2), rest(1), take(1, 2), send(2, 1), rest(2), take(2, 1), rest(1)},
			true, 0, 0},
		{"a path, from its beginning", 4,
			[]api.Move{send(0, 1), rest(0), take(0, 1), send(1, 2), rest(1), take(1, 2), send(2, 3), rest(2), take(2, 3)},
			false, 8, 0},
		{"a path, from its beginning, to its end", 4,
			[]api.Move{send(0, 1), rest(0), take(0, 1), send(1, 2), rest(1), take(1, 2), send(2, 3), rest(2), take(2, 3), rest(3)},
			true, 0, 0},
		{"a path, from its end", 4,
			[]api.Move{send(0, 1), take(0, 1), send(1, 2), take(1, 2), send(2, 3), take(2, 3), rest(3), rest(2), rest(1)},
			false, 1, 0},
		{"a path, from its end, to its beginning", 4,
			[]api.Move{send(0, 1), take(0, 1), send(1, 2), take(1, 2), send(2, 3), take(2, 3), rest(3), rest(2), rest(1), rest(0)},
			true, 0, 0},
		{"a path, from its middle", 4,
			[]api.Move{send(0, 1), take(0, 1), send(1, 2), take(1, 2), send(2, 3), take(2, 3), rest(1), rest(2), rest(0)},
			false, 8, 0},
		{"the greatest process", api.MaxProc,
			[]api.Move{send(0, api.MaxProc-1), take(0, api.MaxProc-1), rest(0)}, false, 1 << (api.MaxProc - 1), 0},
	} {
		want := api.Quiet{Codes: make([]api.Errno, len(c.script)), Done: c.done, Works: c.works, Way: c.way}
		if q, code := Play(c.n, c.script); !same(q, want) || code != api.OK {
			t.Errorf("%s: %v, %d, want %v", c.name, q, code, want)
		}
	}
}

// TestManyMessages: as many as a script can send are all in transit.
func TestManyMessages(t *testing.T) {
	q, code := Play(2, slices.Repeat([]api.Move{send(0, 1)}, api.MaxMoves))
	want := api.Quiet{Codes: make([]api.Errno, api.MaxMoves), Works: 1, Way: api.MaxMoves}
	if !same(q, want) || code != api.OK {
		t.Errorf("%v, %d", q, code)
	}
}

// TestEngagement: who is engaged, with which parent, and how many
// acknowledgements each one expects, after scripts without rejected operations.
func TestEngagement(t *testing.T) {
	const none = -1
	for _, c := range []struct {
		name     string
		script   []api.Move
		parents  []int
		expected []int
	}{
		{"nothing", nil, []int{none, none}, []int{0, 0, 0}},
		{"process 0 stays engaged", []api.Move{rest(0)}, []int{none, none}, []int{0, 0, 0}},
		{"not engaged before the message comes", []api.Move{send(0, 1)}, []int{none, none}, []int{1, 0, 0}},
		{"the first message engages", []api.Move{send(0, 1), take(0, 1)}, []int{0, none}, []int{1, 0, 0}},
		{"the second message does not", []api.Move{send(0, 1), send(0, 1), take(0, 1), take(0, 1)},
			[]int{0, none}, []int{1, 0, 0}},
		{"the first sender is the parent",
			[]api.Move{send(0, 1), take(0, 1), send(0, 2), send(1, 2), take(1, 2), take(0, 2)},
			[]int{0, 1}, []int{1, 1, 0}},
		{"no message engages process 0", []api.Move{send(0, 1), take(0, 1), send(1, 0), take(1, 0)},
			[]int{0, none}, []int{1, 0, 0}},
		{"a rest acknowledges", []api.Move{send(0, 1), take(0, 1), rest(1)}, []int{none, none}, []int{0, 0, 0}},
		{"a rest does not acknowledge what has not come", []api.Move{send(0, 1), send(0, 1), take(0, 1), rest(1)},
			[]int{none, none}, []int{1, 0, 0}},
		{"one that expects does not acknowledge", []api.Move{send(0, 1), take(0, 1), send(1, 2), rest(1)},
			[]int{0, none}, []int{1, 1, 0}},
		{"not even when its message comes", []api.Move{send(0, 1), take(0, 1), send(1, 2), rest(1), take(1, 2)},
			[]int{0, 1}, []int{1, 1, 0}},
		{"but when it is acknowledged", []api.Move{send(0, 1), take(0, 1), send(1, 2), rest(1), take(1, 2), rest(2)},
			[]int{none, none}, []int{0, 0, 0}},
		{"acknowledged while active", []api.Move{send(0, 1), take(0, 1), send(1, 2), take(1, 2), rest(2)},
			[]int{0, none}, []int{1, 0, 0}},
		{"one that takes and is acknowledged stays engaged",
			[]api.Move{send(0, 1), take(0, 1), send(1, 2), take(1, 2), send(2, 1), rest(1), rest(2), take(2, 1)},
			[]int{0, none}, []int{1, 0, 0}},
		{"another parent at the next engagement",
			[]api.Move{send(0, 1), send(0, 2), take(0, 1), take(0, 2), send(2, 1), rest(1), take(2, 1)},
			[]int{2, 0}, []int{1, 0, 1}},
	} {
		s := start(3)
		for _, m := range c.script {
			if code := s.execute(m); code != api.OK {
				t.Errorf("%s: %v: %d", c.name, m, code)
			}
		}
		for proc, p := range s.processes {
			engaged := proc == 0 || c.parents[proc-1] != none
			parent := p.parent
			if !engaged || proc == 0 {
				parent = none
			}
			if p.engaged != engaged || p.expected != c.expected[proc] || proc > 0 && parent != c.parents[proc-1] {
				t.Errorf("%s: process %d: %v", c.name, proc, p)
			}
		}
	}
}

// expect returns what Play should, without acknowledgements: from which
// operations were accepted it follows who is active and what is in transit, and
// termination is that nobody is active and nothing is in transit.
func expect(n int, script []api.Move) api.Quiet {
	var accepted []api.Move
	var q api.Quiet
	for _, m := range script {
		code := judge(n, accepted, m)
		if code == api.OK {
			accepted = append(accepted, m)
		}
		q.Codes = append(q.Codes, code)
	}
	for proc := range n {
		if active(accepted, proc) {
			q.Works += 1 << proc
		}
		for to := range n {
			q.Way += transit(accepted, proc, to)
		}
	}
	q.Done = q.Works == 0 && q.Way == 0
	return q
}

// judge returns the code of an operation after those that were accepted.
func judge(n int, accepted []api.Move, m api.Move) api.Errno {
	outside := func(proc int) bool { return proc < 0 || proc >= n }
	switch {
	case m.Kind != api.QSend && m.Kind != api.QTake && m.Kind != api.QRest:
		return api.ErrKind
	case outside(m.From), m.Kind != api.QRest && (outside(m.To) || m.From == m.To):
		return api.ErrArg
	case m.Kind == api.QTake && transit(accepted, m.From, m.To) == 0:
		return api.ErrNone
	case m.Kind != api.QTake && !active(accepted, m.From):
		return api.ErrHold
	}
	return api.OK
}

// active reports whether a process is active after some operations.
func active(accepted []api.Move, proc int) bool {
	for _, m := range slices.Backward(accepted) {
		if m.Kind == api.QTake && m.To == proc {
			return true
		}
		if m.Kind == api.QRest && m.From == proc {
			return false
		}
	}
	return proc == 0
}

// transit returns how many messages from one process to another one are in
// transit after some operations.
func transit(accepted []api.Move, from, to int) int {
	count := 0
	for _, m := range accepted {
		if m.From != from || m.To != to {
			continue
		}
		switch m.Kind {
		case api.QSend:
			count++
		case api.QTake:
			count--
		}
	}
	return count
}

// compare holds Play against the definitions, and returns its result.
func compare(t *testing.T, n int, script []api.Move) api.Quiet {
	t.Helper()
	want := expect(n, script)
	q, code := Play(n, script)
	if !same(q, want) || code != api.OK {
		t.Fatalf("%d processes, %v: %v, %d, want %v", n, script, q, code, want)
	}
	return q
}

// moves returns all operations of n processes with valid processes.
func moves(n int) []api.Move {
	var l []api.Move
	for from := range n {
		l = append(l, rest(from))
		for to := range n {
			if to != from {
				l = append(l, send(from, to), take(from, to))
			}
		}
	}
	return l
}

// TestSmallScripts compares all scripts without rejected operations of up to
// three processes, up to a length for each number of processes, and each of
// them with one more operation, which may be rejected.
func TestSmallScripts(t *testing.T) {
	lengths := []int{0, 2, 8, 7}
	for n := 1; n <= 3; n++ {
		var extend func([]api.Move)
		extend = func(script []api.Move) {
			if len(script) == lengths[n] {
				return
			}
			for _, m := range moves(n) {
				longer := append(slices.Clone(script), m)
				if q := compare(t, n, longer); q.Codes[len(script)] == api.OK {
					extend(longer)
				}
			}
		}
		extend(nil)
	}
}

// scatter returns a script of random operations. As long as there are some that
// are accepted, most of its own are. From some time on there are no more sends,
// so that many scripts terminate.
func scatter(r *rand.Rand, n int) []api.Move {
	length := r.Intn(api.MaxMoves + 1)
	calm := r.Intn(2*length + 1)
	var script, accepted []api.Move
	accepts := func(m api.Move) bool { return judge(n, accepted, m) == api.OK }
	for len(script) < length {
		from := r.Intn(n)
		m := api.Move{Kind: 1 + r.Intn(3), From: from, To: (from + 1 + r.Intn(max(n-1, 1))) % n}
		early := len(script) < calm
		if !early && m.Kind == api.QSend || early && m.Kind == api.QRest && r.Intn(4) > 0 {
			continue
		}
		if accepts(m) {
			accepted = append(accepted, m)
		} else if r.Intn(20) > 0 && slices.ContainsFunc(moves(n), accepts) {
			continue
		}
		script = append(script, m)
	}
	return script
}

// TestLargeScripts compares random scripts of all numbers of processes.
func TestLargeScripts(t *testing.T) {
	r := rand.New(rand.NewSource(9))
	done, moving, idle := 0, 0, 0
	for range 5000 {
		n := 1 + r.Intn(api.MaxProc)
		script := scatter(r, n)
		switch q := compare(t, n, script); {
		case q.Done && slices.Contains(script, take(1, 0)) && n > 2:
			done++
		case q.Works == 0 && q.Way > 0:
			idle++
		case q.Works > 0 && q.Way > 0:
			moving++
		}
	}
	if done < 100 || moving < 100 || idle < 100 {
		t.Errorf("%d scripts terminate, %d have more to do, %d wait for messages alone", done, moving, idle)
	}
}

// checkTree checks what the algorithm keeps up: each process expects one
// acknowledgement for each of its messages in transit and for each process
// whose parent it is; who is not engaged is idle; who is engaged, but not
// process 0, is not idle and is led to process 0 by parents.
func checkTree(t *testing.T, s *system) {
	t.Helper()
	for proc, p := range s.processes {
		expected := 0
		for other, o := range s.processes {
			expected += s.transit[channel{from: proc, to: other}]
			if other != 0 && o.engaged && o.parent == proc {
				expected++
			}
		}
		at := proc
		for range s.processes {
			if at != 0 && s.processes[at].engaged {
				at = s.processes[at].parent
			}
		}
		if p.expected != expected || proc == 0 && !p.engaged ||
			proc != 0 && p.engaged == s.idle(proc) || p.engaged && at != 0 {
			t.Fatalf("process %d: %v in %v, expected should be %d", proc, p, s, expected)
		}
	}
}

// TestTree checks the tree after each operation of random scripts.
func TestTree(t *testing.T) {
	r := rand.New(rand.NewSource(99))
	for range 2000 {
		n := 1 + r.Intn(api.MaxProc)
		s := start(n)
		checkTree(t, s)
		for _, m := range scatter(r, n) {
			s.execute(m)
			checkTree(t, s)
		}
	}
}

// TestStability: once termination is detected, no operation is accepted and
// nothing changes any more.
func TestStability(t *testing.T) {
	r := rand.New(rand.NewSource(999))
	seen := 0
	for range 3000 {
		n := 1 + r.Intn(api.MaxProc)
		script := scatter(r, n)
		if q, _ := Play(n, script); !q.Done || len(script)+len(moves(n)) > api.MaxMoves {
			continue
		}
		seen++
		length := len(script)
		script = append(script, moves(n)...)
		q, code := Play(n, script)
		if code != api.OK || !q.Done || q.Works != 0 || q.Way != 0 {
			t.Fatalf("%d processes, %v: %v, %d", n, script, q, code)
		}
		for i, m := range script[length:] {
			want := api.ErrHold
			if m.Kind == api.QTake {
				want = api.ErrNone
			}
			if got := q.Codes[length+i]; got != want {
				t.Fatalf("%d processes, %v: %v: %d, want %d", n, script, m, got, want)
			}
		}
	}
	if seen < 100 {
		t.Errorf("only %d scripts terminate", seen)
	}
}

// TestRejectedChangesNothing: with rejected operations in between, the other
// operations have the same results.
func TestRejectedChangesNothing(t *testing.T) {
	for _, script := range [][]api.Move{
		{send(0, 1), take(0, 1), send(0, 1), rest(0), take(0, 1), rest(1)},
		{send(0, 1), send(0, 1), take(0, 1), rest(1), rest(0)},
		{send(0, 1), take(0, 1), send(1, 0), rest(1)},
	} {
		plain, _ := Play(3, script)
		var mixed []api.Move
		var want []api.Errno
		for _, m := range script {
			mixed = append(mixed, m, api.Move{Kind: 9, To: 1}, send(0, 0), rest(3), send(0, 7), take(2, 0), send(2, 1), rest(2))
			want = append(want, api.OK, api.ErrKind, api.ErrArg, api.ErrArg, api.ErrArg, api.ErrNone, api.ErrHold, api.ErrHold)
		}
		plain.Codes = want
		if q, code := Play(3, mixed); !same(q, plain) || code != api.OK {
			t.Errorf("%v: %v, %d, want %v", script, q, code, plain)
		}
	}
}

// TestArgumentsStay: the script is not modified, what lies beyond its length
// is neither read nor written, and results are new memory.
func TestArgumentsStay(t *testing.T) {
	whole := func() []api.Move { return []api.Move{send(0, 1), rest(0), take(0, 1), rest(1), rest(1)} }
	want := api.Quiet{Codes: make([]api.Errno, 3), Works: 2}
	script := whole()
	for range 2 {
		q, code := Play(2, script[:3])
		if !same(q, want) || code != api.OK {
			t.Errorf("%v, %d, want %v", q, code, want)
		}
		codes := q.Codes[:cap(q.Codes)]
		for i := range codes {
			codes[i] = api.ErrOld
		}
	}
	if !slices.Equal(script, whole()) {
		t.Error("the script was modified:", script)
	}
}

// TestNilAndEmpty: they are equivalent.
func TestNilAndEmpty(t *testing.T) {
	a, first := Play(2, nil)
	b, second := Play(2, []api.Move{})
	want := api.Quiet{Works: 1}
	if !same(a, want) || !same(b, want) || first != api.OK || second != api.OK {
		t.Error(a, first, b, second)
	}
}
