package token

import (
	"maps"
	"math"
	"math/bits"
	"math/rand"
	"slices"
	"testing"

	"beaconry/api"
)

func want(from int) api.Move     { return api.Move{Kind: api.WWant, From: from} }
func come(from, to int) api.Move { return api.Move{Kind: api.WCome, From: from, To: to} }
func leave(from int) api.Move    { return api.Move{Kind: api.WLeave, From: from} }

// chain, star and fan are trees of three processes and of six: 0 is above 1,
// which is above 2; 0 is above 1 and 2; 2 is above 0 and 4, 0 above 1 and 3,
// and 4 above 5.
func chain() []int { return []int{0, 0, 1} }
func star() []int  { return []int{0, 0, 0} }
func fan() []int   { return []int{2, 0, 2, 0, 2, 4} }

// fetch returns the operations by which a process wants to enter and the token
// comes to it, over these other processes, the last of which has it and is not
// in the critical section, if nobody on the way wants anything.
func fetch(proc int, over ...int) []api.Move {
	l := []api.Move{want(proc)}
	way := append([]int{proc}, over...)
	for i := range over {
		l = append(l, come(way[i], way[i+1]))
	}
	for i := len(over); i > 0; i-- {
		l = append(l, come(way[i], way[i-1]))
	}
	return l
}

// same reports whether two results are equal, with nil and empty lists alike.
func same(a, b api.Turns) bool {
	return slices.Equal(a.Codes, b.Codes) && a.In == b.In && a.Want == b.Want && a.Way == b.Way
}

// empty reports whether a result is the zero value, with nil and empty lists
// alike.
func empty(r api.Turns) bool { return same(r, api.Turns{}) }

func TestErrors(t *testing.T) {
	many := slices.Repeat([]api.Move{want(0)}, api.MaxMoves+1)
	for _, c := range []struct {
		name   string
		up     []int
		script []api.Move
		want   api.Errno
	}{
		{"no process", nil, []api.Move{want(0)}, api.ErrLarge},
		{"no process, no operation", []int{}, nil, api.ErrLarge},
		{"one process too many", make([]int, api.MaxProc+1), nil, api.ErrLarge},
		{"many processes", make([]int, 1000), nil, api.ErrLarge},
		{"one operation too many", []int{0}, many, api.ErrLarge},
		{"many operations", make([]int, api.MaxProc), slices.Repeat(many, 20), api.ErrLarge},
		{"one invalid operation too many", []int{0, 0}, make([]api.Move, api.MaxMoves+1), api.ErrLarge},
		{"no process and too many operations", nil, many, api.ErrLarge},
		{"ErrLarge of processes before ErrArg", slices.Repeat([]int{-1}, api.MaxProc+1), nil, api.ErrLarge},
		{"ErrLarge of operations before ErrArg", []int{0, 2}, many, api.ErrLarge},
		{"ErrLarge of processes before ErrForm", []int{1, 0, 0, 0, 0, 0, 0}, nil, api.ErrLarge},
		{"ErrLarge of operations before ErrForm", []int{1, 0}, many, api.ErrLarge},

		{"parent below 0", []int{0, -1}, nil, api.ErrArg},
		{"parent n", []int{0, 2}, nil, api.ErrArg},
		{"parent n of many", []int{0, 0, 0, 0, 0, 6}, nil, api.ErrArg},
		{"parent of the first", []int{-1, 1}, nil, api.ErrArg},
		{"parent in the middle", []int{0, 3, 0}, nil, api.ErrArg},
		{"least parent", []int{0, math.MinInt}, nil, api.ErrArg},
		{"greatest parent", []int{math.MaxInt, 1}, nil, api.ErrArg},
		{"parent of the only one", []int{1}, nil, api.ErrArg},
		{"parent of the only one below 0", []int{-1}, nil, api.ErrArg},
		{"ErrArg before ErrForm", []int{1, 0, 3}, nil, api.ErrArg},
		{"ErrArg before ErrForm of two roots", []int{-1, 1, 2}, nil, api.ErrArg},
		{"ErrArg without a root", []int{1, 2}, []api.Move{want(9)}, api.ErrArg},

		{"no root", []int{1, 0}, nil, api.ErrForm},
		{"no root, a long cycle", []int{1, 2, 3, 4, 5, 0}, nil, api.ErrForm},
		{"no root, a way into a cycle", []int{1, 2, 1}, nil, api.ErrForm},
		{"two roots", []int{0, 1}, nil, api.ErrForm},
		{"two roots with others", []int{0, 0, 1, 3}, nil, api.ErrForm},
		{"all are roots", []int{0, 1, 2, 3, 4, 5}, nil, api.ErrForm},
		{"a root and a cycle", []int{0, 2, 1}, nil, api.ErrForm},
		{"a root and a cycle with others", []int{0, 0, 3, 4, 2, 4}, nil, api.ErrForm},
		{"a root and the longest cycle", []int{1, 2, 3, 4, 0, 5}, nil, api.ErrForm},
		{"two roots and a cycle", []int{0, 1, 3, 2}, nil, api.ErrForm},
		{"an invalid operation", []int{1, 0}, []api.Move{{}}, api.ErrForm},
	} {
		if r, code := Play(c.up, c.script); !empty(r) || code != c.want {
			t.Errorf("%s: %v, %d, want %d", c.name, r, code, c.want)
		}
	}
}

// TestAllParents: the code for all lists of at most MaxProc parents, of which
// at most one is not a process. A list is a tree if the root and the processes
// under it, layer by layer, are all processes, and n processes have
// n to the power of n-1 such trees.
func TestAllParents(t *testing.T) {
	counts := []int{0, 1, 2, 9, 64, 625, 7776}
	for n := 1; n <= api.MaxProc; n++ {
		found := 0
		eachList(n, func(up []int) {
			expected := api.ErrForm
			if growsFromOneRoot(up) {
				expected = api.OK
				found++
			}
			if r, code := Play(up, nil); !empty(r) || code != expected {
				t.Fatalf("%v: %v, %d, want %d", up, r, code, expected)
			}
			for proc, parent := range up {
				for _, wrong := range []int{-1, n} {
					up[proc] = wrong
					if r, code := Play(up, nil); !empty(r) || code != api.ErrArg {
						t.Fatalf("%v: %v, %d", up, r, code)
					}
				}
				up[proc] = parent
			}
		})
		if found != counts[n] {
			t.Errorf("%d trees of %d processes", found, n)
		}
	}
}

// eachList calls a function for each list of n numbers from 0 to n-1.
func eachList(n int, do func([]int)) {
	l := make([]int, n)
	var fill func(int)
	fill = func(place int) {
		if place == n {
			do(l)
			return
		}
		for l[place] = range n {
			fill(place + 1)
		}
	}
	fill(0)
}

// growsFromOneRoot reports whether there is one root, and adding the children
// of processes that were added gives all processes.
func growsFromOneRoot(up []int) bool {
	var added []int
	for proc, parent := range up {
		if proc == parent {
			added = append(added, proc)
		}
	}
	if len(added) != 1 {
		return false
	}
	for i := 0; i < len(added); i++ {
		for proc, parent := range up {
			if parent == added[i] && proc != parent {
				added = append(added, proc)
			}
		}
	}
	return len(added) == len(up)
}

// TestLimits: the greatest tree and the longest script are valid.
func TestLimits(t *testing.T) {
	for n := 1; n <= api.MaxProc; n++ {
		for _, length := range []int{0, 1, api.MaxMoves - 1, api.MaxMoves} {
			expected := api.Turns{Codes: slices.Repeat([]api.Errno{api.ErrKind}, length)}
			if r, code := Play(make([]int, n), make([]api.Move, length)); !same(r, expected) || code != api.OK {
				t.Errorf("%d processes, %d operations: %v, %d", n, length, r, code)
			}
		}
	}
}

// TestCodes: the code of the last operation of each script in a chain of three
// processes, when all before it are valid.
func TestCodes(t *testing.T) {
	for _, c := range []struct {
		name   string
		script []api.Move
		want   api.Errno
	}{
		{"kind 0", []api.Move{{To: 1}}, api.ErrKind},
		{"kind 4", []api.Move{{Kind: api.WLeave + 1, To: 1}}, api.ErrKind},
		{"kind below 0", []api.Move{{Kind: -1, To: 1}}, api.ErrKind},
		{"least kind", []api.Move{{Kind: math.MinInt, To: 1}}, api.ErrKind},
		{"greatest kind", []api.Move{{Kind: math.MaxInt, To: 1}}, api.ErrKind},
		{"ErrKind before ErrArg", []api.Move{{Kind: 4, From: -1, To: 9}}, api.ErrKind},

		{"want of below 0", []api.Move{want(-1)}, api.ErrArg},
		{"want of n", []api.Move{want(3)}, api.ErrArg},
		{"want of the least", []api.Move{want(math.MinInt)}, api.ErrArg},
		{"want of the greatest", []api.Move{want(math.MaxInt)}, api.ErrArg},
		{"receipt from below 0", []api.Move{come(-1, 1)}, api.ErrArg},
		{"receipt from n", []api.Move{come(3, 1)}, api.ErrArg},
		{"receipt from the least", []api.Move{come(math.MinInt, 1)}, api.ErrArg},
		{"receipt from the greatest", []api.Move{come(math.MaxInt, 1)}, api.ErrArg},
		{"receipt by below 0", []api.Move{come(0, -1)}, api.ErrArg},
		{"receipt by n", []api.Move{come(0, 3)}, api.ErrArg},
		{"receipt by the least", []api.Move{come(0, math.MinInt)}, api.ErrArg},
		{"receipt by the greatest", []api.Move{come(0, math.MaxInt)}, api.ErrArg},
		{"receipt of the root from itself", []api.Move{come(0, 0)}, api.ErrArg},
		{"receipt from oneself", []api.Move{want(2), come(2, 2)}, api.ErrArg},
		{"leave of below 0", []api.Move{leave(-1)}, api.ErrArg},
		{"leave of n", []api.Move{leave(3)}, api.ErrArg},
		{"leave of the least", []api.Move{leave(math.MinInt)}, api.ErrArg},
		{"leave of the greatest", []api.Move{leave(math.MaxInt)}, api.ErrArg},

		{"want of the root", []api.Move{want(0)}, api.OK},
		{"want of a leaf", []api.Move{want(2)}, api.OK},
		{"want twice", []api.Move{want(1), want(1)}, api.ErrHold},
		{"want of two", []api.Move{want(1), want(2)}, api.OK},
		{"want of all", []api.Move{want(1), want(2), want(0)}, api.OK},
		{"want inside", []api.Move{want(0), want(0)}, api.ErrHold},
		{"want inside with the token of another one", append(fetch(1, 0), want(1)), api.ErrHold},
		{"want of another one", []api.Move{want(0), want(1)}, api.OK},
		{"want after the request was received", []api.Move{want(1), come(1, 0), want(1)}, api.ErrHold},
		{"want behind another one in the own queue", []api.Move{want(2), come(2, 1), want(1)}, api.OK},
		{"want twice behind another one in the own queue", []api.Move{want(2), come(2, 1), want(1), want(1)}, api.ErrHold},
		{"want of one that is in another queue", []api.Move{want(2), come(2, 1), want(2)}, api.ErrHold},
		{"want after leaving", []api.Move{want(0), leave(0), want(0)}, api.OK},
		{"want twice after leaving", append(fetch(1, 0), leave(1), want(1), want(1)), api.ErrHold},
		{"want after the token was sent", append(fetch(1, 0), want(0)), api.OK},
		{"want while the token is on the way", []api.Move{want(1), come(1, 0), want(0)}, api.OK},

		{"receipt of nothing", []api.Move{come(0, 1)}, api.ErrNone},
		{"receipt from one that is no neighbor", []api.Move{come(0, 2)}, api.ErrNone},
		{"receipt of a request", []api.Move{want(1), come(1, 0)}, api.OK},
		{"receipt of a request twice", []api.Move{want(1), come(1, 0), come(1, 0)}, api.ErrNone},
		{"receipt in the other direction", []api.Move{want(1), come(0, 1)}, api.ErrNone},
		{"receipt of a request by another neighbor", []api.Move{want(1), come(1, 2)}, api.ErrNone},
		{"receipt of a request by one that is no neighbor", []api.Move{want(2), come(2, 0)}, api.ErrNone},
		{"receipt of a request of the root, which enters", []api.Move{want(0), come(0, 1)}, api.ErrNone},
		{"receipt of a request that was passed on", []api.Move{want(2), come(2, 1), come(1, 0)}, api.OK},
		{"receipt of a request before it was passed on", []api.Move{want(2), come(1, 0)}, api.ErrNone},
		{"receipt of a second request, which was not passed on", []api.Move{want(1), come(1, 0), want(2), come(2, 1), come(1, 0)}, api.ErrNone},
		{"receipt of the token", []api.Move{want(1), come(1, 0), come(0, 1)}, api.OK},
		{"receipt of the token twice", []api.Move{want(1), come(1, 0), come(0, 1), come(0, 1)}, api.ErrNone},
		{"receipt of the token by one that is no neighbor", []api.Move{want(2), come(2, 1), come(1, 0), come(0, 2)}, api.ErrNone},
		{"receipt of the token that was passed on", []api.Move{want(2), come(2, 1), come(1, 0), come(0, 1), come(1, 2)}, api.OK},
		{"receipt of the token before it was passed on", []api.Move{want(2), come(2, 1), come(1, 0), come(1, 2)}, api.ErrNone},
		{"receipt of the token of one that is inside", []api.Move{want(0), want(1), come(1, 0), come(0, 1)}, api.ErrNone},
		{"receipt of the token of one that left", []api.Move{want(0), want(1), come(1, 0), leave(0), come(0, 1)}, api.OK},
		{"receipt of a request for the root", append(fetch(1, 0), want(0), come(0, 1)), api.OK},
		{"receipt of a request behind the token", []api.Move{want(2), come(2, 1), want(1), come(1, 0), come(0, 1), come(1, 2), come(1, 2)}, api.OK},
		{"no request behind the token", []api.Move{want(2), come(2, 1), come(1, 0), come(0, 1), come(1, 2), come(1, 2)}, api.ErrNone},

		{"leave at first", []api.Move{leave(0)}, api.ErrHold},
		{"leave of one that wants", []api.Move{want(1), leave(1)}, api.ErrHold},
		{"leave of the root", []api.Move{want(0), leave(0)}, api.OK},
		{"leave twice", []api.Move{want(0), leave(0), leave(0)}, api.ErrHold},
		{"leave with the token on the way", []api.Move{want(1), come(1, 0), leave(1)}, api.ErrHold},
		{"leave with the token", append(fetch(1, 0), leave(1)), api.OK},
		{"leave of a leaf", append(fetch(2, 1, 0), leave(2)), api.OK},
		{"leave of one over which the token came", append(fetch(2, 1, 0), leave(1)), api.ErrHold},
		{"leave of one that had the token", append(fetch(1, 0), leave(0)), api.ErrHold},
		{"leave of another one", []api.Move{want(0), leave(1)}, api.ErrHold},
		{"leave after entering again", []api.Move{want(0), leave(0), want(0), leave(0)}, api.OK},

		{"a want ignores To and Val", []api.Move{{Kind: api.WWant, From: 1, To: -7, Val: math.MinInt}}, api.OK},
		{"a want ignores To that is From", []api.Move{{Kind: api.WWant, From: 1, To: 1}}, api.OK},
		{"a receipt ignores Val", []api.Move{want(1), {Kind: api.WCome, From: 1, Val: 9}}, api.OK},
		{"a leave ignores To and Val", append(fetch(1, 0), api.Move{Kind: api.WLeave, From: 1, To: 9, Val: -9}), api.OK},
		{"a leave ignores To that is From", append(fetch(1, 0), api.Move{Kind: api.WLeave, From: 1, To: 1}), api.OK},
	} {
		codes := make([]api.Errno, len(c.script))
		codes[len(codes)-1] = c.want
		if r, code := Play(chain(), c.script); !slices.Equal(r.Codes, codes) || code != api.OK {
			t.Errorf("%s: %v, %d, want %v", c.name, r.Codes, code, codes)
		}
	}
}

// TestResults: what is the case after scripts without rejected operations.
func TestResults(t *testing.T) {
	for _, c := range []struct {
		name     string
		up       []int
		script   []api.Move
		in, want uint32
		way      int
	}{
		{"nothing, one process", []int{0}, nil, 0, 0, 0},
		{"nothing, all processes", fan(), nil, 0, 0, 0},
		{"one process enters at once", []int{0}, []api.Move{want(0)}, 1, 0, 0},
		{"one process leaves", []int{0}, []api.Move{want(0), leave(0)}, 0, 0, 0},
		{"one process enters again", []int{0}, []api.Move{want(0), leave(0), want(0)}, 1, 0, 0},
		{"the root enters at once", fan(), []api.Move{want(2)}, 4, 0, 0},
		{"the last process is the root", []int{1, 1}, []api.Move{want(1)}, 2, 0, 0},

		{"a request", []int{0, 0}, []api.Move{want(1)}, 0, 2, 1},
		{"the token is on the way", []int{0, 0}, []api.Move{want(1), come(1, 0)}, 0, 2, 1},
		{"the example", []int{0, 0}, []api.Move{want(1), come(1, 0), come(0, 1)}, 2, 0, 0},
		{"the example, turned", []int{1, 1}, []api.Move{want(0), come(0, 1), come(1, 0)}, 1, 0, 0},
		{"it leaves", []int{0, 0}, append(fetch(1, 0), leave(1)), 0, 0, 0},
		{"it enters again at once, since it has the token", []int{0, 0}, append(fetch(1, 0), leave(1), want(1)), 2, 0, 0},
		{"the root has no token any more", []int{0, 0}, append(fetch(1, 0), leave(1), want(0)), 0, 1, 1},
		{"the token comes back", []int{0, 0}, slices.Concat(fetch(1, 0), []api.Move{leave(1)}, fetch(0, 1)), 1, 0, 0},
		{"the root sends a request behind the token", []int{0, 0}, []api.Move{want(1), come(1, 0), want(0)}, 0, 3, 2},
		{"the token comes first", []int{0, 0}, []api.Move{want(1), come(1, 0), want(0), come(0, 1)}, 2, 1, 1},
		{"the request comes inside", []int{0, 0}, []api.Move{want(1), come(1, 0), want(0), come(0, 1), come(0, 1)}, 2, 1, 0},
		{"the token is sent on leaving", []int{0, 0}, []api.Move{want(1), come(1, 0), want(0), come(0, 1), come(0, 1), leave(1)}, 0, 1, 1},
		{"a request comes after leaving", []int{0, 0}, []api.Move{want(0), want(1), leave(0), come(1, 0)}, 0, 2, 1},

		{"a request is passed on", chain(), []api.Move{want(2), come(2, 1)}, 0, 4, 1},
		{"and received", chain(), []api.Move{want(2), come(2, 1), come(1, 0)}, 0, 4, 1},
		{"the token is passed on", chain(), []api.Move{want(2), come(2, 1), come(1, 0), come(0, 1)}, 0, 4, 1},
		{"and received, too", chain(), fetch(2, 1, 0), 4, 0, 0},
		{"all processes on the way are asked", []int{0, 0, 1, 2, 3, 4}, fetch(5, 4, 3, 2, 1, 0), 32, 0, 0},
		{"from one leaf to another one", fan(), slices.Concat(fetch(5, 4, 2), []api.Move{leave(5)}, fetch(1, 0, 2, 4, 5)), 2, 0, 0},
		{"from one leaf to its sibling", fan(), slices.Concat(fetch(3, 0, 2), []api.Move{leave(3)}, fetch(1, 0, 3)), 2, 0, 0},

		{"one who has asked does not ask again for itself", chain(), []api.Move{want(2), come(2, 1), want(1)}, 0, 6, 1},
		{"one who has asked does not ask again for another one", chain(), []api.Move{want(1), want(2), come(2, 1)}, 0, 6, 1},
		{"nor for a third one", fan(), []api.Move{want(1), come(1, 0), want(3), come(3, 0), want(0)}, 0, 11, 1},
		{"first itself", chain(), []api.Move{want(1), want(2), come(2, 1), come(1, 0), come(0, 1)}, 2, 4, 0},
		{"then another one, without a request", chain(), []api.Move{want(1), want(2), come(2, 1), come(1, 0), come(0, 1), leave(1)}, 0, 4, 1},
		{"first another one, then itself", chain(), []api.Move{want(2), come(2, 1), want(1), come(1, 0), come(0, 1)}, 0, 6, 2},
		{"the other one enters", chain(), []api.Move{want(2), come(2, 1), want(1), come(1, 0), come(0, 1), come(1, 2)}, 4, 2, 1},
		{"and leaves before the request comes", chain(), []api.Move{want(2), come(2, 1), want(1), come(1, 0), come(0, 1), come(1, 2), leave(2)}, 0, 2, 1},
		{"and sends the token when it comes", chain(), []api.Move{want(2), come(2, 1), want(1), come(1, 0), come(0, 1), come(1, 2), leave(2), come(1, 2)}, 0, 2, 1},

		{"two requests come inside", star(), []api.Move{want(0), want(1), want(2), come(2, 0), come(1, 0)}, 1, 6, 0},
		{"the first one gets the token and a request", star(), []api.Move{want(0), want(1), want(2), come(2, 0), come(1, 0), leave(0)}, 0, 6, 2},
		{"not the other one", star(), []api.Move{want(0), want(1), want(2), come(2, 0), come(1, 0), leave(0), come(0, 2)}, 4, 2, 1},
		{"one request behind the token for several", fan(),
			[]api.Move{want(2), want(0), come(0, 2), want(4), come(4, 2), leave(2), want(2)}, 0, 21, 2},
		{"one whose queue is not empty does not ask behind the token", fan(),
			[]api.Move{want(2), want(0), come(0, 2), want(4), come(4, 2), leave(2), come(2, 0), come(2, 0), leave(0)}, 0, 16, 1},
		{"one who is inside does not ask", chain(), []api.Move{want(0), want(1), come(1, 0)}, 1, 2, 0},
	} {
		expected := api.Turns{Codes: make([]api.Errno, len(c.script)), In: c.in, Want: c.want, Way: c.way}
		if r, code := Play(c.up, c.script); !same(r, expected) || code != api.OK {
			t.Errorf("%s: %v, %d, want %v", c.name, r, code, expected)
		}
	}
}

// Kinds of facts of a history.
const (
	wants = iota
	enters
	leaves
	sendsRequest
	sendsToken
	takesRequest
	takesToken
)

// fact is something that a process did, with a neighbor if it is a message.
type fact struct{ kind, proc, other int }

// history is all facts, in order. All else is derived from them, and none of
// it is stored.
type history struct {
	up    []int
	facts []fact
}

// add adds a fact.
func (h *history) add(kind, proc, other int) {
	h.facts = append(h.facts, fact{kind, proc, other})
}

// last returns the last fact of a process among several kinds, and whether
// there is one.
func (h *history) last(proc int, kinds ...int) (fact, bool) {
	for _, f := range slices.Backward(h.facts) {
		if f.proc == proc && slices.Contains(kinds, f.kind) {
			return f, true
		}
	}
	return fact{}, false
}

// points returns the process to which a process points.
func (h *history) points(proc int) int {
	switch f, moved := h.last(proc, sendsToken, takesToken); {
	case !moved:
		return h.up[proc]
	case f.kind == sendsToken:
		return f.other
	}
	return proc
}

func (h *history) inside(proc int) bool {
	f, some := h.last(proc, enters, leaves)
	return some && f.kind == enters
}

// queue returns the queue of a process: all that were ever appended, without as
// many as have been served.
func (h *history) queue(proc int) []int {
	var appended []int
	served := 0
	for _, f := range h.facts {
		switch {
		case f.proc != proc:
		case f.kind == wants:
			appended = append(appended, proc)
		case f.kind == takesRequest:
			appended = append(appended, f.other)
		case f.kind == enters, f.kind == sendsToken:
			served++
		}
	}
	return appended[served:]
}

// transit returns the kinds of the messages from one process to another one
// that are in transit: all that were ever sent, without as many as have been
// received.
func (h *history) transit(from, to int) []int {
	var sent []int
	taken := 0
	for _, f := range h.facts {
		switch {
		case f.kind < sendsRequest:
		case f.kind <= sendsToken && f.proc == from && f.other == to:
			sent = append(sent, f.kind)
		case f.kind >= takesRequest && f.proc == to && f.other == from:
			taken++
		}
	}
	return sent[taken:]
}

// asked reports whether a process has sent a request since it had the token
// last.
func (h *history) asked(proc int) bool {
	f, some := h.last(proc, sendsRequest, sendsToken)
	return some && f.kind == sendsRequest
}

// settle adds what a process does by itself: one that has the token serves the
// head of its queue, and one that does not have it asks for it once.
func (h *history) settle(proc int) {
	if q := h.queue(proc); len(q) > 0 && h.points(proc) == proc && !h.inside(proc) {
		if q[0] == proc {
			h.add(enters, proc, proc)
		} else {
			h.add(sendsToken, proc, q[0])
		}
	}
	if len(h.queue(proc)) > 0 && h.points(proc) != proc && !h.asked(proc) {
		h.add(sendsRequest, proc, h.points(proc))
	}
}

// judge returns the code of an operation.
func (h *history) judge(m api.Move) api.Errno {
	outside := func(proc int) bool { return proc < 0 || proc >= len(h.up) }
	switch {
	case m.Kind != api.WWant && m.Kind != api.WCome && m.Kind != api.WLeave:
		return api.ErrKind
	case outside(m.From), m.Kind == api.WCome && (outside(m.To) || m.From == m.To):
		return api.ErrArg
	case m.Kind == api.WWant && (h.inside(m.From) || slices.Contains(h.queue(m.From), m.From)):
		return api.ErrHold
	case m.Kind == api.WLeave && !h.inside(m.From):
		return api.ErrHold
	case m.Kind == api.WCome && len(h.transit(m.From, m.To)) == 0:
		return api.ErrNone
	}
	return api.OK
}

// accept executes an operation whose code is OK.
func (h *history) accept(m api.Move) {
	switch m.Kind {
	case api.WWant:
		h.add(wants, m.From, m.From)
		h.settle(m.From)
	case api.WCome:
		h.add(h.transit(m.From, m.To)[0]+takesRequest-sendsRequest, m.To, m.From)
		h.settle(m.To)
	case api.WLeave:
		h.add(leaves, m.From, m.From)
		h.settle(m.From)
	}
}

// result returns what is the case after all operations, without their codes.
func (h *history) result() api.Turns {
	var r api.Turns
	for proc := range h.up {
		if h.inside(proc) {
			r.In += 1 << proc
		}
		if slices.Contains(h.queue(proc), proc) {
			r.Want += 1 << proc
		}
		for to := range h.up {
			r.Way += len(h.transit(proc, to))
		}
	}
	return r
}

// expect returns the history of a script, and what Play should return.
func expect(up []int, script []api.Move) (*history, api.Turns) {
	h := &history{up: up}
	var codes []api.Errno
	for _, m := range script {
		code := h.judge(m)
		if code == api.OK {
			h.accept(m)
		}
		codes = append(codes, code)
	}
	r := h.result()
	r.Codes = codes
	return h, r
}

// compare holds Play against the history, checks that at most one process is
// in the critical section, and returns the result.
func compare(t *testing.T, up []int, script []api.Move) api.Turns {
	t.Helper()
	_, expected := expect(up, script)
	r, code := Play(up, script)
	if !same(r, expected) || code != api.OK {
		t.Fatalf("%v, %v: %v, %d, want %v", up, script, r, code, expected)
	}
	if bits.OnesCount32(r.In) > 1 || r.In&r.Want != 0 {
		t.Fatalf("%v, %v: %b are inside, %b want", up, script, r.In, r.Want)
	}
	return r
}

// moves returns all operations of n processes with valid processes.
func moves(n int) []api.Move {
	var l []api.Move
	for from := range n {
		l = append(l, want(from), leave(from))
		for to := range n {
			if to != from {
				l = append(l, come(from, to))
			}
		}
	}
	return l
}

// trees returns all trees of n processes.
func trees(n int) [][]int {
	var l [][]int
	eachList(n, func(up []int) {
		if growsFromOneRoot(up) {
			l = append(l, slices.Clone(up))
		}
	})
	return l
}

// TestSmallScripts compares all scripts without rejected operations in all
// trees of up to three processes, up to a length for each number of processes,
// and each of them with one more operation, which may be rejected.
func TestSmallScripts(t *testing.T) {
	lengths := []int{0, 8, 13, 8}
	for n := 1; n <= 3; n++ {
		for _, up := range trees(n) {
			var extend func([]api.Move)
			extend = func(script []api.Move) {
				if len(script) == lengths[n] {
					return
				}
				for _, m := range moves(n) {
					longer := append(slices.Clone(script), m)
					if r := compare(t, up, longer); r.Codes[len(script)] == api.OK {
						extend(longer)
					}
				}
			}
			extend(nil)
		}
	}
}

// scatter returns a script of random operations in a tree. Most of them are
// accepted, and some processes want to enter rarely.
func scatter(r *rand.Rand, up []int, length int) []api.Move {
	n := len(up)
	lazy := make([]int, n)
	for proc := range lazy {
		lazy[proc] = 1 + r.Intn(12)
	}
	h := &history{up: up}
	var script []api.Move
	for len(script) < length {
		from := r.Intn(n)
		m := api.Move{Kind: 1 + r.Intn(3), From: from, To: (from + 1 + r.Intn(max(n-1, 1))) % n}
		if m.Kind == api.WWant && r.Intn(lazy[from]) > 0 {
			continue
		}
		if h.judge(m) == api.OK {
			h.accept(m)
		} else if r.Intn(60) > 0 {
			continue
		}
		script = append(script, m)
	}
	return script
}

// plant returns a random tree of up to MaxProc processes.
func plant(r *rand.Rand) []int {
	n := 1 + r.Intn(api.MaxProc)
	names := r.Perm(n)
	up := make([]int, n)
	for i, proc := range names {
		up[proc] = names[r.Intn(max(i, 1))]
	}
	return up
}

// TestLargeScripts compares random scripts in random trees.
func TestLargeScripts(t *testing.T) {
	r := rand.New(rand.NewSource(11))
	inside, waiting, quiet := 0, 0, 0
	for range 4000 {
		up := plant(r)
		switch result := compare(t, up, scatter(r, up, r.Intn(api.MaxMoves+1))); {
		case len(up) > 2 && result.In != 0 && result.Want != 0:
			inside++
		case len(up) > 2 && bits.OnesCount32(result.Want) > 1:
			waiting++
		case len(up) > 2 && result.Want == 0 && result.Way == 0:
			quiet++
		}
	}
	if inside < 100 || waiting < 100 || quiet < 100 {
		t.Errorf("inside while others wait: %d, several wait: %d, nobody waits: %d", inside, waiting, quiet)
	}
}

// follow follows pointers from a process until one points to itself, or to a
// neighbor to which it has sent the token, and returns this neighbor.
func (s *system) follow(proc int) int {
	for range s.processes {
		next := s.processes[proc].pointer
		if next == proc || slices.Contains(s.transit[channel{proc, next}], token) {
			return next
		}
		proc = next
	}
	return -1
}

// TestOneToken: whatever the script, after each operation there is one token,
// with a process or in transit, the pointers of all processes lead to it over
// links of the tree, it is with the process that is in the critical section,
// if there is one, and nobody is twice in a queue.
func TestOneToken(t *testing.T) {
	r := rand.New(rand.NewSource(110))
	for range 500 {
		up := plant(r)
		s := start(up)
		for _, m := range scatter(r, up, api.MaxMoves) {
			s.execute(m)
			place, tokens := s.follow(0), 0
			for proc, p := range s.processes {
				if p.pointer == proc {
					tokens++
				} else if up[proc] != p.pointer && up[p.pointer] != proc {
					t.Fatalf("%v: %d points to %d", up, proc, p.pointer)
				}
				if s.follow(proc) != place || p.inside && proc != place {
					t.Fatalf("%v: from 0 to %d, from %d to %d", up, place, proc, s.follow(proc))
				}
				sorted := slices.Sorted(slices.Values(p.queue))
				if len(slices.Compact(sorted)) < len(p.queue) {
					t.Fatalf("%v: queue of %d: %v", up, proc, p.queue)
				}
			}
			for _, messages := range s.transit {
				for _, m := range messages {
					if m == token {
						tokens++
					}
				}
			}
			if tokens != 1 || place < 0 {
				t.Fatalf("%v: %d tokens, at %d", up, tokens, place)
			}
		}
	}
}

// TestEnd: if nobody wants to enter any more, messages are received in any
// order and whoever enters leaves, all that wanted to enter do, and each token
// that was sent answers a request in the other direction.
func TestEnd(t *testing.T) {
	r := rand.New(rand.NewSource(1100))
	for range 500 {
		up := plant(r)
		n := len(up)
		s := start(up)
		wanted, entered := 0, 0
		requests, tokens := map[channel]int{}, map[channel]int{}
		execute := func(m api.Move) {
			before := s.set(s.isInside)
			if l := s.transit[channel{m.From, m.To}]; m.Kind == api.WCome && len(l) > 0 {
				if l[0] == request {
					requests[channel{m.From, m.To}]++
				} else {
					tokens[channel{m.To, m.From}]++
				}
			}
			if s.execute(m) == api.OK && m.Kind == api.WWant {
				wanted++
			}
			if after := s.set(s.isInside); before == 0 && after != 0 {
				entered++
			}
		}
		script := scatter(r, up, r.Intn(api.MaxMoves))
		for _, m := range script {
			execute(m)
		}
		rest := slices.DeleteFunc(moves(n), func(m api.Move) bool { return m.Kind == api.WWant })
		for range 10 * n * n {
			r.Shuffle(len(rest), func(i, j int) { rest[i], rest[j] = rest[j], rest[i] })
			for _, m := range rest {
				execute(m)
			}
		}
		if s.set(s.isInside) != 0 || s.set(s.wants) != 0 || s.way() != 0 || entered != wanted {
			t.Fatalf("%v, %v: %d wanted, %d entered, %b inside, %b want, %d in transit",
				up, script, wanted, entered, s.set(s.isInside), s.set(s.wants), s.way())
		}
		if !maps.Equal(requests, tokens) {
			t.Fatalf("%v, %v: requests %v, tokens %v", up, script, requests, tokens)
		}
	}
}

// TestRejectedChangesNothing: with rejected operations in between, the other
// operations have the same results.
func TestRejectedChangesNothing(t *testing.T) {
	for _, script := range [][]api.Move{
		append(fetch(2, 1, 0), leave(2), want(0), come(0, 1), come(1, 2)),
		{want(2), come(2, 1), want(1), come(1, 0), want(0), come(0, 1), come(1, 2), leave(2), come(0, 1), come(1, 2)},
		{want(0), want(1), come(1, 0), leave(0), want(0), come(0, 1)},
	} {
		for at := range len(script) + 1 {
			h, _ := expect(chain(), script[:at])
			rejected := []api.Move{{Kind: 9, To: 1}, want(3), come(0, 0), come(0, 7), leave(-1)}
			for _, m := range moves(3) {
				if h.judge(m) != api.OK {
					rejected = append(rejected, m)
				}
			}
			plain, _ := Play(chain(), script)
			r, code := Play(chain(), slices.Concat(script[:at], rejected, script[at:]))
			for i, c := range r.Codes {
				if (c == api.OK) != (i < at || i >= at+len(rejected)) {
					t.Errorf("%v, others at %d: %v", script, at, r.Codes)
				}
			}
			plain.Codes = r.Codes
			if !same(r, plain) || code != api.OK {
				t.Errorf("%v, others at %d: %v, %d, want %v", script, at, r, code, plain)
			}
		}
	}
}

// TestArgumentsStay: the lists are not modified, what lies beyond their lengths
// is neither read nor written, and results are new memory.
func TestArgumentsStay(t *testing.T) {
	parents := func() []int { return []int{0, 0, 1, 9} }
	whole := func() []api.Move { return append(fetch(1, 0), leave(1), leave(1)) }
	expected := api.Turns{Codes: make([]api.Errno, 3), In: 2}
	up, script := parents(), whole()
	for range 2 {
		r, code := Play(up[:2], script[:3])
		if !same(r, expected) || code != api.OK {
			t.Errorf("%v, %d, want %v", r, code, expected)
		}
		codes := r.Codes[:cap(r.Codes)]
		for i := range codes {
			codes[i] = api.ErrOld
		}
	}
	if !slices.Equal(up, parents()) || !slices.Equal(script, whole()) {
		t.Error("an argument was modified:", up, script)
	}
}

// TestNilAndEmpty: they are equivalent.
func TestNilAndEmpty(t *testing.T) {
	a, first := Play([]int{0, 0}, nil)
	b, second := Play([]int{0, 0}, []api.Move{})
	if !empty(a) || !empty(b) || first != api.OK || second != api.OK {
		t.Error(a, first, b, second)
	}
	for _, up := range [][]int{nil, {}} {
		if r, code := Play(up, nil); !empty(r) || code != api.ErrLarge {
			t.Error(r, code)
		}
	}
}
