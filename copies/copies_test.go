package copies

import (
	"math"
	"math/rand"
	"slices"
	"testing"

	"beaconry/api"
)

func write(from, val int) api.Move { return api.Move{Kind: api.COpen, From: from, Val: val} }
func read(from int) api.Move       { return api.Move{Kind: api.COpen, From: from, Val: -1} }
func reach(from, to int) api.Move  { return api.Move{Kind: api.CReach, From: from, To: to} }
func fail(to int) api.Move         { return api.Move{Kind: api.CFail, To: to} }

// visit returns the operations by which a client reaches replicas one by one.
func visit(from int, replicas ...int) []api.Move {
	var l []api.Move
	for _, to := range replicas {
		l = append(l, reach(from, to))
	}
	return l
}

// whole returns a start and the operations by which its client reaches replicas
// in the first phase, and the same ones in the second phase.
func whole(start api.Move, replicas ...int) []api.Move {
	return slices.Concat([]api.Move{start}, visit(start.From, replicas...), visit(start.From, replicas...))
}

// join returns a script of several parts.
func join(parts ...[]api.Move) []api.Move { return slices.Concat(parts...) }

// one returns a script of one operation.
func one(m api.Move) []api.Move { return []api.Move{m} }

// same reports whether two results are equal, with nil and empty lists alike.
func same(a, b api.Copies) bool {
	return slices.Equal(a.Codes, b.Codes) && sameButCodes(a, b)
}

// sameButCodes reports whether two results are equal if their codes do not
// count.
func sameButCodes(a, b api.Copies) bool {
	return slices.Equal(a.Ops, b.Ops) && slices.Equal(a.Stamp, b.Stamp) && slices.Equal(a.Val, b.Val)
}

// empty reports whether a result is the zero value, with nil and empty lists
// alike.
func empty(r api.Copies) bool { return same(r, api.Copies{}) }

func TestErrors(t *testing.T) {
	many := slices.Repeat(one(write(0, 7)), api.MaxMoves+1)
	for _, c := range []struct {
		name   string
		n      int
		script []api.Move
	}{
		{"no replica", 0, one(write(0, 7))},
		{"no replica, no operation", 0, nil},
		{"replicas below 0", -1, nil},
		{"least number of replicas", math.MinInt, nil},
		{"one replica too many", api.MaxProc + 1, nil},
		{"one replica too many with operations", api.MaxProc + 1, whole(write(0, 7), 0, 1, 2, 3)},
		{"greatest number of replicas", math.MaxInt, nil},
		{"one operation too many", 1, many},
		{"one operation too many, most replicas", api.MaxProc, many},
		{"many operations", 3, slices.Repeat(many, 20)},
		{"one invalid operation too many", 2, make([]api.Move, api.MaxMoves+1)},
		{"no replica and too many operations", 0, many},
		{"too many of both", api.MaxProc + 1, many},
	} {
		if r, code := Play(c.n, c.script); !empty(r) || code != api.ErrLarge {
			t.Errorf("%s: %v, %d", c.name, r, code)
		}
	}
}

// TestLimits: the greatest number of replicas and the longest script are valid.
func TestLimits(t *testing.T) {
	for n := 1; n <= api.MaxProc; n++ {
		for _, length := range []int{0, 1, api.MaxMoves - 1, api.MaxMoves} {
			expected := api.Copies{Codes: slices.Repeat([]api.Errno{api.ErrKind}, length), Stamp: make([]int, n), Val: make([]int, n)}
			if r, code := Play(n, make([]api.Move, length)); !same(r, expected) || code != api.OK {
				t.Errorf("%d replicas, %d operations: %v, %d", n, length, r, code)
			}
		}
	}
}

// TestCodes: the code of the last operation of each script with three
// replicas, when all before it are valid.
func TestCodes(t *testing.T) {
	for _, c := range []struct {
		name   string
		before []api.Move
		last   api.Move
		want   api.Errno
	}{
		{"kind 0", nil, api.Move{}, api.ErrKind},
		{"kind 4", nil, api.Move{Kind: api.CFail + 1}, api.ErrKind},
		{"kind below 0", nil, api.Move{Kind: -1}, api.ErrKind},
		{"least kind", nil, api.Move{Kind: math.MinInt}, api.ErrKind},
		{"greatest kind", nil, api.Move{Kind: math.MaxInt}, api.ErrKind},
		{"ErrKind before ErrArg", nil, api.Move{Kind: 4, From: -1, To: 9}, api.ErrKind},

		{"write of below 0", nil, write(-1, 7), api.ErrArg},
		{"write of MaxProc", nil, write(api.MaxProc, 7), api.ErrArg},
		{"write of the least", nil, write(math.MinInt, 7), api.ErrArg},
		{"write of the greatest", nil, write(math.MaxInt, 7), api.ErrArg},
		{"read of below 0", nil, read(-1), api.ErrArg},
		{"read of MaxProc", nil, read(api.MaxProc), api.ErrArg},
		{"reach of below 0", nil, reach(-1, 0), api.ErrArg},
		{"reach of MaxProc", nil, reach(api.MaxProc, 0), api.ErrArg},
		{"reach of the least", nil, reach(math.MinInt, 0), api.ErrArg},
		{"reach of the greatest", nil, reach(math.MaxInt, 0), api.ErrArg},
		{"reach of a replica below 0", one(read(0)), reach(0, -1), api.ErrArg},
		{"reach of replica n", one(read(0)), reach(0, 3), api.ErrArg},
		{"reach of the least replica", one(read(0)), reach(0, math.MinInt), api.ErrArg},
		{"reach of the greatest replica", one(read(0)), reach(0, math.MaxInt), api.ErrArg},
		{"failure below 0", nil, fail(-1), api.ErrArg},
		{"failure of n", nil, fail(3), api.ErrArg},
		{"failure of the least", nil, fail(math.MinInt), api.ErrArg},
		{"failure of the greatest", nil, fail(math.MaxInt), api.ErrArg},
		{"ErrArg of the replica before ErrHold", nil, reach(0, 3), api.ErrArg},
		{"ErrArg of the client before ErrNone", one(fail(0)), reach(9, 0), api.ErrArg},

		{"write", nil, write(0, 7), api.OK},
		{"write of 0", nil, write(0, 0), api.OK},
		{"write of the greatest", nil, write(0, math.MaxInt), api.OK},
		{"read", nil, read(0), api.OK},
		{"read with the least", nil, write(0, math.MinInt), api.OK},
		{"a client with the number n", nil, write(3, 7), api.OK},
		{"the last client", nil, read(api.MaxProc - 1), api.OK},
		{"two writes", one(write(0, 7)), write(0, 8), api.ErrHold},
		{"a write and a read", one(write(0, 7)), read(0), api.ErrHold},
		{"a read and a write", one(read(0)), write(0, 7), api.ErrHold},
		{"two reads", one(read(4)), read(4), api.ErrHold},
		{"two clients", one(write(0, 7)), write(1, 7), api.OK},
		{"write in the first phase", join(one(read(0)), visit(0, 1)), write(0, 7), api.ErrHold},
		{"write between the phases", join(one(read(0)), visit(0, 1, 2)), write(0, 7), api.ErrHold},
		{"write in the second phase", join(one(read(0)), visit(0, 1, 2, 0)), write(0, 7), api.ErrHold},
		{"write after a read", whole(read(0), 1, 2), write(0, 7), api.OK},
		{"read after a write", whole(write(0, 7), 1, 2), read(0), api.OK},
		{"write when all have failed", []api.Move{fail(0), fail(1), fail(2)}, write(0, 7), api.OK},

		{"reach at first", nil, reach(0, 0), api.ErrHold},
		{"reach of another client", one(write(0, 7)), reach(1, 0), api.ErrHold},
		{"reach after a write", whole(write(0, 7), 0, 1), reach(0, 2), api.ErrHold},
		{"reach after a read", whole(read(0), 0, 1), reach(0, 2), api.ErrHold},
		{"reach again after a write", whole(write(0, 7), 0, 1), reach(0, 1), api.ErrHold},
		{"ErrHold before ErrNone", one(fail(1)), reach(0, 1), api.ErrHold},
		{"ErrHold before ErrNone after a write", join(whole(write(0, 7), 0, 1), one(fail(1))), reach(0, 1), api.ErrHold},
		{"reach of the first", one(write(0, 7)), reach(0, 0), api.OK},
		{"reach of the last", one(write(0, 7)), reach(0, 2), api.OK},
		{"reach of two", join(one(write(0, 7)), visit(0, 2)), reach(0, 1), api.OK},
		{"reach twice", join(one(write(0, 7)), visit(0, 1)), reach(0, 1), api.ErrOld},
		{"reach in the first phase of two", join([]api.Move{write(0, 7), write(1, 8)}, visit(0, 1)), reach(1, 1), api.OK},
		{"reach of the last one again", join(one(write(0, 7)), visit(0, 1, 0)), reach(0, 0), api.OK},
		{"reach of the first one again", join(one(write(0, 7)), visit(0, 1, 0)), reach(0, 1), api.OK},
		{"reach of the third one", join(one(write(0, 7)), visit(0, 1, 0)), reach(0, 2), api.OK},
		{"reach twice in the second phase", join(one(write(0, 7)), visit(0, 1, 0, 1)), reach(0, 1), api.ErrOld},
		{"reach twice in the second phase of a read", join(one(read(0)), visit(0, 1, 0, 2)), reach(0, 2), api.ErrOld},
		{"reach of two in the second phase", join(one(write(0, 7)), visit(0, 1, 0, 2)), reach(0, 0), api.OK},
		{"reach of a failed one", []api.Move{fail(1), write(0, 7)}, reach(0, 1), api.ErrNone},
		{"reach of one that failed later", []api.Move{write(0, 7), fail(1)}, reach(0, 1), api.ErrNone},
		{"reach of another one", []api.Move{write(0, 7), fail(1)}, reach(0, 2), api.OK},
		{"reach of one that failed between the phases", join(one(write(0, 7)), visit(0, 0, 1), one(fail(1))), reach(0, 1), api.ErrNone},
		{"ErrOld before ErrNone", join(one(write(0, 7)), visit(0, 1), one(fail(1))), reach(0, 1), api.ErrOld},
		{"ErrOld before ErrNone in the second phase", join(one(write(0, 7)), visit(0, 0, 1, 1), one(fail(1))), reach(0, 1), api.ErrOld},
		{"a failed one that was not reached in this phase", join(one(write(0, 7)), visit(0, 0, 1, 0), one(fail(1))), reach(0, 1), api.ErrNone},
		{"reach in the next operation", join(whole(write(0, 7), 0, 1), one(read(0))), reach(0, 1), api.OK},

		{"failure", nil, fail(0), api.OK},
		{"failure of the last", nil, fail(2), api.OK},
		{"failure twice", one(fail(0)), fail(0), api.ErrHold},
		{"failure of another one", one(fail(0)), fail(1), api.OK},
		{"failure of all", []api.Move{fail(0), fail(2)}, fail(1), api.OK},
		{"failure twice with others in between", []api.Move{fail(2), fail(0), write(0, 7), reach(0, 1)}, fail(2), api.ErrHold},

		{"a start ignores To", nil, api.Move{Kind: api.COpen, To: -7, Val: 7}, api.OK},
		{"a start ignores To that is n", nil, api.Move{Kind: api.COpen, To: 3, Val: -1}, api.OK},
		{"a start ignores To that has failed", one(fail(1)), api.Move{Kind: api.COpen, To: 1}, api.OK},
		{"a reach ignores Val", one(write(0, 7)), api.Move{Kind: api.CReach, To: 1, Val: -9}, api.OK},
		{"a failure ignores From and Val", nil, api.Move{Kind: api.CFail, From: -1, To: 1, Val: -9}, api.OK},
		{"a failure ignores From that is MaxProc", nil, api.Move{Kind: api.CFail, From: api.MaxProc, To: 1}, api.OK},
	} {
		codes := make([]api.Errno, len(c.before)+1)
		codes[len(c.before)] = c.want
		if r, code := Play(3, append(c.before, c.last)); !slices.Equal(r.Codes, codes) || code != api.OK {
			t.Errorf("%s: %v, %d, want %v", c.name, r.Codes, code, codes)
		}
	}
}

// TestResults: what is the case after scripts without rejected operations.
func TestResults(t *testing.T) {
	wrote := func(from, begin, end, val int) api.Op {
		return api.Op{From: from, Begin: begin, End: end, Write: true, Val: val}
	}
	found := func(from, begin, end, val int) api.Op {
		return api.Op{From: from, Begin: begin, End: end, Val: val}
	}
	for _, c := range []struct {
		name   string
		script []api.Move
		ops    []api.Op
		stamp  []int
		val    []int
	}{
		{"nothing, one replica", nil, nil, []int{0}, []int{0}},
		{"nothing, most replicas", nil, nil, make([]int, 6), make([]int, 6)},
		{"a start", one(write(1, 7)), nil, []int{0}, []int{0}},
		{"a query", []api.Move{write(1, 7), reach(1, 0)}, nil, []int{0}, []int{0}},
		{"the example", whole(write(0, 7), 0), []api.Op{wrote(0, 0, 2, 7)}, []int{6}, []int{7}},
		{"client 1", whole(write(1, 7), 0), []api.Op{wrote(1, 0, 2, 7)}, []int{1}, []int{7}},
		{"client 5", whole(write(5, 7), 0), []api.Op{wrote(5, 0, 2, 7)}, []int{5}, []int{7}},
		{"a write of 0", whole(write(2, 0), 0), []api.Op{wrote(2, 0, 2, 0)}, []int{2}, []int{0}},
		{"a write of the greatest", whole(write(2, math.MaxInt), 0), []api.Op{wrote(2, 0, 2, math.MaxInt)}, []int{2}, []int{math.MaxInt}},
		{"a read of the initial value", whole(read(1), 0), []api.Op{found(1, 0, 2, 0)}, []int{0}, []int{0}},
		{"a read of the initial value with the least", whole(write(1, math.MinInt), 0), []api.Op{found(1, 0, 2, 0)}, []int{0}, []int{0}},
		{"a read of what was written", join(whole(write(3, 7), 0), whole(read(1), 0)), []api.Op{wrote(3, 0, 2, 7), found(1, 3, 5, 7)}, []int{3}, []int{7}},
		{"its own", join(whole(write(3, 7), 0), whole(read(3), 0)), []api.Op{wrote(3, 0, 2, 7), found(3, 3, 5, 7)}, []int{3}, []int{7}},
		{"two writes of a client", join(whole(write(3, 7), 0), whole(write(3, 8), 0)), []api.Op{wrote(3, 0, 2, 7), wrote(3, 3, 5, 8)}, []int{9}, []int{8}},
		{"two writes of client 0", join(whole(write(0, 7), 0), whole(write(0, 8), 0)), []api.Op{wrote(0, 0, 2, 7), wrote(0, 3, 5, 8)}, []int{12}, []int{8}},
		{"a client with a greater number", join(whole(write(3, 7), 0), whole(write(4, 8), 0)), []api.Op{wrote(3, 0, 2, 7), wrote(4, 3, 5, 8)}, []int{4}, []int{8}},
		{"a client with a smaller number", join(whole(write(3, 7), 0), whole(write(2, 8), 0)), []api.Op{wrote(3, 0, 2, 7), wrote(2, 3, 5, 8)}, []int{8}, []int{8}},
		{"client 0 after client 5", join(whole(write(5, 7), 0), whole(write(0, 8), 0)), []api.Op{wrote(5, 0, 2, 7), wrote(0, 3, 5, 8)}, []int{6}, []int{8}},
		{"client 5 after client 0", join(whole(write(0, 7), 0), whole(write(5, 8), 0)), []api.Op{wrote(0, 0, 2, 7), wrote(5, 3, 5, 8)}, []int{11}, []int{8}},
		{"numbers of operations with others in between", []api.Move{read(2), write(3, 7), reach(3, 0), reach(2, 0), reach(3, 0), reach(2, 0)},
			[]api.Op{wrote(3, 1, 4, 7), found(2, 0, 5, 0)}, []int{3}, []int{7}},
		{"two writes at the same time, the later one with the smaller timestamp", []api.Move{write(2, 7), write(3, 8), reach(2, 0), reach(3, 0), reach(3, 0), reach(2, 0)},
			[]api.Op{wrote(3, 1, 4, 8), wrote(2, 0, 5, 7)}, []int{3}, []int{8}},
		{"two writes at the same time, the later one with the greater timestamp", []api.Move{write(2, 7), write(3, 8), reach(2, 0), reach(3, 0), reach(2, 0), reach(3, 0)},
			[]api.Op{wrote(2, 0, 4, 7), wrote(3, 1, 5, 8)}, []int{3}, []int{8}},

		{"two replicas need both", []api.Move{write(1, 7), reach(1, 0), reach(1, 1), reach(1, 0)}, nil, []int{1, 0}, []int{7, 0}},
		{"two replicas", whole(write(1, 7), 0, 1), []api.Op{wrote(1, 0, 4, 7)}, []int{1, 1}, []int{7, 7}},
		{"three replicas need two", join(one(write(1, 7)), visit(1, 0, 1, 2)), nil, []int{0, 0, 1}, []int{0, 0, 7}},
		{"three replicas", join(one(write(1, 7)), visit(1, 0, 1, 2, 1)), []api.Op{wrote(1, 0, 4, 7)}, []int{0, 1, 1}, []int{0, 7, 7}},
		{"four replicas need three", join(one(write(1, 7)), visit(1, 0, 1, 3, 3, 0)), nil, []int{1, 0, 0, 1}, []int{7, 0, 0, 7}},
		{"four replicas", whole(write(1, 7), 3, 0, 1), []api.Op{wrote(1, 0, 6, 7)}, []int{1, 1, 0, 1}, []int{7, 7, 0, 7}},
		{"five replicas", whole(write(1, 7), 4, 2, 0), []api.Op{wrote(1, 0, 6, 7)}, []int{1, 0, 1, 0, 1}, []int{7, 0, 7, 0, 7}},
		{"six replicas need four", join(one(write(1, 7)), visit(1, 0, 1, 2, 3, 3, 2, 1)), nil, []int{0, 1, 1, 1, 0, 0}, []int{0, 7, 7, 7, 0, 0}},
		{"six replicas", whole(write(1, 7), 5, 1, 2, 3), []api.Op{wrote(1, 0, 8, 7)}, []int{0, 1, 1, 1, 0, 1}, []int{0, 7, 7, 7, 0, 7}},

		{"a read stores what it found", join(whole(write(1, 7), 0, 1), one(read(2)), visit(2, 2, 1, 2)), []api.Op{wrote(1, 0, 4, 7)}, []int{1, 1, 1}, []int{7, 7, 7}},
		{"a read of a write in progress", join(one(write(1, 7)), visit(1, 0, 1, 0), whole(read(2), 0, 2)),
			[]api.Op{found(2, 4, 8, 7)}, []int{1, 0, 1}, []int{7, 0, 7}},
		{"a read that misses a write in progress", join(one(write(1, 7)), visit(1, 0, 1, 0), whole(read(2), 1, 2)),
			[]api.Op{found(2, 4, 8, 0)}, []int{1, 0, 0}, []int{7, 0, 0}},
		{"the greatest of those found comes first", join(one(write(4, 7)), visit(4, 0, 1, 0), one(read(2)), visit(2, 0, 1, 1, 2)),
			[]api.Op{found(2, 4, 8, 7)}, []int{4, 4, 4}, []int{7, 7, 7}},
		{"the greatest of those found comes last", join(one(write(4, 7)), visit(4, 0, 1, 0), one(read(2)), visit(2, 1, 0, 1, 2)),
			[]api.Op{found(2, 4, 8, 7)}, []int{4, 4, 4}, []int{7, 7, 7}},
		{"a greater value with a smaller timestamp", join(whole(write(1, 9), 0, 1), whole(write(2, 5), 1, 2), whole(read(3), 0, 2)),
			[]api.Op{wrote(1, 0, 4, 9), wrote(2, 5, 9, 5), found(3, 10, 14, 5)}, []int{2, 2, 2}, []int{5, 5, 5}},
		{"an old version does not replace a newer one", join([]api.Move{write(1, 7), write(2, 8)}, visit(1, 0, 1), visit(2, 0, 1, 0, 2), visit(1, 0, 1)),
			[]api.Op{wrote(2, 1, 7, 8), wrote(1, 0, 9, 7)}, []int{2, 1, 2}, []int{8, 7, 8}},
		{"a query does not store", join(whole(write(1, 7), 0, 1), one(write(2, 8)), visit(2, 1, 2)), []api.Op{wrote(1, 0, 4, 7)}, []int{1, 1, 0}, []int{7, 7, 0}},
		{"what was found before is forgotten", join(whole(write(1, 7), 0, 1), whole(write(1, 8), 2, 1)),
			[]api.Op{wrote(1, 0, 4, 7), wrote(1, 5, 9, 8)}, []int{1, 7, 7}, []int{7, 8, 8}},
		{"a failed replica keeps what it has", join(whole(write(1, 7), 0, 1), one(fail(0)), whole(write(1, 8), 2, 1)),
			[]api.Op{wrote(1, 0, 4, 7), wrote(1, 6, 10, 8)}, []int{1, 7, 7}, []int{7, 8, 8}},
		{"a failed replica that was queried counts", join(one(write(1, 7)), visit(1, 0), one(fail(0)), visit(1, 1, 1, 2)),
			[]api.Op{wrote(1, 0, 5, 7)}, []int{0, 1, 1}, []int{0, 7, 7}},
		{"failures do not change what a majority is", join([]api.Move{fail(0), fail(1), write(1, 7)}, visit(1, 2, 3)), nil, make([]int, 5), make([]int, 5)},
		{"nor when a majority has failed", []api.Move{fail(0), fail(1), write(1, 7), reach(1, 2)}, nil, make([]int, 3), make([]int, 3)},
	} {
		expected := api.Copies{Codes: make([]api.Errno, len(c.script)), Ops: c.ops, Stamp: c.stamp, Val: c.val}
		if r, code := Play(len(c.stamp), c.script); !same(r, expected) || code != api.OK {
			t.Errorf("%s: %v, %d, want %v", c.name, r, code, expected)
		}
	}
}

// fact is an accepted operation with its number in the script.
type fact struct {
	number int
	move   api.Move
}

// history is all facts, in order. All else is derived from them: an operation
// has as many replicas as a majority in its first phase, and the same number
// in its second phase.
type history struct {
	n     int
	facts []fact
	found map[int]version // by the place of the start, since each is asked for often
}

// visits returns the places of the facts in which a client has reached replicas
// after its start at a place.
func (h *history) visits(start int) []int {
	var l []int
	from := h.facts[start].move.From
	for place := start + 1; place < len(h.facts) && len(l) < 2*(h.n/2+1); place++ {
		if m := h.facts[place].move; m.Kind == api.CReach && m.From == from {
			l = append(l, place)
		}
	}
	return l
}

// stores returns the version that the operation with its start at a place
// stores, once it has queried a majority.
func (h *history) stores(start int) version {
	if v, known := h.found[start]; known {
		return v
	}
	var v version
	for _, place := range h.visits(start)[:h.n/2+1] {
		if seen := h.keeps(h.facts[place].move.To, place); seen.stamp > v.stamp {
			v = seen
		}
	}
	if m := h.facts[start].move; m.Val >= 0 {
		for v.stamp++; v.stamp%api.MaxProc != m.From; v.stamp++ {
		}
		v.val = m.Val
	}
	h.found[start] = v
	return v
}

// keeps returns the version with the greatest timestamp that was stored in a
// replica before a place.
func (h *history) keeps(replica, before int) version {
	var greatest version
	for start, f := range h.facts[:before] {
		if f.move.Kind != api.COpen {
			continue
		}
		for i, place := range h.visits(start) {
			if i <= h.n/2 || place >= before || h.facts[place].move.To != replica {
				continue
			}
			if v := h.stores(start); v.stamp > greatest.stamp {
				greatest = v
			}
		}
	}
	return greatest
}

// current returns the replicas that a client has reached in its phase, and
// whether it has an operation in progress.
func (h *history) current(client int) ([]int, bool) {
	for start, f := range slices.Backward(h.facts) {
		if f.move.Kind != api.COpen || f.move.From != client {
			continue
		}
		var replicas []int
		visits := h.visits(start)
		for _, place := range visits[len(visits)/(h.n/2+1)*(h.n/2+1):] {
			replicas = append(replicas, h.facts[place].move.To)
		}
		return replicas, len(visits) < 2*(h.n/2+1)
	}
	return nil, false
}

// failed reports whether a replica has failed.
func (h *history) failed(replica int) bool {
	return slices.ContainsFunc(h.facts, func(f fact) bool { return f.move.Kind == api.CFail && f.move.To == replica })
}

// judge returns the code of an operation.
func (h *history) judge(m api.Move) api.Errno {
	client, replica := m.From >= 0 && m.From < api.MaxProc, m.To >= 0 && m.To < h.n
	reached, busy := h.current(m.From)
	switch m.Kind {
	case api.COpen:
		switch {
		case !client:
			return api.ErrArg
		case busy:
			return api.ErrHold
		}
	case api.CReach:
		switch {
		case !client, !replica:
			return api.ErrArg
		case !busy:
			return api.ErrHold
		case slices.Contains(reached, m.To):
			return api.ErrOld
		case h.failed(m.To):
			return api.ErrNone
		}
	case api.CFail:
		switch {
		case !replica:
			return api.ErrArg
		case h.failed(m.To):
			return api.ErrHold
		}
	default:
		return api.ErrKind
	}
	return api.OK
}

// ops returns the completed operations in the order of their completion.
func (h *history) ops() []api.Op {
	var l []api.Op
	for start, f := range h.facts {
		if f.move.Kind != api.COpen {
			continue
		}
		if visits := h.visits(start); len(visits) == 2*(h.n/2+1) {
			end := h.facts[visits[len(visits)-1]].number
			l = append(l, api.Op{From: f.move.From, Begin: f.number, End: end, Write: f.move.Val >= 0, Val: h.stores(start).val})
		}
	}
	slices.SortFunc(l, func(a, b api.Op) int { return a.End - b.End })
	return l
}

// expect returns the history of a script, and what Play should return.
func expect(n int, script []api.Move) (*history, api.Copies) {
	h := &history{n: n, found: map[int]version{}}
	var r api.Copies
	for number, m := range script {
		code := h.judge(m)
		if code == api.OK {
			h.facts = append(h.facts, fact{number, m})
		}
		r.Codes = append(r.Codes, code)
	}
	r.Ops = h.ops()
	for replica := range n {
		v := h.keeps(replica, len(h.facts))
		r.Stamp, r.Val = append(r.Stamp, v.stamp), append(r.Val, v.val)
	}
	return h, r
}

// compare holds Play against the history, and returns the result.
func compare(t *testing.T, n int, script []api.Move) api.Copies {
	t.Helper()
	_, expected := expect(n, script)
	r, code := Play(n, script)
	if !same(r, expected) || code != api.OK {
		t.Fatalf("%d, %v: %v, %d, want %v", n, script, r, code, expected)
	}
	return r
}

// moves returns all operations of these clients with n replicas, with one value
// for all writes.
func moves(n int, val int, clients ...int) []api.Move {
	var l []api.Move
	for _, from := range clients {
		l = append(l, write(from, val), read(from))
		for to := range n {
			l = append(l, reach(from, to))
		}
	}
	for to := range n {
		l = append(l, fail(to))
	}
	return l
}

// TestSmallScripts compares all scripts without rejected operations of two
// clients, up to a length for each number of replicas, and each of them with
// one more operation, which may be rejected.
func TestSmallScripts(t *testing.T) {
	lengths := []int{0, 8, 7, 7, 5}
	for n := 1; n < len(lengths); n++ {
		for _, clients := range [][]int{{0, 1}, {5, 2}} {
			var extend func([]api.Move)
			extend = func(script []api.Move) {
				if len(script) == lengths[n] {
					return
				}
				for _, m := range moves(n, 10+len(script), clients...) {
					longer := append(slices.Clone(script), m)
					if r := compare(t, n, longer); r.Codes[len(script)] == api.OK {
						extend(longer)
					}
				}
			}
			extend(nil)
		}
	}
}

// TestLargeScripts compares random scripts.
func TestLargeScripts(t *testing.T) {
	r := rand.New(rand.NewSource(15))
	overtaken, failures := 0, 0
	for range 4000 {
		n := 1 + r.Intn(api.MaxProc)
		script := scatter(r, n, r.Intn(api.MaxMoves+1))
		result := compare(t, n, script)
		if len(result.Ops) > 3 && slices.ContainsFunc(script, func(m api.Move) bool { return m.Kind == api.CFail }) {
			failures++
		}
		if n > 2 && len(slices.Compact(slices.Sorted(slices.Values(result.Stamp)))) > 2 {
			overtaken++
		}
	}
	if overtaken < 300 || failures < 300 {
		t.Errorf("replicas with three versions: %d, failures with several operations: %d", overtaken, failures)
	}
}

// scatter returns a script of random operations of a few clients. Most of them
// are accepted, and few replicas fail.
func scatter(r *rand.Rand, n, length int) []api.Move {
	clients := r.Perm(api.MaxProc)[:1+r.Intn(api.MaxProc)]
	h := &history{n: n, found: map[int]version{}}
	var script []api.Move
	for len(script) < length {
		m := api.Move{Kind: 1 + r.Intn(3), From: clients[r.Intn(len(clients))], To: r.Intn(n)}
		if m.Kind == api.COpen {
			m.Val = r.Intn(60) - 20
		}
		if m.Kind == api.CFail && r.Intn(40) > 0 {
			continue
		}
		if h.judge(m) == api.OK {
			h.facts = append(h.facts, fact{len(script), m})
		} else if r.Intn(30) > 0 && len(clients) > 1 {
			continue
		}
		script = append(script, m)
	}
	return script
}

// TestReplicasDoNotMatter: if the replicas have other numbers, the versions are
// those of the replicas, and nothing else changes.
func TestReplicasDoNotMatter(t *testing.T) {
	r := rand.New(rand.NewSource(150))
	for range 2000 {
		n := 1 + r.Intn(api.MaxProc)
		script := scatter(r, n, api.MaxMoves)
		names := r.Perm(n)
		renamed := slices.Clone(script)
		for i, m := range script {
			renamed[i].To = names[m.To]
		}
		plain, _ := Play(n, script)
		expected := api.Copies{Codes: plain.Codes, Ops: plain.Ops, Stamp: make([]int, n), Val: make([]int, n)}
		for replica, name := range names {
			expected.Stamp[name], expected.Val[name] = plain.Stamp[replica], plain.Val[replica]
		}
		if other, code := Play(n, renamed); !same(other, expected) || code != api.OK {
			t.Fatalf("%d, %v: %v, %d, want %v", n, renamed, other, code, expected)
		}
	}
}

// TestStamps: whatever the script, after each operation the timestamp of each
// replica has not decreased, and the remainder of each timestamp is the client
// that has written the value; no two writes have the same one.
func TestStamps(t *testing.T) {
	rnd := rand.New(rand.NewSource(1500))
	for range 1000 {
		n := 1 + rnd.Intn(api.MaxProc)
		script := scatter(rnd, n, api.MaxMoves)
		values := map[int]int{0: 0}
		for i := range script {
			if script[i].Kind == api.COpen && script[i].Val >= 0 {
				script[i].Val = 1000*script[i].From + i
			}
		}
		before := make([]int, n)
		for length := range script {
			r, code := Play(n, script[:length+1])
			if code != api.OK {
				t.Fatalf("%d, %v: %d", n, script, code)
			}
			for replica, stamp := range r.Stamp {
				val, known := values[stamp]
				if known && val != r.Val[replica] || stamp < before[replica] || stamp > 0 && r.Val[replica]/1000 != stamp%api.MaxProc {
					t.Fatalf("%d, %v: %v, %d after %d operations, before %v", n, script, r.Stamp, r.Val, length+1, before)
				}
				values[stamp] = r.Val[replica]
			}
			before = r.Stamp
		}
	}
}

// TestOneRegister: whatever the script, the operations that were completed, and
// those writes in progress that took effect, have an order in which each one
// that was completed before another one began comes before it, and each read
// returns the value of the last write before it, or 0.
func TestOneRegister(t *testing.T) {
	rnd := rand.New(rand.NewSource(15000))
	apart := 0
	for range 3000 {
		n := 1 + rnd.Intn(api.MaxProc)
		script := scatter(rnd, n, rnd.Intn(api.MaxMoves+1))
		for i := range script {
			if script[i].Kind == api.COpen && script[i].Val >= 0 {
				script[i].Val = i + 1
			}
		}
		r, code := Play(n, script)
		ops := slices.Concat(r.Ops, pending(script, r))
		if code != api.OK || !ordered(ops, len(r.Ops)) {
			t.Fatalf("%d, %v: %v, %d", n, script, r, code)
		}
		for i, a := range r.Ops {
			for _, b := range r.Ops[:i] {
				if a.Begin < b.End && a.Write != b.Write {
					apart++
				}
			}
		}
	}
	if apart < 3000 {
		t.Errorf("%d writes and reads at the same time", apart)
	}
}

// pending returns the writes in progress after a script.
func pending(script []api.Move, r api.Copies) []api.Op {
	var l []api.Op
	for i, m := range script {
		completed := slices.ContainsFunc(r.Ops, func(o api.Op) bool { return o.Begin == i })
		if m.Kind == api.COpen && m.Val >= 0 && r.Codes[i] == api.OK && !completed {
			l = append(l, api.Op{From: m.From, Begin: i, End: len(script), Write: true, Val: m.Val})
		}
	}
	return l
}

// ordered reports whether the first many of the operations, and some of the
// others, have an order like that of a single register. It tries all orders,
// but never again with the same operations done and the same value.
func ordered(ops []api.Op, many int) bool {
	type state struct {
		done uint64
		val  int
	}
	failed := map[state]bool{}
	var search func(state) bool
	search = func(s state) bool {
		if s.done&(1<<many-1) == 1<<many-1 {
			return true
		}
		if failed[s] {
			return false
		}
		failed[s] = true
		for i, o := range ops {
			if s.done>>i&1 == 1 || !o.Write && o.Val != s.val || mustWait(ops, s.done, o) {
				continue
			}
			if search(state{s.done | 1<<i, o.Val}) {
				return true
			}
		}
		return false
	}
	return search(state{})
}

// mustWait reports whether an operation that is not done was completed before
// another one began.
func mustWait(ops []api.Op, done uint64, o api.Op) bool {
	for i, other := range ops {
		if done>>i&1 == 0 && other.End < o.Begin {
			return true
		}
	}
	return false
}

// TestOrdered: the search itself tells good from bad.
func TestOrdered(t *testing.T) {
	wrote := func(begin, end, val int) api.Op { return api.Op{Begin: begin, End: end, Write: true, Val: val} }
	found := func(begin, end, val int) api.Op { return api.Op{Begin: begin, End: end, Val: val} }
	for _, c := range []struct {
		ops  []api.Op
		many int
		want bool
	}{
		{nil, 0, true},
		{[]api.Op{found(0, 1, 0)}, 1, true},
		{[]api.Op{found(0, 1, 7)}, 1, false},
		{[]api.Op{wrote(0, 1, 7), found(2, 3, 7)}, 2, true},
		{[]api.Op{wrote(0, 1, 7), found(2, 3, 0)}, 2, false},
		{[]api.Op{wrote(0, 2, 7), found(1, 3, 0)}, 2, true},
		{[]api.Op{found(1, 3, 7), wrote(0, 9, 7)}, 1, true},
		{[]api.Op{found(1, 2, 7), found(3, 4, 0), wrote(0, 9, 7)}, 2, false},
		{[]api.Op{found(1, 2, 0), wrote(0, 9, 7)}, 1, true},
	} {
		if ordered(c.ops, c.many) != c.want {
			t.Errorf("%v: not %t", c.ops, c.want)
		}
	}
}

// TestEnd: after any script, all clients can complete their operations while a
// majority of the replicas has not failed, and none that starts can complete
// its operation otherwise.
func TestEnd(t *testing.T) {
	rnd := rand.New(rand.NewSource(150000))
	for range 2000 {
		n := 1 + rnd.Intn(api.MaxProc)
		script := scatter(rnd, n, rnd.Intn(api.MaxMoves+1))
		s := &register{replicas: make([]replica, n)}
		for number, m := range script {
			s.execute(number, m)
		}
		alive := rnd.Intn(n + 1)
		for _, to := range rnd.Perm(n)[alive:] {
			s.execute(0, fail(to))
		}
		alive = 0
		for _, p := range s.replicas {
			if !p.failed {
				alive++
			}
		}
		visitAll := func(from int) {
			for range 2 {
				for to := range n {
					s.execute(0, reach(from, to))
				}
			}
		}
		for from := range s.clients {
			visitAll(from)
			before := len(s.ops)
			opened := s.execute(0, read(from))
			visitAll(from)
			completed := len(s.ops) > before
			if enough := 2*alive > n; enough && opened != api.OK || completed != enough {
				t.Fatalf("%d, %v: client %d, %d of them alive: %d, %t", n, script, from, alive, opened, completed)
			}
		}
	}
}

// TestRejectedChangesNothing: with rejected operations in between, the other
// operations have the same results.
func TestRejectedChangesNothing(t *testing.T) {
	for _, script := range [][]api.Move{
		join(whole(write(1, 7), 0, 1), whole(read(2), 1, 2)),
		join([]api.Move{write(1, 7), write(2, 8)}, visit(1, 0, 1), visit(2, 0, 1, 0, 2), visit(1, 0, 1)),
		join([]api.Move{write(1, 7), fail(2)}, visit(1, 1, 0, 0, 1), whole(read(0), 0, 1), one(read(1))),
		join([]api.Move{write(0, 7), fail(2), reach(0, 0), fail(1)}),
	} {
		for at := range len(script) + 1 {
			h, _ := expect(3, script[:at])
			rejected := []api.Move{{Kind: 9}, write(-1, 7), read(api.MaxProc), reach(7, 0), reach(0, 3), fail(3)}
			for _, m := range moves(3, 9, 0, 1, 2, 5) {
				if h.judge(m) != api.OK {
					rejected = append(rejected, m)
				}
			}
			plain, _ := Play(3, script)
			r, code := Play(3, slices.Concat(script[:at], rejected, script[at:]))
			for i, c := range r.Codes {
				if (c == api.OK) != (i < at || i >= at+len(rejected)) {
					t.Errorf("%v, others at %d: %v", script, at, r.Codes)
				}
			}
			shift := func(number *int) {
				if *number >= at {
					*number += len(rejected)
				}
			}
			for i := range plain.Ops {
				shift(&plain.Ops[i].Begin)
				shift(&plain.Ops[i].End)
			}
			if !sameButCodes(r, plain) || code != api.OK {
				t.Errorf("%v, others at %d: %v, %d, want %v", script, at, r, code, plain)
			}
		}
	}
}

// TestArgumentsStay: the script is not modified, what lies beyond its length is
// neither read nor written, and results are new memory, in which no two lists
// are the same.
func TestArgumentsStay(t *testing.T) {
	every := func() []api.Move { return join(whole(write(1, 7), 0), whole(write(2, 8), 0)) }
	expected := api.Copies{
		Codes: make([]api.Errno, 3),
		Ops:   []api.Op{{From: 1, End: 2, Write: true, Val: 7}},
		Stamp: []int{1},
		Val:   []int{7},
	}
	script := every()
	for range 2 {
		r, code := Play(1, script[:3])
		if !same(r, expected) || code != api.OK {
			t.Errorf("%v, %d, want %v", r, code, expected)
		}
		if longer := append(r.Stamp, 5); longer[1] != 5 || r.Val[0] != 7 {
			t.Error("the lists share memory:", longer, r.Val)
		}
		clear(r.Stamp[:cap(r.Stamp)])
		if r.Val[0] != 7 {
			t.Error("the lists share memory:", r.Val)
		}
		clear(r.Val[:cap(r.Val)])
		codes := r.Codes[:cap(r.Codes)]
		for i := range codes {
			codes[i] = api.ErrOld
		}
		clear(r.Ops[:cap(r.Ops)])
	}
	if !slices.Equal(script, every()) {
		t.Error("the script was modified:", script)
	}
}

// TestNilAndEmpty: they are equivalent.
func TestNilAndEmpty(t *testing.T) {
	expected := api.Copies{Stamp: []int{0, 0}, Val: []int{0, 0}}
	for _, script := range [][]api.Move{nil, {}} {
		if r, code := Play(2, script); !same(r, expected) || code != api.OK {
			t.Error(r, code)
		}
		if r, code := Play(0, script); !empty(r) || code != api.ErrLarge {
			t.Error(r, code)
		}
	}
}
