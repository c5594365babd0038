// Package run checks executions of distributed systems and tells which of
// their events happen before which: see doc/01-run.md.
package run

import "beaconry/api"

// state tells how far a message has come. The zero value is unsent, so that
// a map of states needs no entry for a message that has not occurred yet.
type state int

const (
	unsent state = iota
	sent
	taken
)

// Check returns the first error of an execution of n processes, or OK.
func Check(n int, l []api.Event) api.Errno {
	if n < 1 || n > api.MaxProc || len(l) > api.MaxEvents {
		return api.ErrLarge
	}
	states := make(map[int]state)
	for _, e := range l {
		if code := admit(n, e, states); code != api.OK {
			return code
		}
	}
	return api.OK
}

// admit checks one event against the messages so far and records its effect.
func admit(n int, e api.Event, states map[int]state) api.Errno {
	if e.Proc < 0 || e.Proc >= n {
		return api.ErrArg
	}
	switch e.Kind {
	case api.ELocal:
		return api.OK
	case api.ESend:
		return advance(states, e.Msg, unsent, sent)
	case api.ETake:
		return advance(states, e.Msg, sent, taken)
	}
	return api.ErrKind
}

// advance moves a message on to the next state if it is in the one before it.
func advance(states map[int]state, msg int, from, to state) api.Errno {
	if msg < 0 || msg > api.MaxMsg {
		return api.ErrRange
	}
	if states[msg] != from {
		return api.ErrForm
	}
	states[msg] = to
	return api.OK
}

// Ahead reports whether event i happens before event j.
func Ahead(n int, l []api.Event, i, j int) (bool, api.Errno) {
	if code := Check(n, l); code != api.OK {
		return false, code
	}
	if i < 0 || i >= len(l) || j < 0 || j >= len(l) {
		return false, api.ErrRange
	}
	return has(pasts(l)[j], i), api.OK
}

// Apart returns the number of unordered pairs of concurrent events.
func Apart(n int, l []api.Event) (int, api.Errno) {
	if code := Check(n, l); code != api.OK {
		return 0, code
	}
	count := 0
	for j, past := range pasts(l) {
		// No event happens before one that precedes it in the list, so one
		// direction decides.
		for i := range j {
			if !has(past, i) {
				count++
			}
		}
	}
	return count, api.OK
}

// Again reports whether the events in the given order form an execution with
// the same happens-before relation.
func Again(n int, l []api.Event, order []int) (bool, api.Errno) {
	if code := Check(n, l); code != api.OK {
		return false, code
	}
	if !permutes(order, len(l)) {
		return false, api.ErrForm
	}
	moved := make([]api.Event, len(l))
	for k, i := range order {
		moved[k] = l[i]
	}
	if Check(n, moved) != api.OK {
		return false, api.OK
	}
	return agree(pasts(l), pasts(moved), order), api.OK
}

// pasts returns, for each event of a valid execution, the set of the events
// that happen before it. Bit i stands for event i: MaxEvents of them fit into
// a word.
func pasts(l []api.Event) []uint64 {
	result := make([]uint64, len(l))
	latest := make(map[int]uint64)
	carried := make(map[int]uint64)
	for i, e := range l {
		past := latest[e.Proc]
		if e.Kind == api.ETake {
			past |= carried[e.Msg]
		}
		result[i] = past
		// What comes after an event has the event itself in its past, too.
		past |= 1 << i
		latest[e.Proc] = past
		if e.Kind == api.ESend {
			carried[e.Msg] = past
		}
	}
	return result
}

// has reports whether event i is in a set of events.
func has(set uint64, i int) bool {
	return set>>i&1 == 1
}

// permutes reports whether order contains each of the numbers 0 to count-1
// once, and nothing else.
func permutes(order []int, count int) bool {
	if len(order) != count {
		return false
	}
	seen := make([]bool, count)
	for _, i := range order {
		if i < 0 || i >= count || seen[i] {
			return false
		}
		seen[i] = true
	}
	return true
}

// agree reports whether two executions have the same happens-before relation,
// where event k of the second one is event order[k] of the first one.
func agree(first, second []uint64, order []int) bool {
	for k, i := range order {
		for m, j := range order {
			if has(first[i], j) != has(second[k], m) {
				return false
			}
		}
	}
	return true
}
