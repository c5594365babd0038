package echo

import (
	"cmp"
	"math"
	"math/rand"
	"slices"
	"testing"

	"beaconry/api"
)

func pairs(l ...[2]int) [][2]int { return l }

// all returns the links of each two of n processes.
func all(n int) [][2]int {
	var l [][2]int
	for b := range n {
		for a := range b {
			l = append(l, [2]int{a, b})
		}
	}
	return l
}

// some returns the links of all(n) whose bits are in word.
func some(n int, word uint) [][2]int {
	var l [][2]int
	for i, link := range all(n) {
		if word>>i&1 == 1 {
			l = append(l, link)
		}
	}
	return l
}

// shuffled returns the same links in another order, some of them turned.
func shuffled(r *rand.Rand, links [][2]int) [][2]int {
	l := slices.Clone(links)
	r.Shuffle(len(l), func(i, j int) { l[i], l[j] = l[j], l[i] })
	for i := range l {
		if r.Intn(2) == 0 {
			l[i][0], l[i][1] = l[i][1], l[i][0]
		}
	}
	return l
}

// empty reports whether a result is the zero value, with nil and empty lists
// alike.
func empty(o api.Echo) bool {
	return len(o.Codes) == 0 && len(o.From) == 0 && !o.Done && o.Sent == 0
}

// same reports whether two results are equal, with nil and empty lists alike.
func same(a, b api.Echo) bool {
	return slices.Equal(a.Codes, b.Codes) && slices.Equal(a.From, b.From) && a.Done == b.Done && a.Sent == b.Sent
}

// result returns the result with these fields.
func result(codes []api.Errno, from []int, done bool, sent int) api.Echo {
	return api.Echo{Codes: codes, From: from, Done: done, Sent: sent}
}

// TestErrors: all errors, and their order.
func TestErrors(t *testing.T) {
	one := pairs([2]int{0, 1})
	long := make([]int, api.MaxMoves+1)
	many := make([][2]int, api.MaxLinks+1)
	for _, c := range []struct {
		name  string
		n     int
		links [][2]int
		start int
		order []int
		want  api.Errno
	}{
		{"no process", 0, nil, 0, nil, api.ErrLarge},
		{"fewer than no process", -1, nil, 0, nil, api.ErrLarge},
		{"least n", math.MinInt, one, 0, nil, api.ErrLarge},
		{"one process too many", api.MaxProc + 1, one, 0, []int{0}, api.ErrLarge},
		{"greatest n", math.MaxInt, nil, 0, nil, api.ErrLarge},
		{"one link too many", api.MaxProc, append(all(api.MaxProc), [2]int{1, 0}), 0, nil, api.ErrLarge},
		{"many links", 2, make([][2]int, 5000), 0, nil, api.ErrLarge},
		{"one element of order too many", 2, one, 0, long, api.ErrLarge},
		{"many elements of order", 1, nil, 0, make([]int, 5000), api.ErrLarge},
		{"ErrLarge of n before ErrArg", 0, pairs([2]int{3, 3}), -1, nil, api.ErrLarge},
		{"ErrLarge of links before ErrArg", 2, many, 2, nil, api.ErrLarge},
		{"ErrLarge of order before ErrArg", 2, pairs([2]int{0, 2}), 2, long, api.ErrLarge},
		{"ErrLarge of order before ErrForm", 2, append(one, one...), 0, long, api.ErrLarge},

		{"first end below 0", 2, pairs([2]int{-1, 1}), 0, nil, api.ErrArg},
		{"second end below 0", 2, pairs([2]int{1, -1}), 0, nil, api.ErrArg},
		{"first end is n", 2, pairs([2]int{2, 1}), 0, nil, api.ErrArg},
		{"second end is n", 2, pairs([2]int{1, 2}), 0, nil, api.ErrArg},
		{"below MaxProc, but no process", 3, pairs([2]int{0, 5}), 0, nil, api.ErrArg},
		{"least end", 2, pairs([2]int{0, math.MinInt}), 0, nil, api.ErrArg},
		{"greatest end", 2, pairs([2]int{math.MaxInt, 0}), 0, nil, api.ErrArg},
		{"both ends the same", 2, pairs([2]int{1, 1}), 0, nil, api.ErrArg},
		{"both ends the same, one process", 1, pairs([2]int{0, 0}), 0, nil, api.ErrArg},
		{"the last link", 3, pairs([2]int{0, 1}, [2]int{1, 2}, [2]int{2, 2}), 0, nil, api.ErrArg},
		{"start below 0", 2, one, -1, nil, api.ErrArg},
		{"start is n", 2, one, 2, nil, api.ErrArg},
		{"start below MaxProc, but no process", 1, nil, 1, nil, api.ErrArg},
		{"least start", 2, one, math.MinInt, nil, api.ErrArg},
		{"greatest start", 2, one, math.MaxInt, nil, api.ErrArg},
		{"ErrArg of a later link before ErrForm", 2, pairs([2]int{0, 1}, [2]int{0, 1}, [2]int{0, 2}), 0, nil, api.ErrArg},
		{"ErrArg of two same links", 2, pairs([2]int{0, 0}, [2]int{0, 0}), 0, nil, api.ErrArg},
		{"ErrArg of start before ErrForm", 2, append(one, one...), 2, nil, api.ErrArg},

		{"the same link twice", 2, append(one, one...), 0, nil, api.ErrForm},
		{"the same link turned", 2, pairs([2]int{0, 1}, [2]int{1, 0}), 0, nil, api.ErrForm},
		{"first and last", 4, pairs([2]int{2, 1}, [2]int{2, 3}, [2]int{0, 1}, [2]int{1, 2}), 0, []int{0}, api.ErrForm},
		{"the last two", 4, pairs([2]int{0, 1}, [2]int{2, 3}, [2]int{2, 3}), 0, []int{9}, api.ErrForm},
		{"the first two, far from start", 4, pairs([2]int{2, 3}, [2]int{3, 2}, [2]int{0, 1}), 0, nil, api.ErrForm},
		{"as many links as may be", api.MaxProc, append(all(api.MaxProc)[1:], [2]int{5, 4}), 0, nil, api.ErrForm},
	} {
		if o, code := Play(c.n, c.links, c.start, c.order); !empty(o) || code != c.want {
			t.Errorf("%s: %v, %d, want %d", c.name, o, code, c.want)
		}
	}
}

// TestLimits: the most processes and links and the longest order are valid.
func TestLimits(t *testing.T) {
	o, code := Play(api.MaxProc, all(api.MaxProc), 5, make([]int, api.MaxMoves))
	codes := make([]api.Errno, api.MaxMoves)
	for i := 2 * api.MaxLinks; i < len(codes); i++ {
		codes[i] = api.ErrRange
	}
	want := api.Echo{Codes: codes, From: []int{5, 5, 5, 5, 5, -1}, Done: true, Sent: 2 * api.MaxLinks}
	if !same(o, want) || code != api.OK {
		t.Error(o, code)
	}
}

// TestPlay: ordinary networks and edge cases; each order is worked out by hand.
func TestPlay(t *testing.T) {
	const ok, no = api.OK, api.ErrRange
	codes := func(l ...api.Errno) []api.Errno { return l }
	one := pairs([2]int{0, 1})
	path := pairs([2]int{0, 1}, [2]int{1, 2})
	triangle := pairs([2]int{0, 1}, [2]int{0, 2}, [2]int{1, 2})
	star := pairs([2]int{3, 2}, [2]int{1, 3}, [2]int{0, 3})
	fan := pairs([2]int{1, 4}, [2]int{1, 0}, [2]int{3, 1}, [2]int{2, 1})
	for _, c := range []struct {
		name  string
		n     int
		links [][2]int
		start int
		order []int
		want  api.Echo
	}{
		{"the example", 2, one, 0, []int{0, 0}, result(codes(ok, ok), []int{-1, 0}, true, 2)},
		{"the example from the other end", 2, one, 1, []int{0, 0}, result(codes(ok, ok), []int{1, -1}, true, 2)},
		{"nothing is received", 2, one, 0, nil, result(nil, []int{-1, -1}, false, 1)},
		{"the reply is on the way", 2, one, 0, []int{0}, result(codes(ok), []int{-1, 0}, false, 2)},
		{"nothing is left", 2, one, 0, []int{0, 0, 0}, result(codes(ok, ok, no), []int{-1, 0}, true, 2)},

		{"one process", 1, nil, 0, nil, result(nil, []int{-1}, true, 0)},
		{"one process receives nothing", 1, nil, 0, []int{0, -1}, result(codes(no, no), []int{-1}, true, 0)},
		{"start has no links", 3, pairs([2]int{0, 1}), 2, []int{0}, result(codes(no), []int{-1, -1, -1}, true, 0)},
		{"some are not reached", 5, pairs([2]int{0, 1}, [2]int{2, 3}), 1, []int{0, 0, 0}, result(codes(ok, ok, no), []int{1, -1, -1, -1, -1}, true, 2)},

		{"below the list", 2, one, 0, []int{-1, 0, -1, 0}, result(codes(no, ok, no, ok), []int{-1, 0}, true, 2)},
		{"just beyond the list", 2, one, 0, []int{1, 0, 1, 0}, result(codes(no, ok, no, ok), []int{-1, 0}, true, 2)},
		{"just beyond a list of two", 3, triangle, 0, []int{2, 1}, result(codes(no, ok), []int{-1, -1, 0}, false, 3)},
		{"the extremes", 2, one, 0, []int{math.MinInt, math.MaxInt, 0}, result(codes(no, no, ok), []int{-1, 0}, false, 2)},

		{"a path from its end", 3, path, 0, []int{0, 0, 0, 0}, result(codes(ok, ok, ok, ok), []int{-1, 0, 1}, true, 4)},
		{"a path without the last receipt", 3, path, 0, []int{0, 0, 0}, result(codes(ok, ok, ok), []int{-1, 0, 1}, false, 4)},
		{"the inner process waits for the last one", 3, path, 0, []int{0, 0, 1}, result(codes(ok, ok, no), []int{-1, 0, 1}, false, 3)},
		{"a path from its middle", 3, path, 1, []int{0, 0}, result(codes(ok, ok), []int{1, -1, 1}, false, 4)},
		{"start waits for each link", 3, path, 1, []int{0, 1}, result(codes(ok, ok), []int{1, -1, -1}, false, 3)},

		// 0>1 0>2; 0>2 1>2; 0>2 2>0; 2>0 2>1; 2>0 1>0; 1>0; none.
		{"a triangle, the long way", 3, triangle, 0, []int{0, 1, 0, 1, 0, 0}, result(codes(ok, ok, ok, ok, ok, ok), []int{-1, 0, 1}, true, 6)},
		// 0>1 0>2; 0>1 2>1; 2>1 1>2; 2>1 2>0; 2>0 1>0.
		{"a triangle, in another order", 3, triangle, 0, []int{1, 0, 1, 0}, result(codes(ok, ok, ok, ok), []int{-1, 0, 0}, false, 6)},
		// 0>1 0>2; 0>2 1>2; 0>2 2>0; 0>2: start has received one of two.
		{"start is reached from elsewhere first", 3, triangle, 0, []int{0, 1, 1}, result(codes(ok, ok, ok), []int{-1, 0, 1}, false, 4)},

		{"start sends by receiver, the first one", 4, star, 3, []int{0}, result(codes(ok), []int{3, -1, -1, -1}, false, 4)},
		{"start sends by receiver, the second one", 4, star, 3, []int{1}, result(codes(ok), []int{-1, 3, -1, -1}, false, 4)},
		{"start sends by receiver, the last one", 4, star, 3, []int{2}, result(codes(ok), []int{-1, -1, 3, -1}, false, 4)},
		{"another one sends by receiver, the first one", 5, fan, 0, []int{0, 0}, result(codes(ok, ok), []int{-1, 0, 1, -1, -1}, false, 5)},
		{"another one sends by receiver, the second one", 5, fan, 0, []int{0, 1}, result(codes(ok, ok), []int{-1, 0, -1, 1, -1}, false, 5)},
		{"another one sends by receiver, the last one", 5, fan, 0, []int{0, 2}, result(codes(ok, ok), []int{-1, 0, -1, -1, 1}, false, 5)},
		// 3>1 3>2; 3>2 1>0: what was sent later is behind, though its receiver is less.
		{"by time before receiver, the first one", 4, pairs([2]int{1, 3}, [2]int{3, 2}, [2]int{0, 1}), 3, []int{0, 0}, result(codes(ok, ok), []int{-1, 3, 3, -1}, false, 4)},
		{"by time before receiver, the last one", 4, pairs([2]int{1, 3}, [2]int{3, 2}, [2]int{0, 1}), 3, []int{0, 1}, result(codes(ok, ok), []int{1, 3, -1, -1}, false, 4)},
		// 1>0 1>2 1>3; 1>0 1>3 2>1; 1>0 2>1 3>1; 1>0 3>1: what is left keeps its order.
		{"received from the middle of the list", 4, pairs([2]int{0, 1}, [2]int{1, 2}, [2]int{1, 3}), 1, []int{1, 1, 1, 0}, result(codes(ok, ok, ok, ok), []int{1, -1, 1, 1}, false, 6)},
	} {
		if o, code := Play(c.n, c.links, c.start, c.order); !same(o, c.want) || code != api.OK {
			t.Errorf("%s: %v, %d, want %v", c.name, o, code, c.want)
		}
	}
}

// history is the messages that were received so far. All else follows from it,
// by the rules of the algorithm, without a state that changes.
type history struct {
	n        int
	links    [][2]int
	start    int
	received [][2]int
}

// cause returns after how many receipts a process sends to another one on
// their link, if it has done so yet.
func (h history) cause(from, to int) (int, bool) {
	if from == h.start {
		return 0, true
	}
	first := slices.IndexFunc(h.received, func(m [2]int) bool { return m[1] == from })
	if first < 0 || h.received[first][0] != to {
		return first + 1, first >= 0
	}
	last, whole := h.last(from)
	return last + 1, whole
}

// last returns at which receipt a process has received a message on each of
// its links, if it has; -1 if it has no links.
func (h history) last(proc int) (int, bool) {
	last := -1
	for _, link := range h.links {
		other := link[0] + link[1] - proc
		if link[0] != proc && link[1] != proc {
			continue
		}
		i := slices.Index(h.received, [2]int{other, proc})
		if i < 0 {
			return 0, false
		}
		last = max(last, i)
	}
	return last, true
}

// sent returns all messages sent so far, in order.
func (h history) sent() [][2]int {
	type sending struct {
		cause   int
		message [2]int
	}
	var l []sending
	for _, link := range h.links {
		for _, m := range pairs([2]int{link[0], link[1]}, [2]int{link[1], link[0]}) {
			if cause, ok := h.cause(m[0], m[1]); ok {
				l = append(l, sending{cause, m})
			}
		}
	}
	slices.SortFunc(l, func(a, b sending) int {
		return cmp.Or(a.cause-b.cause, a.message[1]-b.message[1])
	})
	var out [][2]int
	for _, s := range l {
		out = append(out, s.message)
	}
	return out
}

// transit returns the messages in transit, in order.
func (h history) transit() [][2]int {
	return slices.DeleteFunc(h.sent(), func(m [2]int) bool { return slices.Contains(h.received, m) })
}

// from returns the parents of all processes.
func (h history) from() []int {
	l := slices.Repeat([]int{-1}, h.n)
	for _, m := range h.received {
		if l[m[1]] < 0 && m[1] != h.start {
			l[m[1]] = m[0]
		}
	}
	return l
}

// follow receives by order and returns what Play should.
func (h *history) follow(order []int) api.Echo {
	var codes []api.Errno
	for _, position := range order {
		transit := h.transit()
		if position < 0 || position >= len(transit) {
			codes = append(codes, api.ErrRange)
			continue
		}
		h.received = append(h.received, transit[position])
		codes = append(codes, api.OK)
	}
	_, done := h.last(h.start)
	return api.Echo{Codes: codes, From: h.from(), Done: done, Sent: len(h.sent())}
}

// reached tells to which processes the links lead from start.
func reached(n int, links [][2]int, start int) []bool {
	is := make([]bool, n)
	is[start] = true
	for range n {
		for _, link := range links {
			if is[link[0]] || is[link[1]] {
				is[link[0]], is[link[1]] = true, true
			}
		}
	}
	return is
}

// checkEnd checks what holds when nothing is in transit any more: start is
// done, each link that was reached was used both ways, and the parents are a
// tree that leads to start.
func checkEnd(t *testing.T, n int, links [][2]int, start int, o api.Echo) {
	is := reached(n, links, start)
	used := 0
	for _, link := range links {
		if is[link[0]] {
			used += 2
		}
	}
	if !o.Done || o.Sent != used {
		t.Fatalf("%d, %v, %d: %v in the end, want %d messages", n, links, start, o, used)
	}
	for proc := range n {
		at := proc
		for range n {
			if o.From[at] >= 0 {
				at = o.From[at]
			}
		}
		if is[proc] && at != start || !is[proc] && o.From[proc] != -1 || o.From[start] != -1 {
			t.Fatalf("%d, %v, %d: parents %v", n, links, start, o.From)
		}
	}
}

// agree compares Play with a history, and what holds at each time and in the
// end.
func agree(t *testing.T, n int, links [][2]int, start int, order []int) {
	h := history{n: n, links: links, start: start}
	want := h.follow(order)
	o, code := Play(n, links, start, order)
	if !same(o, want) || code != api.OK {
		t.Fatalf("%d, %v, %d, %v: %v, %d, want %v", n, links, start, order, o, code, want)
	}
	if left := h.transit(); len(left) == 0 {
		checkEnd(t, n, links, start, o)
	} else if o.Done {
		t.Fatalf("%d, %v, %d, %v: done with %v in transit", n, links, start, order, left)
	}
}

// orders calls see with each order that receives each message, and with the
// beginnings of these orders.
func orders(h history, order []int, see func([]int)) {
	see(order)
	for i, m := range h.transit() {
		next := h
		next.received = append(slices.Clone(h.received), m)
		orders(next, append(slices.Clone(order), i), see)
	}
}

// TestAllOrders: all networks of up to three processes, and those of four with
// at most four links, with all orders.
func TestAllOrders(t *testing.T) {
	for n := 1; n <= 4; n++ {
		for word := range uint(1) << len(all(n)) {
			links := some(n, word)
			if len(links) > 4 {
				continue
			}
			for start := range n {
				h := history{n: n, links: links, start: start}
				orders(h, nil, func(order []int) { agree(t, n, links, start, order) })
			}
		}
	}
}

// seeded returns an order, most of whose elements are positions of short lists.
func seeded(r *rand.Rand) []int {
	l := make([]int, r.Intn(api.MaxMoves+1))
	for i := range l {
		l[i] = r.Intn(1+r.Intn(6)) - r.Intn(20)/19
	}
	return l
}

// TestAllNetworks: all networks, with seeded orders.
func TestAllNetworks(t *testing.T) {
	r := rand.New(rand.NewSource(8))
	times := []int{0, 50, 50, 50, 50, 5, 1}
	for n := 1; n <= api.MaxProc; n++ {
		for word := range uint(1) << len(all(n)) {
			links := some(n, word)
			for range times[n] {
				agree(t, n, shuffled(r, links), r.Intn(n), seeded(r))
			}
		}
	}
}

// TestRangeHasNoEffect: elements of order that are not in the list, put in
// anywhere, leave all else as it is.
func TestRangeHasNoEffect(t *testing.T) {
	r := rand.New(rand.NewSource(80))
	for range 2000 {
		n := 1 + r.Intn(api.MaxProc)
		links, start := some(n, uint(r.Intn(1<<len(all(n))))), r.Intn(n)
		order := seeded(r)
		want, _ := Play(n, links, start, order)
		valid, codes := []int{}, []api.Errno{}
		for i, position := range order {
			if want.Codes[i] == api.OK {
				valid, codes = append(valid, position), append(codes, api.OK)
			}
		}
		want.Codes = codes
		if o, code := Play(n, links, start, valid); !same(o, want) || code != api.OK {
			t.Fatalf("%d, %v, %d, %v: %v, %d, want %v", n, links, start, order, o, code, want)
		}
	}
}

// TestLinksAreAlike: neither the order of the links nor that of their ends is
// visible in a result.
func TestLinksAreAlike(t *testing.T) {
	r := rand.New(rand.NewSource(88))
	for range 2000 {
		n := 1 + r.Intn(api.MaxProc)
		links, start := some(n, uint(r.Intn(1<<len(all(n))))), r.Intn(n)
		order := seeded(r)
		want, _ := Play(n, links, start, order)
		other := shuffled(r, links)
		if o, code := Play(n, other, start, order); !same(o, want) || code != api.OK {
			t.Fatalf("%d, %v, %d, %v: %v, %d, want %v", n, other, start, order, o, code, want)
		}
	}
}

// TestArgumentsStay: arguments are not modified, memory beyond a list is
// neither read nor written, and results share none.
func TestArgumentsStay(t *testing.T) {
	r := rand.New(rand.NewSource(888))
	for range 500 {
		n := 1 + r.Intn(api.MaxProc)
		inside, order := shuffled(r, some(n, uint(r.Intn(1<<len(all(n)))))), seeded(r)
		h := history{n: n, links: inside}
		want := h.follow(order)
		links := append(slices.Clone(inside), [2]int{0, 1}, [2]int{-1, 9})
		longer := append(slices.Clone(order), 0, 0)
		linksBefore, orderBefore := slices.Clone(links), slices.Clone(longer)
		o, code := Play(n, links[:len(inside)], 0, longer[:len(order)])
		if !same(o, want) || code != api.OK {
			t.Fatalf("%d, %v, %v: %v, %d, want %v", n, inside, order, o, code, want)
		}
		for i := range o.From[:cap(o.From)] {
			o.From[:cap(o.From)][i] = 77
		}
		for i := range o.Codes[:cap(o.Codes)] {
			o.Codes[:cap(o.Codes)][i] = 77
		}
		if !slices.Equal(links, linksBefore) || !slices.Equal(longer, orderBefore) {
			t.Fatalf("the arguments are %v, %v now", links, longer)
		}
		if again, code := Play(n, inside, 0, order); !same(again, want) || code != api.OK {
			t.Fatalf("%d, %v, %v, again: %v, %d, want %v", n, inside, order, again, code, want)
		}
	}
}

// TestNilAndEmpty: they are equivalent.
func TestNilAndEmpty(t *testing.T) {
	a, first := Play(2, nil, 1, nil)
	b, second := Play(2, pairs(), 1, []int{})
	want := api.Echo{From: []int{-1, -1}, Done: true}
	if !same(a, want) || !same(b, want) || first != api.OK || second != api.OK {
		t.Error(a, first, b, second)
	}
}
