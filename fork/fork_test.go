package fork

import (
	"math"
	"math/rand"
	"slices"
	"testing"

	"beaconry/api"
)

func pairs(l ...[2]int) [][2]int { return l }

// whole returns a link of each two of n processes, from the greater to the
// less one: it has no cycle, and its sink is 0.
func whole(n int) [][2]int {
	var l [][2]int
	for from := range n {
		for to := range from {
			l = append(l, [2]int{from, to})
		}
	}
	return l
}

// cycle returns the links from each of n processes to the next one, and from
// the last one to the first one.
func cycle(n int) [][2]int {
	var l [][2]int
	for from := range n {
		l = append(l, [2]int{from, (from + 1) % n})
	}
	return l
}

// every calls see with all graphs of n processes: each two of them are joined
// in one direction, in the other one, or not at all.
func every(n int, see func(links [][2]int)) {
	places := whole(n)
	graphs := 1
	for range places {
		graphs *= 3
	}
	for code := range graphs {
		var links [][2]int
		rest := code
		for _, p := range places {
			switch rest % 3 {
			case 1:
				links = append(links, p)
			case 2:
				links = append(links, [2]int{p[1], p[0]})
			}
			rest /= 3
		}
		see(links)
	}
}

// seeded returns a graph of n processes, with few or many links in any order.
// It may have a cycle only if cyclic.
func seeded(r *rand.Rand, n int, cyclic bool) [][2]int {
	density := 1 + r.Intn(9)
	names := r.Perm(n)
	var l [][2]int
	for _, p := range whole(n) {
		if r.Intn(9) >= density {
			continue
		}
		if cyclic && r.Intn(2) == 0 {
			p = [2]int{p[1], p[0]}
		}
		l = append(l, [2]int{names[p[0]], names[p[1]]})
	}
	r.Shuffle(len(l), func(i, j int) { l[i], l[j] = l[j], l[i] })
	return l
}

// many calls see with all graphs of at most four processes, and with seeded
// ones of at most MaxProc.
func many(see func(n int, links [][2]int)) {
	for n := 1; n <= 4; n++ {
		every(n, func(links [][2]int) { see(n, links) })
	}
	r := rand.New(rand.NewSource(13))
	for i := range 10000 {
		n := 5 + r.Intn(api.MaxProc-4)
		see(n, seeded(r, n, i%2 == 0))
	}
}

// TestCommonErrors: of all functions, in their order, whatever i and many are.
func TestCommonErrors(t *testing.T) {
	one := pairs([2]int{0, 1})
	tooMany := append(whole(api.MaxProc), [2]int{0, 1})
	for _, c := range []struct {
		name  string
		n     int
		links [][2]int
		want  api.Errno
	}{
		{"no process", 0, nil, api.ErrLarge},
		{"fewer than no process", -1, nil, api.ErrLarge},
		{"least n", math.MinInt, one, api.ErrLarge},
		{"one process too many", api.MaxProc + 1, one, api.ErrLarge},
		{"32 processes", 32, nil, api.ErrLarge},
		{"greatest n", math.MaxInt, nil, api.ErrLarge},
		{"one link too many", api.MaxProc, tooMany, api.ErrLarge},
		{"many links", 2, make([][2]int, 5000), api.ErrLarge},
		{"ErrLarge of n before ErrArg", 0, pairs([2]int{0, 0}), api.ErrLarge},
		{"ErrLarge of n before ErrForm", 7, append(one, one...), api.ErrLarge},
		{"ErrLarge of links before ErrArg", 2, make([][2]int, api.MaxLinks+1), api.ErrLarge},

		{"first end below 0", 2, pairs([2]int{-1, 1}), api.ErrArg},
		{"second end below 0", 2, pairs([2]int{1, -1}), api.ErrArg},
		{"first end is n", 2, pairs([2]int{2, 1}), api.ErrArg},
		{"second end is n", 2, pairs([2]int{1, 2}), api.ErrArg},
		{"below MaxProc, but no process", 3, pairs([2]int{0, 5}), api.ErrArg},
		{"MaxProc", api.MaxProc, pairs([2]int{api.MaxProc, 0}), api.ErrArg},
		{"32", api.MaxProc, pairs([2]int{32, 1}), api.ErrArg},
		{"least end", 2, pairs([2]int{0, math.MinInt}), api.ErrArg},
		{"greatest end", 2, pairs([2]int{math.MaxInt, 0}), api.ErrArg},
		{"both ends the same", 2, pairs([2]int{1, 1}), api.ErrArg},
		{"both ends the same, one process", 1, pairs([2]int{0, 0}), api.ErrArg},
		{"both ends the same, no process", 2, pairs([2]int{2, 2}), api.ErrArg},
		{"the last link", 3, pairs([2]int{0, 1}, [2]int{1, 2}, [2]int{2, 2}), api.ErrArg},
		{"ErrArg of a later link before ErrForm", 2, pairs([2]int{0, 1}, [2]int{0, 1}, [2]int{0, 2}), api.ErrArg},
		{"ErrArg of a later link with the same ends before ErrForm", 2, pairs([2]int{0, 1}, [2]int{1, 0}, [2]int{1, 1}), api.ErrArg},
		{"ErrArg of two same links", 2, pairs([2]int{0, 0}, [2]int{0, 0}), api.ErrArg},

		{"the same link twice", 2, append(one, one...), api.ErrForm},
		{"the same link turned", 2, pairs([2]int{0, 1}, [2]int{1, 0}), api.ErrForm},
		{"the same link turned, the greater end first", 2, pairs([2]int{1, 0}, [2]int{0, 1}), api.ErrForm},
		{"first and last", 4, pairs([2]int{2, 1}, [2]int{2, 3}, [2]int{0, 1}, [2]int{1, 2}), api.ErrForm},
		{"first and last, the same", 4, pairs([2]int{2, 1}, [2]int{2, 3}, [2]int{0, 1}, [2]int{2, 1}), api.ErrForm},
		{"the last two", 4, pairs([2]int{0, 1}, [2]int{2, 3}, [2]int{2, 3}), api.ErrForm},
		{"the first two", 4, pairs([2]int{2, 3}, [2]int{3, 2}, [2]int{0, 1}), api.ErrForm},
		{"three times", 3, pairs([2]int{2, 1}, [2]int{2, 1}, [2]int{1, 2}), api.ErrForm},
		{"as many links as may be", api.MaxProc, append(whole(api.MaxProc)[1:], [2]int{4, 5}), api.ErrForm},
		{"beside a cycle", 4, append(cycle(3), [2]int{2, 1}), api.ErrForm},
	} {
		if is, code := Round(c.n, c.links); is || code != c.want {
			t.Errorf("Round, %s: %t, %d, want %d", c.name, is, code, c.want)
		}
		if set, code := Low(c.n, c.links); set != 0 || code != c.want {
			t.Errorf("Low, %s: %b, %d, want %d", c.name, set, code, c.want)
		}
		for _, number := range []int{0, 1, c.n, -1, api.MaxMoves, api.MaxMoves + 1, math.MinInt, math.MaxInt} {
			if l, code := Turn(c.n, c.links, number); len(l) != 0 || code != c.want {
				t.Errorf("Turn, %s, %d: %v, %d, want %d", c.name, number, l, code, c.want)
			}
			if l, times, code := Run(c.n, c.links, number); len(l) != 0 || len(times) != 0 || code != c.want {
				t.Errorf("Run, %s, %d: %v, %v, %d, want %d", c.name, number, l, times, code, c.want)
			}
		}
	}
}

// TestTurnErrors: i is not a process, or not a sink.
func TestTurnErrors(t *testing.T) {
	for n := 1; n <= api.MaxProc; n++ {
		for _, links := range [][][2]int{nil, whole(n)} {
			for _, i := range []int{-1, -n, -32, n, n + 1, api.MaxProc, 31, 32, 64, 1 << 32, math.MinInt, math.MaxInt} {
				if l, code := Turn(n, links, i); len(l) != 0 || code != api.ErrArg {
					t.Errorf("%d, %v, %d: %v, %d", n, links, i, l, code)
				}
			}
		}
		for i := 1; i < n; i++ {
			if l, code := Turn(n, whole(n), i); len(l) != 0 || code != api.ErrNone {
				t.Errorf("%d of %d: %v, %d", i, n, l, code)
			}
		}
		if n < 3 {
			continue
		}
		for i := range n {
			if l, code := Turn(n, cycle(n), i); len(l) != 0 || code != api.ErrNone {
				t.Errorf("%d of a cycle of %d: %v, %d", i, n, l, code)
			}
		}
		if l, code := Turn(n, cycle(n), n); len(l) != 0 || code != api.ErrArg {
			t.Errorf("a cycle without sinks, and no process: %v, %d", l, code)
		}
	}
}

// TestRunErrors: ErrRange, whatever the graph is, and then ErrForm.
func TestRunErrors(t *testing.T) {
	for n := 1; n <= api.MaxProc; n++ {
		graphs := [][][2]int{nil, whole(n)}
		if n > 2 {
			graphs = append(graphs, cycle(n), cycle(3))
		}
		for _, links := range graphs {
			for _, times := range []int{-1, -2, api.MaxMoves + 1, 5000, math.MinInt, math.MaxInt} {
				if l, counts, code := Run(n, links, times); len(l) != 0 || len(counts) != 0 || code != api.ErrRange {
					t.Errorf("%d, %v, %d: %v, %v, %d", n, links, times, l, counts, code)
				}
			}
		}
		for _, links := range graphs[2:] {
			for _, times := range []int{0, 1, api.MaxMoves} {
				if l, counts, code := Run(n, links, times); len(l) != 0 || len(counts) != 0 || code != api.ErrForm {
					t.Errorf("%d, %v, %d: %v, %v, %d", n, links, times, l, counts, code)
				}
			}
		}
	}
}

// TestLimits: the most processes, links and times are valid, and the fewest.
func TestLimits(t *testing.T) {
	for _, n := range []int{1, api.MaxProc} {
		for _, links := range [][][2]int{nil, whole(n)} {
			if is, code := Round(n, links); is || code != api.OK {
				t.Errorf("Round, %d, %v: %t, %d", n, links, is, code)
			}
			if set, code := Low(n, links); set&1 == 0 || code != api.OK {
				t.Errorf("Low, %d, %v: %b, %d", n, links, set, code)
			}
			if l, code := Turn(n, links, 0); len(l) != len(links) || code != api.OK {
				t.Errorf("Turn, %d, %v: %v, %d", n, links, l, code)
			}
			for _, times := range []int{0, 1, api.MaxMoves} {
				if l, counts, code := Run(n, links, times); len(l) != len(links) || len(counts) != n || code != api.OK {
					t.Errorf("Run, %d, %v, %d: %v, %v, %d", n, links, times, l, counts, code)
				}
			}
		}
	}
	links := whole(api.MaxProc)
	links[slices.Index(links, [2]int{5, 0})] = [2]int{0, 5}
	if is, code := Round(api.MaxProc, links); !is || code != api.OK {
		t.Errorf("Round, all links, and a cycle: %t, %d", is, code)
	}
}

// TestRoundAndLow: ordinary graphs and edge cases.
func TestRoundAndLow(t *testing.T) {
	for _, c := range []struct {
		name  string
		n     int
		links [][2]int
		round bool
		low   uint32
	}{
		{"the example", 2, pairs([2]int{0, 1}), false, 2},
		{"the example after a reversal", 2, pairs([2]int{1, 0}), false, 1},
		{"one process", 1, nil, false, 1},
		{"no links", 6, nil, false, 63},
		{"some without links", 5, pairs([2]int{3, 1}), false, 23},
		{"a path", 4, pairs([2]int{0, 1}, [2]int{1, 2}, [2]int{2, 3}), false, 8},
		{"a path, in another order", 4, pairs([2]int{2, 3}, [2]int{0, 1}, [2]int{1, 2}), false, 8},
		{"a path backwards", 4, pairs([2]int{1, 0}, [2]int{2, 1}, [2]int{3, 2}), false, 1},
		{"two lead to one", 3, pairs([2]int{0, 1}, [2]int{2, 1}), false, 2},
		{"one leads to two", 3, pairs([2]int{1, 0}, [2]int{1, 2}), false, 5},
		{"joined in a circle, but no cycle", 3, pairs([2]int{0, 1}, [2]int{1, 2}, [2]int{0, 2}), false, 4},
		{"two ways to the same one", 4, pairs([2]int{0, 1}, [2]int{0, 2}, [2]int{1, 3}, [2]int{2, 3}), false, 8},
		{"all links", 6, whole(6), false, 1},
		{"a cycle of three", 3, cycle(3), true, 0},
		{"a cycle of three, turned", 3, pairs([2]int{1, 0}, [2]int{0, 2}, [2]int{2, 1}), true, 0},
		{"a cycle of all", 6, cycle(6), true, 0},
		{"a cycle, and one without links", 4, cycle(3), true, 8},
		{"a cycle leads to a sink", 4, append(cycle(3), [2]int{1, 3}), true, 8},
		{"a path leads to a cycle", 5, pairs([2]int{3, 4}, [2]int{4, 0}, [2]int{0, 1}, [2]int{1, 2}, [2]int{2, 0}), true, 0},
		{"two cycles", 6, append(cycle(3), [2]int{4, 3}, [2]int{5, 4}, [2]int{3, 5}), true, 0},
		{"a cycle and a path elsewhere", 6, append(cycle(3), [2]int{4, 3}, [2]int{5, 4}, [2]int{5, 3}), true, 8},
		{"a cycle far from 0", 6, pairs([2]int{1, 0}, [2]int{3, 4}, [2]int{4, 5}, [2]int{5, 3}), true, 5},
	} {
		if is, code := Round(c.n, c.links); is != c.round || code != api.OK {
			t.Errorf("Round, %s: %t, %d", c.name, is, code)
		}
		if set, code := Low(c.n, c.links); set != c.low || code != api.OK {
			t.Errorf("Low, %s: %b, %d, want %b", c.name, set, code, c.low)
		}
	}
}

// TestTurn: ordinary graphs and edge cases.
func TestTurn(t *testing.T) {
	for _, c := range []struct {
		name  string
		n     int
		links [][2]int
		i     int
		want  [][2]int
	}{
		{"the example", 2, pairs([2]int{0, 1}), 1, pairs([2]int{1, 0})},
		{"the example, back again", 2, pairs([2]int{1, 0}), 0, pairs([2]int{0, 1})},
		{"one process", 1, nil, 0, nil},
		{"a sink without links", 3, pairs([2]int{1, 2}), 0, pairs([2]int{1, 2})},
		{"some links of many", 4, pairs([2]int{2, 1}, [2]int{0, 1}, [2]int{2, 0}, [2]int{3, 1}, [2]int{3, 2}), 1, pairs([2]int{1, 2}, [2]int{1, 0}, [2]int{2, 0}, [2]int{1, 3}, [2]int{3, 2})},
		{"one of two sinks", 3, pairs([2]int{1, 0}, [2]int{1, 2}), 2, pairs([2]int{1, 0}, [2]int{2, 1})},
		{"a sink beside a cycle", 4, append(cycle(3), [2]int{1, 3}), 3, append(cycle(3), [2]int{3, 1})},
		{"it has a cycle in its way", 4, pairs([2]int{2, 0}, [2]int{1, 3}, [2]int{0, 1}, [2]int{1, 2}), 3, pairs([2]int{2, 0}, [2]int{3, 1}, [2]int{0, 1}, [2]int{1, 2})},
		{"the last one", 6, pairs([2]int{0, 5}, [2]int{4, 5}, [2]int{0, 4}), 5, pairs([2]int{5, 0}, [2]int{5, 4}, [2]int{0, 4})},
	} {
		if l, code := Turn(c.n, c.links, c.i); !slices.Equal(l, c.want) || code != api.OK {
			t.Errorf("%s: %v, %d, want %v", c.name, l, code, c.want)
		}
	}
}

// TestRun: ordinary graphs and edge cases, worked out by hand.
func TestRun(t *testing.T) {
	one := pairs([2]int{0, 1})
	back := pairs([2]int{1, 0})
	path := pairs([2]int{0, 1}, [2]int{1, 2})
	star := pairs([2]int{3, 0}, [2]int{1, 3}, [2]int{3, 2})
	circle := pairs([2]int{2, 3}, [2]int{0, 1}, [2]int{0, 3}, [2]int{1, 2})
	for _, c := range []struct {
		name  string
		n     int
		links [][2]int
		many  int
		want  [][2]int
		times []int
	}{
		{"the example", 2, one, 1, back, []int{0, 1}},
		{"the example, no reversal", 2, one, 0, one, []int{0, 0}},
		{"the example, twice", 2, one, 2, one, []int{1, 1}},
		{"the example, three times", 2, one, 3, back, []int{1, 2}},
		{"the example, most often", 2, one, api.MaxMoves, one, []int{30, 30}},
		{"one process", 1, nil, 7, nil, []int{7}},
		{"no links", 3, nil, api.MaxMoves, nil, []int{60, 60, 60}},
		{"one without links", 3, back, 3, one, []int{2, 1, 3}},

		{"a path", 3, path, 1, pairs([2]int{0, 1}, [2]int{2, 1}), []int{0, 0, 1}},
		{"a path, twice", 3, path, 2, pairs([2]int{1, 0}, [2]int{1, 2}), []int{0, 1, 1}},
		{"a path, both ends at the same time", 3, path, 3, pairs([2]int{0, 1}, [2]int{2, 1}), []int{1, 1, 2}},
		{"a path, most often", 3, path, api.MaxMoves, pairs([2]int{1, 0}, [2]int{1, 2}), []int{29, 30, 30}},

		{"a star, both sinks at the same time", 4, star, 1, pairs([2]int{0, 3}, [2]int{1, 3}, [2]int{2, 3}), []int{1, 0, 1, 0}},
		{"a star, twice", 4, star, 2, pairs([2]int{3, 0}, [2]int{3, 1}, [2]int{3, 2}), []int{1, 0, 1, 1}},
		{"a star, three times", 4, star, 3, pairs([2]int{0, 3}, [2]int{1, 3}, [2]int{2, 3}), []int{2, 1, 2, 1}},

		{"a circle", 4, circle, 1, pairs([2]int{3, 2}, [2]int{0, 1}, [2]int{3, 0}, [2]int{1, 2}), []int{0, 0, 0, 1}},
		{"a circle, twice", 4, circle, 2, pairs([2]int{2, 3}, [2]int{0, 1}, [2]int{3, 0}, [2]int{2, 1}), []int{0, 0, 1, 1}},
		{"a circle, three times", 4, circle, 3, pairs([2]int{2, 3}, [2]int{1, 0}, [2]int{3, 0}, [2]int{1, 2}), []int{0, 1, 1, 1}},
		{"a circle, four times", 4, circle, 4, pairs([2]int{2, 3}, [2]int{0, 1}, [2]int{0, 3}, [2]int{1, 2}), []int{1, 1, 1, 1}},
		{"a circle, most often", 4, circle, api.MaxMoves, circle, []int{15, 15, 15, 15}},

		{"all links", 3, whole(3), 2, pairs([2]int{1, 0}, [2]int{0, 2}, [2]int{1, 2}), []int{1, 1, 0}},
		{"all links, most often", 6, whole(6), api.MaxMoves, whole(6), []int{10, 10, 10, 10, 10, 10}},
	} {
		l, times, code := Run(c.n, c.links, c.many)
		if !slices.Equal(l, c.want) || !slices.Equal(times, c.times) || code != api.OK {
			t.Errorf("%s: %v, %v, %d, want %v, %v", c.name, l, times, code, c.want, c.times)
		}
	}
}

// ways returns which process a way of one or more links leads to from which.
func ways(n int, links [][2]int) [][]bool {
	far := make([][]bool, n)
	for from := range far {
		far[from] = make([]bool, n)
	}
	for _, l := range links {
		far[l[0]][l[1]] = true
	}
	for through := range far {
		for from := range far {
			for to := range far {
				far[from][to] = far[from][to] || far[from][through] && far[through][to]
			}
		}
	}
	return far
}

// TestRoundByWays: there is a cycle if a way leads from a process to itself,
// and a sink is a process from which no way leads anywhere.
func TestRoundByWays(t *testing.T) {
	found := map[[2]bool]int{}
	see := func(n int, links [][2]int) {
		round := false
		low := uint32(0)
		for proc, far := range ways(n, links) {
			round = round || far[proc]
			if !slices.Contains(far, true) {
				low |= 1 << proc
			}
		}
		if is, code := Round(n, links); is != round || code != api.OK {
			t.Fatalf("Round, %d, %v: %t, %d, want %t", n, links, is, code, round)
		}
		if set, code := Low(n, links); set != low || code != api.OK {
			t.Fatalf("Low, %d, %v: %b, %d, want %b", n, links, set, code, low)
		}
		if low == 0 && !round {
			t.Fatalf("%d, %v: neither a sink nor a cycle", n, links)
		}
		found[[2]bool{round, low != 0}]++
	}
	many(see)
	every(5, func(links [][2]int) { see(5, links) })
	if found[[2]bool{false, true}] < 10000 || found[[2]bool{true, true}] < 10000 || found[[2]bool{true, false}] < 10000 {
		t.Error(found)
	}
}

// TestTurnLinkByLink: each link that leads to i changes its direction, and no
// other one does; and a cycle neither comes nor goes.
func TestTurnLinkByLink(t *testing.T) {
	turned := 0
	many(func(n int, links [][2]int) {
		for i := range n {
			want := slices.Clone(links)
			sink := true
			for k, l := range links {
				sink = sink && l[0] != i
				if l[1] == i {
					want[k] = [2]int{i, l[0]}
				}
			}
			got, code := Turn(n, links, i)
			if !sink {
				if len(got) != 0 || code != api.ErrNone {
					t.Fatalf("%d, %v, %d: %v, %d", n, links, i, got, code)
				}
				continue
			}
			if !slices.Equal(got, want) || code != api.OK {
				t.Fatalf("%d, %v, %d: %v, %d, want %v", n, links, i, got, code, want)
			}
			turned++
			before, _ := Round(n, links)
			if after, _ := Round(n, got); after != before {
				t.Fatalf("%d, %v, %d: Round was %t and is %t", n, links, i, before, after)
			}
		}
	})
	if turned < 10000 {
		t.Errorf("only %d sinks", turned)
	}
}

// plan is when each process is a sink, without a graph that changes: of two
// processes that are joined by a link, the one to which it leads is a sink
// first, and from then on they are in turn.
type plan struct {
	links [][2]int
	known map[[2]int]int
}

// when returns after how many reversals, including it, the links of a process
// have been reversed this often.
func (p plan) when(proc, often int) int {
	if often == 0 {
		return 0
	}
	if time, ok := p.known[[2]int{proc, often}]; ok {
		return time
	}
	latest := p.when(proc, often-1)
	for _, l := range p.links {
		if l[0] == proc {
			latest = max(latest, p.when(l[1], often))
		}
		if l[1] == proc {
			latest = max(latest, p.when(l[0], often-1))
		}
	}
	p.known[[2]int{proc, often}] = latest + 1
	return latest + 1
}

// run returns the results of Run.
func (p plan) run(n, many int) ([][2]int, []int) {
	times := make([]int, n)
	for proc := range times {
		for p.when(proc, times[proc]+1) <= many {
			times[proc]++
		}
	}
	links := slices.Clone(p.links)
	for k, l := range links {
		if times[l[0]] < times[l[1]] {
			links[k] = [2]int{l[1], l[0]}
		}
	}
	return links, times
}

// TestRunByPlan: Run is as planned, or ErrForm.
func TestRunByPlan(t *testing.T) {
	found := map[bool]int{}
	r := rand.New(rand.NewSource(7))
	see := func(n int, links [][2]int, many int) {
		round, _ := Round(n, links)
		found[round]++
		l, times, code := Run(n, links, many)
		if round {
			if len(l) != 0 || len(times) != 0 || code != api.ErrForm {
				t.Fatalf("%d, %v, %d: %v, %v, %d", n, links, many, l, times, code)
			}
			return
		}
		want, counts := plan{links, map[[2]int]int{}}.run(n, many)
		if !slices.Equal(l, want) || !slices.Equal(times, counts) || code != api.OK {
			t.Fatalf("%d, %v, %d: %v, %v, %d, want %v, %v", n, links, many, l, times, code, want, counts)
		}
	}
	for n := 1; n <= 4; n++ {
		every(n, func(links [][2]int) {
			for many := range 12 {
				see(n, links, many)
			}
			see(n, links, api.MaxMoves)
		})
	}
	every(5, func(links [][2]int) { see(5, links, r.Intn(8)) })
	for range 5000 {
		n := 1 + r.Intn(api.MaxProc)
		see(n, seeded(r, n, r.Intn(8) == 0), r.Intn(api.MaxMoves+1))
	}
	if found[false] < 20000 || found[true] < 20000 {
		t.Error(found)
	}
}

// TestRunByTurns: Run is to turn all sinks of Low one after the other, in any
// order, this many times.
func TestRunByTurns(t *testing.T) {
	r := rand.New(rand.NewSource(8))
	several := 0
	for range 1500 {
		n := 1 + r.Intn(api.MaxProc)
		links := seeded(r, n, false)
		l := slices.Clone(links)
		times := make([]int, n)
		for many := range api.MaxMoves + 1 {
			got, counts, code := Run(n, links, many)
			if !slices.Equal(got, l) || !slices.Equal(counts, times) || code != api.OK {
				t.Fatalf("%d, %v, %d: %v, %v, %d, want %v, %v", n, links, many, got, counts, code, l, times)
			}
			low, _ := Low(n, l)
			if low == 0 {
				t.Fatalf("%d, %v: no sink", n, l)
			}
			if low&(low-1) != 0 {
				several++
			}
			for _, i := range r.Perm(n) {
				if low>>i&1 == 0 {
					continue
				}
				times[i]++
				var code api.Errno
				if l, code = Turn(n, l, i); code != api.OK {
					t.Fatalf("%d, %v: %d is no sink", n, links, i)
				}
			}
		}
	}
	if several < 5000 {
		t.Errorf("only %d times several sinks", several)
	}
}

// TestRunInParts: to go on from the links of a run is the run of both.
func TestRunInParts(t *testing.T) {
	r := rand.New(rand.NewSource(9))
	for range 3000 {
		n := 1 + r.Intn(api.MaxProc)
		links := seeded(r, n, false)
		both := r.Intn(api.MaxMoves + 1)
		first := r.Intn(both + 1)
		middle, some, _ := Run(n, links, first)
		end, rest, _ := Run(n, middle, both-first)
		l, times, _ := Run(n, links, both)
		for i := range some {
			some[i] += rest[i]
		}
		if !slices.Equal(end, l) || !slices.Equal(some, times) {
			t.Fatalf("%d, %v, %d and %d: %v, %v, at once %v, %v", n, links, first, both-first, end, some, l, times)
		}
	}
}

// TestNeighborsTakeTurns: neighbors are sinks equally often, or one of them
// once more, and in n reversals each process is a sink at least once.
func TestNeighborsTakeTurns(t *testing.T) {
	many(func(n int, links [][2]int) {
		if round, _ := Round(n, links); round {
			return
		}
		for _, times := range []int{1, n, api.MaxMoves} {
			_, counts, _ := Run(n, links, times)
			for _, l := range links {
				if ahead := counts[l[1]] - counts[l[0]]; ahead < 0 || ahead > 1 {
					t.Fatalf("%d, %v, %d: %v", n, links, times, counts)
				}
			}
			if slices.Min(counts) < times/n || slices.Max(counts) > times {
				t.Fatalf("%d, %v, %d: %v", n, links, times, counts)
			}
		}
	})
}

// TestNumbersDoNotMatter: processes that are called by other numbers, and
// links in another order, do as they did.
func TestNumbersDoNotMatter(t *testing.T) {
	r := rand.New(rand.NewSource(10))
	for range 5000 {
		n := 1 + r.Intn(api.MaxProc)
		links := seeded(r, n, r.Intn(4) == 0)
		names, places := r.Perm(n), r.Perm(len(links))
		other := func(l [][2]int) [][2]int {
			renamed := make([][2]int, len(l))
			for k, link := range l {
				renamed[places[k]] = [2]int{names[link[0]], names[link[1]]}
			}
			return renamed
		}
		round, _ := Round(n, links)
		if is, code := Round(n, other(links)); is != round || code != api.OK {
			t.Fatalf("Round, %d, %v as %v: %t, %d", n, links, names, is, code)
		}
		low, _ := Low(n, links)
		set, _ := Low(n, other(links))
		l, times, code := Run(n, links, 9)
		same, counts, again := Run(n, other(links), 9)
		if again != code || len(same) != len(l) || code == api.OK && !slices.Equal(same, other(l)) {
			t.Fatalf("Run, %d, %v as %v: %v, %d, %v, %d", n, links, names, l, code, same, again)
		}
		for i, name := range names {
			if low>>i&1 != set>>name&1 {
				t.Fatalf("Low, %d, %v as %v: %b, %b", n, links, names, low, set)
			}
			if code == api.OK && times[i] != counts[name] {
				t.Fatalf("Run, %d, %v as %v: %v, %v", n, links, names, times, counts)
			}
		}
	}
}

// TestArgumentsStay: lists are not changed, nothing beyond their length
// matters or is changed, and results are new memory.
func TestArgumentsStay(t *testing.T) {
	r := rand.New(rand.NewSource(11))
	spoil := func(l [][2]int) {
		for i := range l[:cap(l)] {
			l[:cap(l)][i] = [2]int{77, 77}
		}
	}
	for range 2000 {
		n := 1 + r.Intn(api.MaxProc)
		inside := seeded(r, n, r.Intn(4) == 0)
		links := append(slices.Clone(inside), [2]int{0, 1}, [2]int{-1, 9}, [2]int{1, 0})
		before := slices.Clone(links)
		part := links[:len(inside)]
		round, _ := Round(n, part)
		low, _ := Low(n, part)
		for i := range n {
			l, code := Turn(n, part, i)
			again, other := Turn(n, slices.Clip(inside), i)
			if !slices.Equal(l, again) || code != other || (code == api.OK) != (low>>i&1 == 1) {
				t.Fatalf("Turn, %d, %v, %d: %v, %d, then %v, %d", n, inside, i, l, code, again, other)
			}
			spoil(l)
			spoil(again)
		}
		for _, many := range []int{0, 1, 5} {
			l, times, code := Run(n, part, many)
			again, counts, other := Run(n, slices.Clip(inside), many)
			if !slices.Equal(l, again) || !slices.Equal(times, counts) || code != other || (code == api.OK) == round {
				t.Fatalf("Run, %d, %v, %d: %v, %v, %d, then %v, %v, %d", n, inside, many, l, times, code, again, counts, other)
			}
			spoil(l)
			spoil(again)
		}
		if !slices.Equal(links, before) || !slices.Equal(inside, before[:len(inside)]) {
			t.Fatalf("%v: now %v, %v", before, links, inside)
		}
	}
}

// TestNilAndEmpty: they are equivalent.
func TestNilAndEmpty(t *testing.T) {
	for _, links := range [][][2]int{nil, pairs(), make([][2]int, 0, 5)} {
		if is, code := Round(2, links); is || code != api.OK {
			t.Error(is, code)
		}
		if set, code := Low(2, links); set != 3 || code != api.OK {
			t.Error(set, code)
		}
		if l, code := Turn(2, links, 1); len(l) != 0 || code != api.OK {
			t.Error(l, code)
		}
		if l, times, code := Run(2, links, 4); len(l) != 0 || !slices.Equal(times, []int{4, 4}) || code != api.OK {
			t.Error(l, times, code)
		}
	}
}
