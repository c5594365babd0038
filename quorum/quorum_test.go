package quorum

import (
	"math"
	"math/bits"
	"math/rand"
	"slices"
	"testing"

	"beaconry/api"
)

func sets(l ...uint32) []uint32 { return l }

// same returns many times the same set.
func same(many int, set uint32) []uint32 {
	return slices.Repeat(sets(set), many)
}

// bySize returns all sets of n processes with this number of elements.
func bySize(n, size int) []uint32 {
	var list []uint32
	for set := range uint32(1 << n) {
		if bits.OnesCount32(set) == size {
			list = append(list, set)
		}
	}
	return list
}

// members returns the elements of a set of n processes, one by one.
func members(n int, set uint32) []bool {
	in := make([]bool, n)
	for proc := range in {
		in[proc] = set&(1<<proc) != 0
	}
	return in
}

// within reports, element by element, whether a set is a subset of another one.
func within(n int, set, other uint32) bool {
	in, out := members(n, set), members(n, other)
	for proc := range n {
		if in[proc] && !out[proc] {
			return false
		}
	}
	return true
}

// common reports, element by element, whether two sets intersect.
func common(n int, set, other uint32) bool {
	in, out := members(n, set), members(n, other)
	for proc := range n {
		if in[proc] && out[proc] {
			return true
		}
	}
	return false
}

// meet is whether a list is a coterie, by its definition: for all ordered pairs.
func meet(n int, list []uint32) bool {
	for i, set := range list {
		for j, other := range list {
			if i != j && (!common(n, set, other) || within(n, set, other)) {
				return false
			}
		}
	}
	return true
}

// winners returns for each set of n processes whether it includes one of the
// sets of a list.
func winners(n int, list []uint32) []bool {
	won := make([]bool, 1<<n)
	for s := range won {
		for _, set := range list {
			won[s] = won[s] || within(n, set, uint32(s))
		}
	}
	return won
}

// full is whether each set of n processes or its complement wins.
func full(won []bool) bool {
	for s := range won {
		if !won[s] && !won[len(won)-1-s] {
			return false
		}
	}
	return true
}

// dominates reports whether all that win with the second list win with the
// first one, and another set does, too.
func dominates(won, before []bool) bool {
	more := false
	for s := range won {
		if before[s] && !won[s] {
			return false
		}
		more = more || won[s] && !before[s]
	}
	return more
}

// coteries calls see with all coteries of n processes, in increasing order of
// their sets, except those of more than most sets.
func coteries(n, most int, see func(list []uint32)) {
	var grow func(list []uint32, next uint32)
	grow = func(list []uint32, next uint32) {
		see(slices.Clone(list))
		for set := next; len(list) < most && set < 1<<n; set++ {
			fits := true
			for _, other := range list {
				fits = fits && set&other != 0 && set&other != set && set&other != other
			}
			if fits {
				grow(append(list, set), set+1)
			}
		}
	}
	grow(nil, 1)
}

// majorities returns all non-dominated coteries of n processes: of each set
// and its complement one wins, and so do all sets that include one that does.
func majorities(n int) [][]uint32 {
	var found [][]uint32
	all := uint32(1<<n - 1)
	won := make([]int, 1<<n)
	// decide makes a set win or lose, with all that follows, and reports whether
	// nothing contradicts it.
	var decide func(set uint32, way int) bool
	decide = func(set uint32, way int) bool {
		if won[set] != 0 {
			return won[set] == way
		}
		won[set] = way
		if !decide(all&^set, -way) {
			return false
		}
		for proc := range n {
			if way > 0 && !decide(set|1<<proc, way) {
				return false
			}
		}
		return true
	}
	var choose func(set uint32)
	choose = func(set uint32) {
		for set <= all && won[set] != 0 {
			set++
		}
		if set > all {
			found = append(found, smallest(n, won))
			return
		}
		before := slices.Clone(won)
		for _, way := range []int{1, -1} {
			if decide(set, way) {
				choose(set)
			}
			copy(won, before)
		}
	}
	if decide(all, 1) {
		choose(0)
	}
	return found
}

// smallest returns the winning sets that do not win without one of their
// elements.
func smallest(n int, won []int) []uint32 {
	var list []uint32
	for set := range won {
		least := won[set] > 0
		for proc := range n {
			least = least && (set&(1<<proc) == 0 || won[set-1<<proc] < 0)
		}
		if least {
			list = append(list, uint32(set))
		}
	}
	return list
}

// seededCoterie returns a coterie of n processes to which sets, either any or
// large ones, were added one by one.
func seededCoterie(r *rand.Rand, n int) []uint32 {
	var list []uint32
	large := r.Intn(2) == 0
	for range r.Intn(60) {
		set := 1 + uint32(r.Intn(1<<n-1))
		if large {
			set |= uint32(r.Intn(1 << n))
		}
		more := append(list, set)
		if meet(n, more) {
			list = more
		}
	}
	return slices.Clip(list)
}

// seeded returns any list of sets of n processes, mostly no coterie.
func seeded(r *rand.Rand, n int) []uint32 {
	list := make([]uint32, r.Intn(api.MaxSets+1))
	for i := range list {
		list[i] = 1 + uint32(r.Intn(1<<n-1))
	}
	return list
}

// TestCommonErrors: of all functions with sets, in their order, whether the
// list is a coterie or not.
func TestCommonErrors(t *testing.T) {
	type row struct {
		name string
		n    int
		list []uint32
		want api.Errno
	}
	rows := []row{
		{"one set too many", 2, same(api.MaxSets+1, 1), api.ErrLarge},
		{"many sets", 2, same(5000, 3), api.ErrLarge},
		{"one set too many, all empty", 2, same(api.MaxSets+1, 0), api.ErrLarge},
		{"one set too many, of all bits", 6, same(api.MaxSets+1, math.MaxUint32), api.ErrLarge},
		{"no processes, and an empty set", 0, sets(0), api.ErrLarge},
		{"ErrRange before ErrForm", 3, sets(1, 2, 8), api.ErrRange},
		{"an empty set before ErrForm", 3, sets(1, 2, 0), api.ErrRange},
		{"an empty set and no other one", 3, sets(0), api.ErrRange},
		{"as many empty sets as there may be", 3, same(api.MaxSets, 0), api.ErrRange},
		{"an empty set at the end", 3, sets(3, 5, 6, 0), api.ErrRange},
		{"an empty set at the beginning", 3, sets(0, 3, 5, 6), api.ErrRange},
		{"all bits", 6, sets(math.MaxUint32), api.ErrRange},
		{"the greatest bit", 6, sets(7, 1<<31), api.ErrRange},
	}
	for _, n := range []int{0, -1, -32, api.MaxProc + 1, 31, 32, 33, 64, 1 << 32, math.MinInt, math.MaxInt} {
		for _, list := range [][]uint32{nil, sets(1), sets(3, 5, 6), sets(1, 2), sets(0), same(21, 1)} {
			rows = append(rows, row{"wrong n", n, list, api.ErrLarge})
		}
	}
	for n := 1; n <= api.MaxProc; n++ {
		for bit := n; bit < 32; bit++ {
			rows = append(rows, row{"one bit", n, sets(1 << bit), api.ErrRange})
			rows = append(rows, row{"one bit beside others", n, sets(1, 1|1<<bit), api.ErrRange})
		}
	}
	for _, c := range rows {
		if is, code := Meet(c.n, c.list); is || code != c.want {
			t.Errorf("Meet, %s, %d, %b: %t, %d", c.name, c.n, c.list, is, code)
		}
		if is, code := Full(c.n, c.list); is || code != c.want {
			t.Errorf("Full, %s, %d, %b: %t, %d", c.name, c.n, c.list, is, code)
		}
		if list, code := Better(c.n, c.list); len(list) != 0 || code != c.want {
			t.Errorf("Better, %s, %d, %b: %b, %d", c.name, c.n, c.list, list, code)
		}
		for _, s := range []uint32{0, 1, 63, 64, 1 << 31, math.MaxUint32} {
			if is, code := Wins(c.n, c.list, s); is || code != c.want {
				t.Errorf("Wins, %s, %d, %b, %b: %t, %d", c.name, c.n, c.list, s, is, code)
			}
		}
	}
}

// TestWinsErrors: s has a bit that is not a process. It may be empty.
func TestWinsErrors(t *testing.T) {
	for n := 1; n <= api.MaxProc; n++ {
		all := uint32(1<<n - 1)
		for _, list := range [][]uint32{nil, sets(1), sets(all), same(3, 1)} {
			for bit := n; bit < 32; bit++ {
				for _, s := range []uint32{0, 1, all, math.MaxUint32} {
					s |= 1 << bit
					if is, code := Wins(n, list, s); is || code != api.ErrRange {
						t.Errorf("%d, %b, %b: %t, %d", n, list, s, is, code)
					}
				}
			}
			if is, code := Wins(n, list, 0); is || code != api.OK {
				t.Errorf("%d, %b, the empty set: %t, %d", n, list, is, code)
			}
		}
	}
}

// TestForm: Full and Better of a list that is not a coterie.
func TestForm(t *testing.T) {
	for _, c := range []struct {
		name string
		n    int
		list []uint32
	}{
		{"two sets apart", 2, sets(1, 2)},
		{"a subset", 2, sets(1, 3)},
		{"a subset behind", 2, sets(3, 1)},
		{"the same set twice", 1, sets(1, 1)},
		{"the same set twice, apart", 3, sets(3, 5, 3)},
		{"the last two do not intersect", 4, sets(7, 9, 6)},
		{"the first and the last do not intersect", 4, sets(3, 6, 12)},
		{"a subset of the first one", 4, sets(7, 14, 6)},
		{"non-dominated, and one more", 3, sets(3, 5, 6, 7)},
		{"as many sets as there may be", 6, same(api.MaxSets, 63)},
		{"all sets of three of six", 6, bySize(6, 3)},
	} {
		if is, code := Full(c.n, c.list); is || code != api.ErrForm {
			t.Errorf("Full, %s: %t, %d", c.name, is, code)
		}
		if list, code := Better(c.n, c.list); len(list) != 0 || code != api.ErrForm {
			t.Errorf("Better, %s: %b, %d", c.name, list, code)
		}
		if is, code := Meet(c.n, c.list); is || code != api.OK {
			t.Errorf("Meet, %s: %t, %d", c.name, is, code)
		}
	}
}

// TestVotesErrors: in their order.
func TestVotesErrors(t *testing.T) {
	const have = api.MaxHave
	for _, c := range []struct {
		name  string
		votes []int
		most  int
		want  api.Errno
	}{
		{"nil", nil, 1, api.ErrLarge},
		{"no processes", []int{}, 0, api.ErrLarge},
		{"one process too many", []int{1, 1, 1, 1, 1, 1, 1}, 4, api.ErrLarge},
		{"many processes", make([]int, 5000), 1, api.ErrLarge},
		{"33 processes", make([]int, 33), math.MinInt, api.ErrLarge},
		{"ErrLarge before ErrRange", []int{-1, 1, 1, 1, 1, 1, 1}, 0, api.ErrLarge},
		{"less than no votes", []int{-1}, 1, api.ErrRange},
		{"the second one less than none", []int{3, -1, 3}, 3, api.ErrRange},
		{"the last one less than none", []int{3, 3, 3, 3, 3, -1}, 3, api.ErrRange},
		{"the least number", []int{math.MinInt, 5}, 1, api.ErrRange},
		{"one vote too many", []int{have + 1}, 1, api.ErrRange},
		{"the last one has one too many", []int{0, 0, 0, 0, 0, have + 1}, 1, api.ErrRange},
		{"the greatest number", []int{math.MaxInt, math.MaxInt}, 1, api.ErrRange},
		{"most is 0", []int{1, 1}, 0, api.ErrRange},
		{"most is less than 0", []int{1, 1}, -1, api.ErrRange},
		{"the least most", []int{1, 1}, math.MinInt, api.ErrRange},
		{"ErrRange before ErrNone", []int{1, -1}, 5, api.ErrRange},
		{"most is 0, and no votes", []int{0, 0}, 0, api.ErrRange},
		{"no votes", []int{0}, 1, api.ErrNone},
		{"nobody has votes", []int{0, 0, 0, 0, 0, 0}, 1, api.ErrNone},
		{"one less than most", []int{1, 2, 3}, 7, api.ErrNone},
		{"one more than all may have", []int{have, have, have, have, have, have}, 6*have + 1, api.ErrNone},
		{"the greatest most", []int{have, have}, math.MaxInt, api.ErrNone},
	} {
		if list, code := Votes(c.votes, c.most); len(list) != 0 || code != c.want {
			t.Errorf("%s, %v, %d: %b, %d", c.name, c.votes, c.most, list, code)
		}
	}
}

// TestLimits: the least and the greatest numbers are valid.
func TestLimits(t *testing.T) {
	for n := 1; n <= api.MaxProc; n++ {
		all := uint32(1<<n - 1)
		for _, list := range [][]uint32{nil, sets(1), sets(all), same(api.MaxSets, all), same(api.MaxSets, 1)} {
			if _, code := Meet(n, list); code != api.OK {
				t.Errorf("Meet, %d, %b: %d", n, list, code)
			}
			for s := range all + 1 {
				if is, code := Wins(n, list, s); is != winners(n, list)[s] || code != api.OK {
					t.Errorf("Wins, %d, %b, %b: %t, %d", n, list, s, is, code)
				}
			}
			want := api.OK
			if len(list) > 1 {
				want = api.ErrForm
			}
			if _, code := Full(n, list); code != want {
				t.Errorf("Full, %d, %b: %d", n, list, code)
			}
			if _, code := Better(n, list); code != want {
				t.Errorf("Better, %d, %b: %d", n, list, code)
			}
		}
		votes := slices.Repeat([]int{api.MaxHave}, n)
		if list, code := Votes(votes, n*api.MaxHave); !slices.Equal(list, sets(all)) || code != api.OK {
			t.Errorf("Votes, %v: %b, %d", votes, list, code)
		}
		votes = make([]int, n)
		votes[n-1] = 1
		if list, code := Votes(votes, 1); !slices.Equal(list, sets(1<<(n-1))) || code != api.OK {
			t.Errorf("Votes, %v: %b, %d", votes, list, code)
		}
	}
}

// TestCoteries: ordinary lists and edge cases of Meet and Full.
func TestCoteries(t *testing.T) {
	for _, c := range []struct {
		name       string
		n          int
		list       []uint32
		meet, full bool
	}{
		{"the example", 3, sets(3, 5, 6), true, true},
		{"the example, in another order", 3, sets(6, 3, 5), true, true},
		{"the example, of one process more", 4, sets(3, 5, 6), true, true},
		{"no sets", 1, nil, true, false},
		{"no sets, many processes", 6, nil, true, false},
		{"one process", 1, sets(1), true, true},
		{"one of two", 2, sets(1), true, true},
		{"the other one of two", 2, sets(2), true, true},
		{"both", 2, sets(3), true, false},
		{"each one", 2, sets(1, 2), false, false},
		{"one of six", 6, sets(32), true, true},
		{"all six", 6, sets(63), true, false},
		{"two of the three pairs", 3, sets(3, 6), true, false},
		{"all three", 3, sets(7), true, false},
		{"a pair and all", 3, sets(3, 7), false, false},
		{"the same pair twice", 3, sets(3, 3), false, false},
		{"three of four", 4, bySize(4, 3), true, false},
		{"three of four, or two with the first one", 4, sets(3, 5, 9, 14), true, true},
		{"two of four", 4, bySize(4, 2), false, false},
		{"three of five", 5, bySize(5, 3), true, true},
		{"four of five", 5, bySize(5, 4), true, false},
		{"four of six: no coterie has more sets", 6, bySize(6, 4), true, false},
		{"the lines of a plane of six points", 6, sets(0b000111, 0b011001, 0b101010, 0b110100), true, false},
		{"a row and a column of two by three", 6, sets(0b001111, 0b010111, 0b100111, 0b111001, 0b111010, 0b111100), true, false},
		{"a wheel", 5, sets(3, 5, 9, 17, 30), true, true},
	} {
		if is, code := Meet(c.n, c.list); is != c.meet || code != api.OK {
			t.Errorf("Meet, %s: %t, %d", c.name, is, code)
		}
		if is, code := Full(c.n, c.list); is != c.full || (code == api.OK) != c.meet {
			t.Errorf("Full, %s: %t, %d", c.name, is, code)
		}
	}
}

// TestWins: ordinary lists and edge cases. The list need not be a coterie.
func TestWins(t *testing.T) {
	for _, c := range []struct {
		name string
		n    int
		list []uint32
		s    uint32
		want bool
	}{
		{"one of three", 3, sets(3, 5, 6), 4, false},
		{"two of three", 3, sets(3, 5, 6), 5, true},
		{"the last pair", 3, sets(3, 5, 6), 6, true},
		{"all three", 3, sets(3, 5, 6), 7, true},
		{"nobody", 3, sets(3, 5, 6), 0, false},
		{"no sets", 3, nil, 7, false},
		{"no sets and nobody", 3, nil, 0, false},
		{"a part of a set", 3, sets(7), 6, false},
		{"more than a set", 6, sets(8), 63, true},
		{"beside the set", 6, sets(8), 55, false},
		{"sets apart", 4, sets(3, 12), 13, true},
		{"a bit of each of two sets apart", 4, sets(3, 12), 5, false},
		{"a set and its subset", 2, sets(3, 1), 1, true},
		{"the same set twice", 2, sets(2, 2), 2, true},
	} {
		if is, code := Wins(c.n, c.list, c.s); is != c.want || code != api.OK {
			t.Errorf("%s: %t, %d", c.name, is, code)
		}
	}
}

// TestVotes: ordinary votes and edge cases.
func TestVotes(t *testing.T) {
	for _, c := range []struct {
		name  string
		votes []int
		most  int
		want  []uint32
	}{
		{"two of three", []int{1, 1, 1}, 2, sets(3, 5, 6)},
		{"each one", []int{1, 1, 1}, 1, sets(1, 2, 4)},
		{"all", []int{1, 1, 1}, 3, sets(7)},
		{"one that has enough", []int{1}, 1, sets(1)},
		{"one that has more", []int{100}, 1, sets(1)},
		{"one that has just enough", []int{100}, 100, sets(1)},
		{"one has enough alone", []int{3, 1, 1}, 3, sets(1)},
		{"one has enough alone, or all others", []int{1, 1, 1, 3}, 3, sets(7, 8)},
		{"one with each other one, or all others", []int{3, 1, 1, 1, 1}, 4, sets(3, 5, 9, 17, 30)},
		{"one without votes", []int{0, 1, 1}, 2, sets(6)},
		{"one without votes, and each other one", []int{0, 1, 1}, 1, sets(2, 4)},
		{"more than most, and minimal", []int{2, 2, 2}, 3, sets(3, 5, 6)},
		{"some with more votes than others", []int{1, 2, 3, 4}, 5, sets(6, 9, 10, 12)},
		{"a great set before a greater one", []int{1, 1, 1, 1, 4}, 4, sets(15, 16)},
		{"all sets of three of six", []int{1, 1, 1, 1, 1, 1}, 3, bySize(6, 3)},
		{"all sets of four of six", []int{1, 1, 1, 1, 1, 1}, 4, bySize(6, 4)},
		{"powers of two", []int{1, 2, 4, 8, 16, 32}, 21, sets(0b010101, 0b010110, 0b011000, 0b100000)},
	} {
		if list, code := Votes(c.votes, c.most); !slices.Equal(list, c.want) || code != api.OK {
			t.Errorf("%s: %b, %d, want %b", c.name, list, code, c.want)
		}
	}
}

// compare holds Meet, Wins, Full and Better against the definitions.
func compare(t *testing.T, n int, list []uint32) {
	t.Helper()
	is := meet(n, list)
	if got, code := Meet(n, list); got != is || code != api.OK {
		t.Fatalf("Meet, %d, %b: %t, %d, want %t", n, list, got, code, is)
	}
	won := winners(n, list)
	for s, want := range won {
		if got, code := Wins(n, list, uint32(s)); got != want || code != api.OK {
			t.Fatalf("Wins, %d, %b, %b: %t, %d, want %t", n, list, s, got, code, want)
		}
	}
	want := api.OK
	if !is {
		want = api.ErrForm
	}
	decided := is && full(won)
	if got, code := Full(n, list); got != decided || code != want {
		t.Fatalf("Full, %d, %b: %t, %d, want %t, %d", n, list, got, code, decided, want)
	}
	better, code := Better(n, list)
	if code != want {
		t.Fatalf("Better, %d, %b: %b, %d, want %d", n, list, better, code, want)
	}
	switch {
	case !is:
		if len(better) != 0 {
			t.Fatalf("Better, %d, %b: %b", n, list, better)
		}
	case decided:
		if !slices.Equal(better, list) {
			t.Fatalf("Better, %d, %b: %b, want the same", n, list, better)
		}
	default:
		valid := !slices.ContainsFunc(better, func(set uint32) bool { return set == 0 || set >= 1<<n })
		if !valid || !meet(n, better) || len(better) > api.MaxSets {
			t.Fatalf("Better, %d, %b: %b is not a coterie", n, list, better)
		}
		if !dominates(winners(n, better), won) {
			t.Fatalf("Better, %d, %b: %b does not dominate it", n, list, better)
		}
	}
}

// TestAllLists: all lists of a few sets of up to four processes, in all orders
// and with repetitions.
func TestAllLists(t *testing.T) {
	for _, c := range []struct{ n, most int }{{1, 6}, {2, 6}, {3, 5}, {4, 3}} {
		var grow func(list []uint32)
		grow = func(list []uint32) {
			compare(t, c.n, list)
			for set := uint32(1); len(list) < c.most && set < 1<<c.n; set++ {
				grow(append(slices.Clone(list), set))
			}
		}
		grow(nil)
	}
}

// TestAllFamilies: all sets of sets of up to four processes.
func TestAllFamilies(t *testing.T) {
	for n := 1; n <= 4; n++ {
		for family := range 1 << (1<<n - 1) {
			var list []uint32
			for set := uint32(1); set < 1<<n; set++ {
				if family>>(set-1)&1 == 1 {
					list = append(list, set)
				}
			}
			compare(t, n, list)
		}
	}
}

// TestAllCoteries: all coteries of up to five processes, and those of at most
// three sets of six. The numbers of non-dominated ones are those of self-dual
// monotone functions, which are known.
func TestAllCoteries(t *testing.T) {
	for i, many := range []int{1, 2, 4, 12, 81} {
		n := i + 1
		found, all := 0, 0
		coteries(n, api.MaxSets, func(list []uint32) {
			compare(t, n, list)
			all++
			if is, _ := Full(n, list); is {
				found++
			}
		})
		if found != many {
			t.Errorf("%d processes: %d of %d coteries are non-dominated, not %d", n, found, all, many)
		}
	}
	coteries(6, 3, func(list []uint32) { compare(t, 6, list) })
}

// TestMajorities: all non-dominated coteries, and those that are dominated as
// a set is missing, or larger.
func TestMajorities(t *testing.T) {
	for i, many := range []int{1, 2, 4, 12, 81, 2646} {
		n := i + 1
		found := majorities(n)
		if len(found) != many {
			t.Errorf("%d processes: %d, not %d", n, len(found), many)
		}
		for _, list := range found {
			if is, code := Full(n, list); !is || code != api.OK {
				t.Errorf("Full, %d, %b: %t, %d", n, list, is, code)
			}
			if better, code := Better(n, list); !slices.Equal(better, list) || code != api.OK {
				t.Errorf("Better, %d, %b: %b, %d", n, list, better, code)
			}
			at := len(list) / 2
			compare(t, n, slices.Delete(slices.Clone(list), at, at+1))
			larger := slices.Clone(list)
			larger[at] = 1<<n - 1
			compare(t, n, larger)
		}
	}
}

// TestSeeded: lists of sets of up to MaxProc processes.
func TestSeeded(t *testing.T) {
	r := rand.New(rand.NewSource(14))
	many := map[int]int{}
	for range 20000 {
		n := 3 + r.Intn(api.MaxProc-2)
		list := seededCoterie(r, n)
		compare(t, n, list)
		many[len(list)]++
		compare(t, n, seeded(r, n))
		// One set more is mostly too much.
		compare(t, n, append(list, 1+uint32(r.Intn(1<<n-1))))
	}
	if many[0] == 0 || many[1] == 0 || many[5] < 500 || many[9] < 100 {
		t.Error(many)
	}
}

// TestBetterAndBetter: as nothing is better than itself, this ends, at a
// non-dominated coterie.
func TestBetterAndBetter(t *testing.T) {
	r := rand.New(rand.NewSource(5))
	long := 0
	for range 12000 {
		n := 1 + r.Intn(api.MaxProc)
		list := seededCoterie(r, n)
		steps := 0
		for steps < 1<<n {
			is, _ := Full(n, list)
			better, code := Better(n, list)
			if code != api.OK || is != slices.Equal(better, list) {
				t.Fatalf("%d, %b, %t: %b, %d", n, list, is, better, code)
			}
			if is {
				break
			}
			list = better
			steps++
		}
		if is, code := Full(n, list); !is || code != api.OK {
			t.Fatalf("%d, %b: %t, %d", n, list, is, code)
		}
		if steps > 4 {
			long++
		}
	}
	if long < 100 {
		t.Errorf("only %d in more than four steps", long)
	}
}

// enough returns the sets that have enough votes although none of their
// subsets but themselves has.
func enough(votes []int, most int) []uint32 {
	n := len(votes)
	sums := make([]int, 1<<n)
	for s := range sums {
		for proc, in := range members(n, uint32(s)) {
			if in {
				sums[s] += votes[proc]
			}
		}
	}
	var list []uint32
	for s := range sums {
		least := sums[s] >= most
		for part := range sums {
			if part != s && within(n, uint32(part), uint32(s)) && sums[part] >= most {
				least = false
			}
		}
		if least {
			list = append(list, uint32(s))
		}
	}
	return list
}

func compareVotes(t *testing.T, votes []int, most int) []uint32 {
	t.Helper()
	list, code := Votes(votes, most)
	want := enough(votes, most)
	if !slices.Equal(list, want) || (code == api.OK) != (len(want) > 0) || code != api.OK && code != api.ErrNone {
		t.Fatalf("%v, %d: %b, %d, want %b", votes, most, list, code, want)
	}
	return list
}

// TestAllVotes: all votes of up to four processes with few votes each, and all
// numbers that may be needed.
func TestAllVotes(t *testing.T) {
	for i, each := range []int{9, 6, 5, 3} {
		n := i + 1
		var grow func(votes []int)
		grow = func(votes []int) {
			if len(votes) == n {
				for most := 1; most <= n*each+2; most++ {
					compareVotes(t, votes, most)
				}
			}
			for many := 0; len(votes) < n && many <= each; many++ {
				grow(append(slices.Clone(votes), many))
			}
		}
		grow(nil)
	}
}

// TestSeededVotes: votes of up to MaxProc processes.
func TestSeededVotes(t *testing.T) {
	r := rand.New(rand.NewSource(6))
	many := map[int]int{}
	for range 1500 {
		votes := make([]int, 1+r.Intn(api.MaxProc))
		each := []int{2, 4, 10, api.MaxHave}[r.Intn(4)]
		sum := 0
		for proc := range votes {
			votes[proc] = r.Intn(each + 1)
			sum += votes[proc]
		}
		list := compareVotes(t, votes, 1+r.Intn(sum+1))
		many[len(list)]++
		// Two sets that have more than half of the votes intersect, and with
		// an odd number of votes a set or its complement has.
		list = compareVotes(t, votes, sum/2+1)
		if is, code := Meet(len(votes), list); !is || code != api.OK {
			t.Fatalf("%v: %b, %t, %d", votes, list, is, code)
		}
		if is, code := Full(len(votes), list); sum%2 == 1 && !is || code != api.OK {
			t.Fatalf("%v: %b, %t, %d", votes, list, is, code)
		}
	}
	if many[0] < 20 || many[1] < 100 || many[5] < 50 || many[9] < 10 {
		t.Error(many)
	}
}

// rename returns the list of sets of processes that are called by other
// numbers.
func rename(list []uint32, names []int) []uint32 {
	renamed := make([]uint32, len(list))
	for i, set := range list {
		for proc, name := range names {
			renamed[i] |= set >> proc & 1 << name
		}
	}
	return renamed
}

// TestNumbersDoNotMatter: nor does the order of the sets.
func TestNumbersDoNotMatter(t *testing.T) {
	r := rand.New(rand.NewSource(7))
	for range 3000 {
		n := 1 + r.Intn(api.MaxProc)
		names := r.Perm(n)
		list := seededCoterie(r, n)
		if r.Intn(3) == 0 {
			list = seeded(r, n)
		}
		other := rename(list, names)
		r.Shuffle(len(other), func(i, j int) { other[i], other[j] = other[j], other[i] })
		is, _ := Meet(n, list)
		if got, _ := Meet(n, other); got != is {
			t.Fatalf("Meet, %b: %t, %b: %t", list, is, other, got)
		}
		is, want := Full(n, list)
		if got, code := Full(n, other); got != is || code != want {
			t.Fatalf("Full, %b: %t, %d, %b: %t, %d", list, is, want, other, got, code)
		}
		s := sets(uint32(r.Intn(1 << n)))
		is, _ = Wins(n, list, s[0])
		if got, _ := Wins(n, other, rename(s, names)[0]); got != is {
			t.Fatalf("Wins, %b, %b: %t, %b: %t", list, s, is, other, got)
		}
		votes, moved := make([]int, n), make([]int, n)
		for proc := range votes {
			votes[proc] = r.Intn(6)
			moved[names[proc]] = votes[proc]
		}
		some, want := Votes(votes, 6)
		others, code := Votes(moved, 6)
		some = rename(some, names)
		slices.Sort(some)
		if !slices.Equal(some, others) || code != want {
			t.Fatalf("Votes, %v: %b, %d, %v: %b, %d", votes, some, want, moved, others, code)
		}
	}
}

// TestArgumentsStay: lists are not changed, nothing beyond their length
// matters, results are new memory, and calls do not depend on earlier ones.
func TestArgumentsStay(t *testing.T) {
	r := rand.New(rand.NewSource(8))
	for range 3000 {
		n := 1 + r.Intn(api.MaxProc)
		list := seededCoterie(r, n)
		if r.Intn(3) == 0 {
			list = seeded(r, n)
		}
		room := append(slices.Clone(list), math.MaxUint32, 1, 0)
		whole := slices.Clone(room)
		part := room[:len(list)]
		s := uint32(r.Intn(1 << n))
		is, _ := Meet(n, part)
		wins, _ := Wins(n, part, s)
		decided, fullCode := Full(n, part)
		better, betterCode := Better(n, part)
		if !slices.Equal(room, whole) {
			t.Fatalf("%b: now %b", whole, room)
		}
		want := slices.Clone(better)
		for i := range better[:cap(better)] {
			better[:cap(better)][i] = 99
		}
		if !slices.Equal(room, whole) {
			t.Fatalf("%b: the result is no new memory: %b", whole, room)
		}
		if got, _ := Meet(n, list); got != is {
			t.Fatalf("Meet, %b: %t, then %t", list, is, got)
		}
		if got, _ := Wins(n, list, s); got != wins {
			t.Fatalf("Wins, %b: %t, then %t", list, wins, got)
		}
		if got, code := Full(n, list); got != decided || code != fullCode {
			t.Fatalf("Full, %b: %t, %d, then %t, %d", list, decided, fullCode, got, code)
		}
		if got, code := Better(n, list); !slices.Equal(got, want) || code != betterCode {
			t.Fatalf("Better, %b: %b, %d, then %b, %d", list, want, betterCode, got, code)
		}
	}
}

// TestVotesStay: the same for Votes.
func TestVotesStay(t *testing.T) {
	r := rand.New(rand.NewSource(9))
	for range 1000 {
		room := make([]int, api.MaxProc+2)
		for i := range room {
			room[i] = r.Intn(5)
		}
		n := 1 + r.Intn(api.MaxProc)
		room[n] = -1
		whole := slices.Clone(room)
		list, code := Votes(room[:n], 4)
		if !slices.Equal(room, whole) {
			t.Fatalf("%v: now %v", whole, room)
		}
		want := slices.Clone(list)
		clear(list)
		if got, again := Votes(slices.Clone(room[:n]), 4); !slices.Equal(got, want) || again != code {
			t.Fatalf("%v: %b, %d, then %b, %d", whole, want, code, got, again)
		}
	}
}

// TestNilAndEmpty: are the same.
func TestNilAndEmpty(t *testing.T) {
	for n := 0; n <= api.MaxProc+1; n++ {
		for _, list := range [][]uint32{nil, {}, sets(1)[:0]} {
			want := api.OK
			if n == 0 || n > api.MaxProc {
				want = api.ErrLarge
			}
			if is, code := Meet(n, list); is != (want == api.OK) || code != want {
				t.Errorf("Meet, %d: %t, %d", n, is, code)
			}
			if is, code := Wins(n, list, 0); is || code != want {
				t.Errorf("Wins, %d: %t, %d", n, is, code)
			}
			if is, code := Full(n, list); is || code != want {
				t.Errorf("Full, %d: %t, %d", n, is, code)
			}
			better, code := Better(n, list)
			if (len(better) > 0) != (want == api.OK) || code != want {
				t.Errorf("Better, %d: %b, %d", n, better, code)
			}
		}
	}
	for _, votes := range [][]int{nil, {}, []int{1}[:0]} {
		if list, code := Votes(votes, 1); len(list) != 0 || code != api.ErrLarge {
			t.Errorf("Votes: %b, %d", list, code)
		}
	}
}
