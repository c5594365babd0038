package ring

import (
	"cmp"
	"math"
	"math/bits"
	"math/rand"
	"slices"
	"testing"

	"beaconry/api"
)

func ids(l ...int) []int { return l }

// mask returns n bools: the bits of word.
func mask(n int, word uint) []bool {
	l := make([]bool, n)
	for i := range l {
		l[i] = word>>i&1 == 1
	}
	return l
}

// count returns the numbers 0 to n-1.
func count(n int) []int {
	l := make([]int, n)
	for i := range l {
		l[i] = i
	}
	return l
}

// orders calls see with each order of l[at:], behind l[:at].
func orders(l []int, at int, see func([]int)) {
	if at == len(l) {
		see(l)
		return
	}
	for i := at; i < len(l); i++ {
		l[at], l[i] = l[i], l[at]
		orders(l, at+1, see)
		l[at], l[i] = l[i], l[at]
	}
}

// seeded returns n different numbers in a random order, the extremes among
// them now and then.
func seeded(r *rand.Rand, n int) []int {
	l := r.Perm(n)
	for i := range l {
		l[i] = (l[i] - n/2) * 1000
	}
	if r.Intn(3) == 0 {
		l[slices.Index(l, slices.Max(l))] = math.MaxInt
		l[slices.Index(l, slices.Min(l))] = math.MinInt
	}
	return l
}

// TestCommonErrors: of all functions, in their order.
func TestCommonErrors(t *testing.T) {
	long := count(api.MaxRing + 1)
	for _, c := range []struct {
		name string
		ids  []int
		want api.Errno
	}{
		{"nil", nil, api.ErrLarge},
		{"no processes", ids(), api.ErrLarge},
		{"one process too many", long, api.ErrLarge},
		{"many processes", count(5000), api.ErrLarge},
		{"ErrLarge before ErrForm", make([]int, api.MaxRing+1), api.ErrLarge},
		{"two with one number", ids(4, 4), api.ErrForm},
		{"first and last", ids(4, 1, 2, 4), api.ErrForm},
		{"first and second", ids(4, 4, 1), api.ErrForm},
		{"second and last", ids(1, 4, 2, 4), api.ErrForm},
		{"far apart", ids(7, 1, 0, -1, 5, 1), api.ErrForm},
		{"all the same", make([]int, api.MaxRing), api.ErrForm},
		{"two of the least", ids(math.MinInt, 0, math.MinInt), api.ErrForm},
		{"two of the greatest", ids(math.MaxInt, math.MaxInt), api.ErrForm},
		{"at the limit", append(count(api.MaxRing-1), 0), api.ErrForm},
	} {
		for _, begin := range [][]bool{nil, make([]bool, len(c.ids)), mask(len(c.ids), 1), mask(len(c.ids)+1, 1)} {
			if i, n, code := Lead(c.ids, begin); i != 0 || n != 0 || code != c.want {
				t.Errorf("Lead, %s, %v: %d, %d, %d", c.name, begin, i, n, code)
			}
		}
		if l, code := Half(c.ids); len(l) != 0 || code != c.want {
			t.Errorf("Half, %s: %v, %d", c.name, l, code)
		}
		if n, code := Halves(c.ids); n != 0 || code != c.want {
			t.Errorf("Halves, %s: %d, %d", c.name, n, code)
		}
	}
}

// TestLeadErrors: those of Lead alone, after the common ones.
func TestLeadErrors(t *testing.T) {
	for _, c := range []struct {
		name  string
		ids   []int
		begin []bool
		want  api.Errno
	}{
		{"no list", ids(1, 2, 3), nil, api.ErrForm},
		{"too short", ids(1, 2, 3), mask(2, 3), api.ErrForm},
		{"too long", ids(1, 2, 3), mask(4, 15), api.ErrForm},
		{"ErrForm before ErrNone, too short", ids(1, 2, 3), mask(2, 0), api.ErrForm},
		{"ErrForm before ErrNone, too long", ids(1, 2, 3), mask(4, 0), api.ErrForm},
		{"the only true one is beyond", ids(1, 2, 3), mask(4, 8), api.ErrForm},
		{"beyond the limit", ids(1, 2, 3), mask(api.MaxRing+1, 1), api.ErrForm},
		{"ErrLarge before ErrForm", nil, mask(1, 1), api.ErrLarge},
		{"ErrLarge before ErrNone", nil, nil, api.ErrLarge},
		{"nobody", ids(1, 2, 3), mask(3, 0), api.ErrNone},
		{"nobody of one", ids(1), mask(1, 0), api.ErrNone},
		{"same numbers before nobody", ids(1, 1), mask(2, 0), api.ErrForm},
	} {
		if i, n, code := Lead(c.ids, c.begin); i != 0 || n != 0 || code != c.want {
			t.Errorf("%s: %d, %d, %d", c.name, i, n, code)
		}
	}
}

// TestLead: ordinary rings and edge cases.
func TestLead(t *testing.T) {
	all := uint(math.MaxUint)
	for _, c := range []struct {
		name             string
		ids              []int
		begin            uint
		leader, messages int
	}{
		{"the example", ids(3, 1, 2), all, 0, 5},
		{"one process sends to itself", ids(5), all, 0, 1},
		{"one process below 0", ids(math.MinInt), all, 0, 1},
		{"two, both begin", ids(1, 2), all, 1, 3},
		{"two, the greater one begins", ids(1, 2), 2, 1, 2},
		{"two, the smaller one begins", ids(1, 2), 1, 1, 3},
		{"the greatest one alone begins", ids(3, 1, 2), 1, 0, 3},
		{"another one wakes the greatest one", ids(3, 1, 2), 4, 0, 4},
		{"one wakes another one, which wakes the greatest one", ids(3, 1, 2), 2, 0, 5},
		{"rising, all begin", ids(1, 2, 3, 4), all, 3, 7},
		{"falling, all begin", ids(4, 3, 2, 1), all, 0, 10},
		{"numbers below 0 and the extremes", ids(math.MinInt, math.MaxInt, -1), all, 1, 6},
		{"a number that is forwarded wakes nobody", ids(4, 3, 2, 0, 1), 1 << 1, 0, 9},
		{"a number is forwarded ahead of the greatest one", ids(4, 3, 2, 0, 1), 1<<1 | 1<<4, 0, 10},
		{"one that is woken is ahead of the greatest one", ids(9, 0, 5, 1), 1 | 1<<1, 0, 7},
		{"one that is woken twice sends once", ids(2, 5, 1, 3, 9), 1<<0 | 1<<2, 4, 11},
		{"one that began is not woken", ids(1, 5, 9), 1<<0 | 1<<1, 2, 5},
		{"some never send their own number", ids(9, 2, 3, 1), 1 | 1<<3, 0, 5},
	} {
		if i, n, code := Lead(c.ids, mask(len(c.ids), c.begin)); i != c.leader || n != c.messages || code != api.OK {
			t.Errorf("%s: %d, %d, %d, want %d, %d", c.name, i, n, code, c.leader, c.messages)
		}
	}
}

// travels tells of each number how far it gets: to the next greater one, and
// the greatest one once around.
func travels(ids []int) []int {
	far := make([]int, len(ids))
	for i, id := range ids {
		far[i] = 1
		for far[i] < len(ids) && ids[(i+far[i])%len(ids)] < id {
			far[i]++
		}
	}
	return far
}

// expect tells the leader and the messages without playing rounds. It finds
// out in which round each number is sent first (a smaller one wakes the process
// at which it is dropped), and counts the rounds in which it is sent until the
// greatest one is home.
func expect(ids []int, begin []bool) (leader, messages int) {
	const never = math.MaxInt
	far := travels(ids)
	first := make([]int, len(ids))
	for i := range first {
		first[i] = never
		if begin[i] {
			first[i] = 0
		}
	}
	rising := count(len(ids))
	slices.SortFunc(rising, func(a, b int) int { return cmp.Compare(ids[a], ids[b]) })
	for _, i := range rising[:len(ids)-1] {
		if next := (i + far[i]) % len(ids); first[i] != never {
			first[next] = min(first[next], first[i]+far[i])
		}
	}
	leader = rising[len(ids)-1]
	end := first[leader] + len(ids)
	for i := range ids {
		if first[i] < end {
			messages += min(far[i], end-first[i])
		}
	}
	return leader, messages
}

// agree compares Lead with expect.
func agree(t *testing.T, ids []int, begin []bool) {
	leader, messages := expect(ids, begin)
	if i, n, code := Lead(ids, begin); i != leader || n != messages || code != api.OK {
		t.Fatalf("%v, %v: %d, %d, %d, want %d, %d", ids, begin, i, n, code, leader, messages)
	}
}

// TestLeadSmall: all rings of up to six processes, whoever begins.
func TestLeadSmall(t *testing.T) {
	for n := 1; n <= 6; n++ {
		orders(count(n), 0, func(ids []int) {
			for word := uint(1); word < 1<<n; word++ {
				agree(t, ids, mask(n, word))
			}
		})
	}
}

// TestLeadLarge: seeded rings of all sizes.
func TestLeadLarge(t *testing.T) {
	r := rand.New(rand.NewSource(7))
	full, alone := 0, 0
	for range 20000 {
		n := 1 + r.Intn(api.MaxRing)
		word := 1 + uint(r.Intn(1<<n-1))
		if r.Intn(2) == 0 {
			word = 1 << r.Intn(n)
		}
		agree(t, seeded(r, n), mask(n, word))
		if n == api.MaxRing {
			full++
			alone += 1 / bits.OnesCount(word)
		}
	}
	if full < 1000 || alone < 500 {
		t.Error("too few large rings:", full, alone)
	}
}

// TestLeadMost: the known numbers of messages if all begin.
func TestLeadMost(t *testing.T) {
	for n := 1; n <= api.MaxRing; n++ {
		rising := count(n)
		if i, k, code := Lead(rising, mask(n, math.MaxUint)); i != n-1 || k != 2*n-1 || code != api.OK {
			t.Errorf("rising, %d: %d, %d, %d", n, i, k, code)
		}
		slices.Reverse(rising)
		if i, k, code := Lead(rising, mask(n, math.MaxUint)); i != 0 || k != n*(n+1)/2 || code != api.OK {
			t.Errorf("falling, %d: %d, %d, %d", n, i, k, code)
		}
	}
}

// TestHalf: ordinary rings and edge cases.
func TestHalf(t *testing.T) {
	for _, c := range []struct {
		name   string
		ids    []int
		want   []int
		phases int
	}{
		{"the example", ids(1, 5, 2, 4, 3), ids(5, 4), 2},
		{"a single number", ids(8), ids(8), 0},
		{"a single number below 0", ids(math.MinInt), ids(math.MinInt), 0},
		{"two, the first one is greater", ids(2, 1), ids(2), 1},
		{"two, the last one is greater", ids(1, 2), ids(2), 1},
		{"two extremes", ids(math.MaxInt, math.MinInt), ids(math.MaxInt), 1},
		{"three", ids(3, 1, 2), ids(3), 1},
		{"rising", ids(1, 2, 3, 4), ids(4), 1},
		{"falling", ids(4, 3, 2, 1), ids(4), 1},
		{"the last one moves to the first position", ids(1, 4, 2, 5), ids(5, 4), 2},
		{"the last one is smaller and comes first", ids(1, 5, 2, 4), ids(4, 5), 2},
		{"the first one moves to the second position", ids(5, 2, 4, 1), ids(5, 4), 2},
		{"only the last one", ids(2, 1, 3), ids(3), 1},
		{"the first one is not greater than the last one", ids(4, 1, 2, 5), ids(5), 1},
		{"the last one is not greater than the first one", ids(5, 1, 2, 4), ids(5), 1},
		{"greater than the one before only", ids(1, 2, 3, 0, 5), ids(5, 3), 2},
		{"greater than the one behind only", ids(0, 9, 8, 7, 1), ids(9), 1},
		{"numbers below 0", ids(-1, -5, -2, -4), ids(-1, -2), 2},
		{"half of the most", ids(1, 7, 2, 8, 3, 9, 4, 10, 5, 11, 6, 12), ids(12, 7, 8, 9, 10, 11), 2},
		{"most phases", ids(0, 8, 1, 10, 2, 9, 3, 11), ids(11, 8, 10, 9), 3},
	} {
		if l, code := Half(c.ids); !slices.Equal(l, c.want) || code != api.OK {
			t.Errorf("Half, %s: %v, %d, want %v", c.name, l, code, c.want)
		}
		if n, code := Halves(c.ids); n != c.phases || code != api.OK {
			t.Errorf("Halves, %s: %d, %d, want %d", c.name, n, code, c.phases)
		}
	}
}

// kept tells what a phase keeps, in another way: every number strikes out its
// smaller neighbors, and what is left at the last position comes first.
func kept(ids []int) []int {
	out := make([]bool, len(ids))
	for i := range ids {
		next := (i + 1) % len(ids)
		if ids[i] < ids[next] {
			out[i] = true
		} else if ids[i] > ids[next] {
			out[next] = true
		}
	}
	var l []int
	for i := range ids {
		if !out[i] {
			l = append(l, ids[i])
		}
	}
	if last := len(l) - 1; !out[len(ids)-1] {
		l = append([]int{l[last]}, l[:last]...)
	}
	return l
}

// phases tells how many phases it takes until the greatest number is alone.
func phases(ids []int) int {
	if len(ids) == 1 {
		return 0
	}
	return 1 + phases(kept(ids))
}

// agreeHalf compares Half and Halves with kept and phases.
func agreeHalf(t *testing.T, ids []int) {
	l, code := Half(ids)
	if !slices.Equal(l, kept(ids)) || code != api.OK {
		t.Fatalf("Half, %v: %v, %d, want %v", ids, l, code, kept(ids))
	}
	n, code := Halves(ids)
	if n != phases(ids) || code != api.OK {
		t.Fatalf("Halves, %v: %d, %d, want %d", ids, n, code, phases(ids))
	}
	if !slices.Contains(l, slices.Max(ids)) || len(ids) > 1 && 2*len(l) > len(ids) {
		t.Fatalf("Half, %v: %v is not the better half", ids, l)
	}
	if n >= bits.Len(uint(len(ids))) {
		t.Fatalf("Halves, %v: %d phases", ids, n)
	}
}

// TestHalfSmall: all rings of up to eight processes.
func TestHalfSmall(t *testing.T) {
	for n := 1; n <= 8; n++ {
		orders(count(n), 0, func(ids []int) { agreeHalf(t, ids) })
	}
}

// TestHalfLarge: seeded rings of all sizes.
func TestHalfLarge(t *testing.T) {
	r := rand.New(rand.NewSource(77))
	for range 20000 {
		agreeHalf(t, seeded(r, 1+r.Intn(api.MaxRing)))
	}
}

// TestLimits: the largest ring is valid.
func TestLimits(t *testing.T) {
	full := count(api.MaxRing)
	if i, n, code := Lead(full, mask(api.MaxRing, 1)); i != api.MaxRing-1 || n != 2*api.MaxRing-1 || code != api.OK {
		t.Error(i, n, code)
	}
	if l, code := Half(full); !slices.Equal(l, ids(api.MaxRing-1)) || code != api.OK {
		t.Error(l, code)
	}
	if n, code := Halves(full); n != 1 || code != api.OK {
		t.Error(n, code)
	}
}

// TestArgumentsStay: arguments are not modified, memory beyond a list is
// neither read nor written, and results share none.
func TestArgumentsStay(t *testing.T) {
	for _, numbers := range [][]int{{6}, {6, 1}, {1, 6}, {1, 5, 2, 4, 3}, {3, 1, 2, 6, 0, 9}} {
		n := len(numbers)
		for _, beyond := range []int{math.MinInt, 0, 6, math.MaxInt} {
			list := append(slices.Clone(numbers), beyond, beyond)
			begin := append(mask(n, 1), beyond == 0, beyond == 0)
			listBefore, beginBefore := slices.Clone(list), slices.Clone(begin)
			leader, messages := expect(numbers, begin[:n])
			if i, k, code := Lead(list[:n], begin[:n]); i != leader || k != messages || code != api.OK {
				t.Errorf("Lead, %v, %d beyond: %d, %d, %d", numbers, beyond, i, k, code)
			}
			if k, code := Halves(list[:n]); k != phases(numbers) || code != api.OK {
				t.Errorf("Halves, %v, %d beyond: %d, %d", numbers, beyond, k, code)
			}
			l, code := Half(list[:n])
			if !slices.Equal(l, kept(numbers)) || code != api.OK {
				t.Errorf("Half, %v, %d beyond: %v, %d", numbers, beyond, l, code)
			}
			for i := range l[:cap(l)] {
				l[:cap(l)][i] = 77
			}
			if !slices.Equal(list, listBefore) || !slices.Equal(begin, beginBefore) {
				t.Errorf("%v, %d beyond: the arguments are %v, %v now", numbers, beyond, list, begin)
			}
		}
	}
	if _, _, code := Lead(ids(1, 2), mask(3, 4)[:2]); code != api.ErrNone {
		t.Error("begin beyond its length was read:", code)
	}
}

// TestTwice: results depend on the arguments alone.
func TestTwice(t *testing.T) {
	numbers := ids(4, 9, 1, 8, 2, 11, 3, 10, 5, 7, 0, 6)
	begin := mask(len(numbers), 0b010010010100)
	leader, messages := expect(numbers, begin)
	first, _ := Half(numbers)
	for range 100 {
		if i, n, code := Lead(numbers, begin); i != leader || n != messages || code != api.OK {
			t.Fatal(i, n, code)
		}
		l, code := Half(numbers)
		if !slices.Equal(l, kept(numbers)) || code != api.OK || &l[0] == &first[0] {
			t.Fatal(l, code)
		}
		l[0] = -1
	}
}
