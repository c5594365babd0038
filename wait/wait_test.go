package wait

import (
	"math"
	"math/bits"
	"math/rand"
	"slices"
	"testing"

	"beaconry/api"
)

func sets(l ...uint32) []uint32 { return l }

// same returns n times the same set.
func same(n int, set uint32) []uint32 {
	return slices.Repeat(sets(set), n)
}

// every calls see with all lists of n sets of n processes.
func every(n int, see func(waits []uint32)) {
	for code := range 1 << (n * n) {
		waits := make([]uint32, n)
		for proc := range waits {
			waits[proc] = uint32(code>>(proc*n)) & (1<<n - 1)
		}
		see(waits)
	}
}

// seeded returns n sets of n processes, with few or many elements.
func seeded(r *rand.Rand, n int) []uint32 {
	waits := make([]uint32, n)
	density := 1 + r.Intn(9)
	for proc := range waits {
		for other := range n {
			if r.Intn(12) < density {
				waits[proc] |= 1 << other
			}
		}
	}
	return waits
}

// many calls see with all lists of at most four processes, and with seeded
// ones of at most MaxProc.
func many(see func(waits []uint32)) {
	for n := 1; n <= 4; n++ {
		every(n, see)
	}
	r := rand.New(rand.NewSource(12))
	for range 60000 {
		see(seeded(r, 5+r.Intn(api.MaxProc-4)))
	}
}

// TestCommonErrors: of all functions, in their order, whatever i is.
func TestCommonErrors(t *testing.T) {
	type row struct {
		name  string
		waits []uint32
		want  api.Errno
	}
	rows := []row{
		{"nil", nil, api.ErrLarge},
		{"no processes", sets(), api.ErrLarge},
		{"one process too many", same(api.MaxProc+1, 0), api.ErrLarge},
		{"many processes", same(5000, 1), api.ErrLarge},
		{"33 processes", same(33, 0), api.ErrLarge},
		{"ErrLarge before ErrRange", same(api.MaxProc+1, math.MaxUint32), api.ErrLarge},
		{"all bits", sets(math.MaxUint32), api.ErrRange},
		{"two of two, and the next one", sets(7, 0), api.ErrRange},
		{"the next one in the second set", sets(2, 4), api.ErrRange},
		{"all sets", same(api.MaxProc, math.MaxUint32), api.ErrRange},
	}
	for n := 1; n <= api.MaxProc; n++ {
		for bit := n; bit < 32; bit++ {
			for at := range n {
				waits := make([]uint32, n)
				waits[at] = 1 << bit
				rows = append(rows, row{"one bit", waits, api.ErrRange})
				waits = same(n, 1)
				waits[at] |= 1 << bit
				rows = append(rows, row{"one bit beside others", waits, api.ErrRange})
			}
		}
	}
	for _, c := range rows {
		if set, code := All(c.waits); set != 0 || code != c.want {
			t.Errorf("All, %s, %b: %b, %d", c.name, c.waits, set, code)
		}
		if set, code := Any(c.waits); set != 0 || code != c.want {
			t.Errorf("Any, %s, %b: %b, %d", c.name, c.waits, set, code)
		}
		for _, i := range []int{0, len(c.waits) - 1, len(c.waits), -1, 32, math.MinInt, math.MaxInt} {
			if back, sent, code := Probe(c.waits, i); back || sent != 0 || code != c.want {
				t.Errorf("Probe, %s, %b, %d: %t, %d, %d", c.name, c.waits, i, back, sent, code)
			}
		}
	}
}

// TestProbeErrors: i is not a process.
func TestProbeErrors(t *testing.T) {
	for n := 1; n <= api.MaxProc; n++ {
		for _, waits := range [][]uint32{same(n, 0), same(n, 1), same(n, 1<<n-1)} {
			for _, i := range []int{-1, -2, -n, n, n + 1, api.MaxProc, 31, 32, 64, -64, 1 << 32, math.MinInt, math.MaxInt} {
				if back, sent, code := Probe(waits, i); back || sent != 0 || code != api.ErrArg {
					t.Errorf("%b, %d: %t, %d, %d", waits, i, back, sent, code)
				}
			}
		}
	}
}

// TestLimits: the greatest number of processes, and the least one, are valid.
func TestLimits(t *testing.T) {
	for _, n := range []int{1, api.MaxProc} {
		for set := range uint32(1 << n) {
			waits := same(n, set)
			if _, code := All(waits); code != api.OK {
				t.Errorf("All, %b: %d", waits, code)
			}
			if _, code := Any(waits); code != api.OK {
				t.Errorf("Any, %b: %d", waits, code)
			}
			for i := range n {
				if _, _, code := Probe(waits, i); code != api.OK {
					t.Errorf("Probe, %b, %d: %d", waits, i, code)
				}
			}
		}
	}
}

// TestNever: ordinary lists and edge cases of All and Any.
func TestNever(t *testing.T) {
	for _, c := range []struct {
		name      string
		waits     []uint32
		all, some uint32
	}{
		{"the example: two wait for each other", sets(2, 1), 3, 3},
		{"one that waits for nobody", sets(0), 0, 0},
		{"one that waits for itself", sets(1), 1, 1},
		{"nobody waits", sets(0, 0, 0), 0, 0},
		{"one waits for one that proceeds", sets(2, 0), 0, 0},
		{"the same, turned", sets(0, 1), 0, 0},
		{"a chain", sets(2, 4, 8, 16, 32, 0), 0, 0},
		{"a chain, turned", sets(0, 1, 2, 4, 8, 16), 0, 0},
		{"a cycle of all", sets(2, 4, 8, 16, 32, 1), 63, 63},
		{"a chain to a cycle", sets(2, 4, 8, 4, 0), 15, 15},
		{"a third one waits for two that are deadlocked", sets(2, 1, 1), 7, 7},
		{"one of a cycle also waits for one that proceeds", sets(2, 5, 0), 3, 0},
		{"one waits for one that is deadlocked and one that proceeds", sets(6, 2, 0), 3, 2},
		{"one waits for itself and one that proceeds", sets(3, 0), 1, 0},
		{"one waits for itself and one that does not", sets(3, 2), 3, 3},
		{"two cycles", sets(2, 1, 8, 4), 15, 15},
		{"two cycles, one with a way out", sets(2, 1, 8, 20, 0), 15, 3},
		{"a diamond", sets(6, 8, 8, 0), 0, 0},
		{"everybody for everybody", same(6, 63), 63, 63},
		{"everybody for everybody else", sets(62, 61, 59, 55, 47, 31), 63, 63},
		{"everybody for everybody, but for one", sets(63, 63, 63, 0, 63, 63), 55, 0},
		{"the ways out come one by one", sets(34, 4, 8, 16, 32, 0), 0, 0},
		{"the ways out come one by one, turned", sets(0, 33, 34, 36, 40, 48), 62, 0},
	} {
		if set, code := All(c.waits); set != c.all || code != api.OK {
			t.Errorf("All, %s: %b, %d, want %b", c.name, set, code, c.all)
		}
		if set, code := Any(c.waits); set != c.some || code != api.OK {
			t.Errorf("Any, %s: %b, %d, want %b", c.name, set, code, c.some)
		}
	}
}

// TestProbe: ordinary lists and edge cases.
func TestProbe(t *testing.T) {
	for _, c := range []struct {
		name  string
		waits []uint32
		i     int
		back  bool
		sent  int
	}{
		{"the example: two wait for each other", sets(2, 1), 0, true, 2},
		{"the example, from the other one", sets(2, 1), 1, true, 2},
		{"one that waits for nobody", sets(0), 0, false, 0},
		{"one that waits for itself", sets(1), 0, true, 1},
		{"it sends once, even to itself", sets(3, 1), 0, true, 3},
		{"one waits for itself, and another one asks", sets(2, 2), 0, false, 2},
		{"waits for nobody, but others wait for it", sets(0, 1, 1), 0, false, 0},
		{"a chain", sets(2, 4, 8, 0), 0, false, 3},
		{"a chain, from its middle", sets(2, 4, 8, 0), 2, false, 1},
		{"a chain, from its end", sets(2, 4, 8, 0), 3, false, 0},
		{"a cycle of all", sets(2, 4, 8, 16, 32, 1), 3, true, 6},
		{"ahead of a cycle", sets(2, 4, 2), 0, false, 3},
		{"in the cycle", sets(2, 4, 2), 1, true, 2},
		{"a cycle elsewhere", sets(0, 4, 2), 0, false, 0},
		{"one receives two, and sends once", sets(6, 8, 8, 16, 0), 0, false, 5},
		{"a probe returns twice", sets(6, 1, 1), 0, true, 4},
		{"it returns though there is a way out", sets(2, 5, 0), 0, true, 3},
		{"everybody for everybody", same(6, 63), 5, true, 36},
		{"everybody for everybody else", sets(62, 61, 59, 55, 47, 31), 0, true, 30},
		{"everybody for one", same(6, 8), 0, false, 2},
		{"everybody for one, from that one", same(6, 8), 3, true, 1},
	} {
		if back, sent, code := Probe(c.waits, c.i); back != c.back || sent != c.sent || code != api.OK {
			t.Errorf("%s: %t, %d, %d, want %t, %d", c.name, back, sent, code, c.back, c.sent)
		}
	}
}

// stuck returns the union of all sets of processes that hold each other: of
// which each one stays if the others do. It looks at all sets, and lets nobody
// proceed.
func stuck(waits []uint32, stays func(set, held uint32) bool) uint32 {
	var union uint32
	for held := range uint32(1 << len(waits)) {
		all := true
		for proc, set := range waits {
			all = all && (held>>proc&1 == 0 || stays(set, held))
		}
		if all {
			union |= held
		}
	}
	return union
}

// TestNeverByHolding: the processes that never proceed are those that hold
// each other. With All each of them waits for one of them, and with Any for
// nobody else.
func TestNeverByHolding(t *testing.T) {
	differ := 0
	many(func(waits []uint32) {
		all := stuck(waits, func(set, held uint32) bool { return set&held != 0 })
		some := stuck(waits, func(set, held uint32) bool { return set != 0 && set|held == held })
		if set, code := All(waits); set != all || code != api.OK {
			t.Fatalf("All, %b: %b, %d, want %b", waits, set, code, all)
		}
		if set, code := Any(waits); set != some || code != api.OK {
			t.Fatalf("Any, %b: %b, %d, want %b", waits, set, code, some)
		}
		if some != 0 && all != some && all != 1<<len(waits)-1 {
			differ++
		}
	})
	if differ < 5000 {
		t.Errorf("only %d lists in which some never proceed, others only with All, and others always do", differ)
	}
}

// reach returns for each process the processes to which a way of one or more
// steps of waiting leads.
func reach(waits []uint32) []uint32 {
	far := slices.Clone(waits)
	for through := range far {
		for from := range far {
			if far[from]>>through&1 == 1 {
				far[from] |= far[through]
			}
		}
	}
	return far
}

// TestNeverByWays: a process never proceeds if a way leads from it to a cycle,
// or if no way leads from it to a process that waits for nobody.
func TestNeverByWays(t *testing.T) {
	many(func(waits []uint32) {
		far := reach(waits)
		var cyclic, free, all, some uint32
		for proc := range waits {
			cyclic |= far[proc] & (1 << proc)
			if waits[proc] == 0 {
				free |= 1 << proc
			}
		}
		for proc := range waits {
			self := uint32(1 << proc)
			if (far[proc]|self)&cyclic != 0 {
				all |= self
			}
			if (far[proc]|self)&free == 0 {
				some |= self
			}
		}
		if set, code := All(waits); set != all || code != api.OK {
			t.Fatalf("All, %b: %b, %d, want %b", waits, set, code, all)
		}
		if set, code := Any(waits); set != some || code != api.OK {
			t.Fatalf("Any, %b: %b, %d, want %b", waits, set, code, some)
		}
	})
}

// TestProbeByWays: a probe returns if a way leads back to i, and i and all to
// whom a way leads from it send one to each process for which they wait.
func TestProbeByWays(t *testing.T) {
	returned := map[bool]int{}
	many(func(waits []uint32) {
		far := reach(waits)
		for i := range waits {
			back := far[i]>>i&1 == 1
			sent := 0
			for proc, set := range waits {
				if (far[i]|1<<i)>>proc&1 == 1 {
					sent += bits.OnesCount32(set)
				}
			}
			if got, n, code := Probe(waits, i); got != back || n != sent || code != api.OK {
				t.Fatalf("%b, %d: %t, %d, %d, want %t, %d", waits, i, got, n, code, back, sent)
			}
			returned[back]++
		}
	})
	if returned[false] < 50000 || returned[true] < 50000 {
		t.Error(returned)
	}
}

// TestProbeInOtherOrders: the result is that of probes that are received in
// any order, each one after it was sent.
func TestProbeInOtherOrders(t *testing.T) {
	r := rand.New(rand.NewSource(2))
	for range 30000 {
		waits := seeded(r, 1+r.Intn(api.MaxProc))
		i := r.Intn(len(waits))
		back, sent := false, 0
		had := make([]bool, len(waits))
		var transit []int
		send := func(from int) {
			for to := range waits {
				if waits[from]&(1<<to) != 0 {
					transit = append(transit, to)
					sent++
				}
			}
		}
		send(i)
		for len(transit) > 0 {
			at := r.Intn(len(transit))
			to := transit[at]
			transit = slices.Delete(transit, at, at+1)
			back = back || to == i
			if to != i && !had[to] {
				send(to)
			}
			had[to] = true
		}
		if got, n, code := Probe(waits, i); got != back || n != sent || code != api.OK {
			t.Fatalf("%b, %d: %t, %d, %d, want %t, %d", waits, i, got, n, code, back, sent)
		}
	}
}

// TestModels: what follows of All, Any and Probe for each other.
func TestModels(t *testing.T) {
	many(func(waits []uint32) {
		all, _ := All(waits)
		some, _ := Any(waits)
		if some&^all != 0 {
			t.Fatalf("%b: Any %b is not within All %b", waits, some, all)
		}
		single := !slices.ContainsFunc(waits, func(set uint32) bool { return bits.OnesCount32(set) > 1 })
		if single && all != some {
			t.Fatalf("%b: one each, and All %b, Any %b", waits, all, some)
		}
		var found uint32
		for i, set := range waits {
			if set == 0 && all>>i&1 == 1 {
				t.Fatalf("%b: %d waits for nobody", waits, i)
			}
			if back, _, _ := Probe(waits, i); back {
				found |= 1 << i
			}
		}
		if found&^all != 0 || (found == 0) != (all == 0) {
			t.Fatalf("%b: probes return to %b, All %b", waits, found, all)
		}
	})
}

// rename returns the lists of the processes that are called by other numbers.
func rename(waits []uint32, names []int) []uint32 {
	renamed := make([]uint32, len(waits))
	for proc, set := range waits {
		renamed[names[proc]] = renameSet(set, names)
	}
	return renamed
}

func renameSet(set uint32, names []int) uint32 {
	var renamed uint32
	for proc, name := range names {
		renamed |= set >> proc & 1 << name
	}
	return renamed
}

// TestNumbersDoNotMatter: processes that are called by other numbers do as
// they did.
func TestNumbersDoNotMatter(t *testing.T) {
	r := rand.New(rand.NewSource(3))
	for range 20000 {
		waits := seeded(r, 1+r.Intn(api.MaxProc))
		names := r.Perm(len(waits))
		other := rename(waits, names)
		all, _ := All(waits)
		some, _ := Any(waits)
		if set, _ := All(other); set != renameSet(all, names) {
			t.Fatalf("All, %b as %v: %b, %b", waits, names, all, set)
		}
		if set, _ := Any(other); set != renameSet(some, names) {
			t.Fatalf("Any, %b as %v: %b, %b", waits, names, some, set)
		}
		for i := range waits {
			back, sent, _ := Probe(waits, i)
			if b, n, _ := Probe(other, names[i]); b != back || n != sent {
				t.Fatalf("Probe, %b as %v, %d: %t, %d, %t, %d", waits, names, i, back, sent, b, n)
			}
		}
	}
}

// TestArgumentsStay: lists are not changed, nothing beyond their length
// matters, and calls do not depend on earlier ones.
func TestArgumentsStay(t *testing.T) {
	r := rand.New(rand.NewSource(4))
	for range 2000 {
		waits := seeded(r, 1+r.Intn(api.MaxProc))
		for _, bad := range []bool{false, true} {
			if bad {
				waits[r.Intn(len(waits))] |= 1 << (len(waits) + r.Intn(32-len(waits)))
			}
			room := append(slices.Clone(waits), math.MaxUint32, 1, 0)
			whole := slices.Clone(room)
			part := room[:len(waits)]
			i := r.Intn(len(waits))
			all, allCode := All(part)
			some, someCode := Any(part)
			back, sent, probeCode := Probe(part, i)
			if !slices.Equal(room, whole) {
				t.Fatalf("%b: now %b", whole, room)
			}
			part = slices.Clip(waits)
			if set, code := All(part); set != all || code != allCode {
				t.Fatalf("All, %b: %b, %d, then %b, %d", waits, all, allCode, set, code)
			}
			if set, code := Any(part); set != some || code != someCode {
				t.Fatalf("Any, %b: %b, %d, then %b, %d", waits, some, someCode, set, code)
			}
			if b, n, code := Probe(part, i); b != back || n != sent || code != probeCode {
				t.Fatalf("Probe, %b, %d: %t, %d, %d, then %t, %d, %d", waits, i, back, sent, probeCode, b, n, code)
			}
			if bad != (allCode == api.ErrRange) {
				t.Fatalf("%b: %d", waits, allCode)
			}
		}
	}
}
