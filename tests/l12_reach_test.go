package tests

import (
	"fmt"
	"math"
	"math/big"
	"math/rand"
	"reflect"
	"slices"
	"testing"

	"loop.example/g01412/impl"
)

var (
	_ func(impl.Heap) []int        = impl.Externals
	_ func(impl.Heap, []int) []int = impl.Reachable
	_ func(impl.Heap) []int        = impl.Leaked
	_ func(impl.Heap, int) []int   = impl.Why
	_ func(impl.Heap, int) []int   = impl.Retained
)

// What chapter 12 says, told once more: in rounds in which all that is in takes in what it leads to, and by taking an object out.

// aboveZero adds without an end, so that no sum wraps round.
func aboveZero(a int, b int) bool {
	return new(big.Int).Add(big.NewInt(int64(a)), big.NewInt(int64(b))).Sign() > 0
}

func externalsTold(h impl.Heap) []int {
	var slots []int
	for slot, o := range h.Objs {
		if o.Live && aboveZero(o.Holds, o.Roots) {
			slots = append(slots, slot)
		}
	}
	return idsIn(h, slots)
}

// slotsReached: of what is reached from these ids.
func slotsReached(h impl.Heap, from []int) []int {
	var slots []int
	for _, id := range from {
		if slot := placeOf(h, id); slot >= 0 {
			slots = append(slots, slot)
		}
	}
	if len(slots) == 0 {
		return nil
	}
	return reachTold(h, slots, never)
}

func leakedTold(h impl.Heap) []int {
	if len(h.Objs) != 8 {
		return nil
	}
	kept := slotsReached(h, externalsTold(h))
	return idsIn(h, slices.DeleteFunc(liveSlots(h), func(slot int) bool { return slices.Contains(kept, slot) }))
}

// stepsTold: how many ids the shortest way to each slot has, worked out in rounds; 0 where there is none.
func stepsTold(h impl.Heap) [8]int {
	var steps [8]int
	for _, id := range externalsTold(h) {
		if slot := placeOf(h, id); slot >= 0 {
			steps[slot] = 1
		}
	}
	for round := 1; round < 8; round++ {
		for slot, n := range steps {
			if n != round {
				continue
			}
			for _, to := range ledFrom(h, slot) {
				if steps[to] == 0 {
					steps[to] = round + 1
				}
			}
		}
	}
	return steps
}

// whyTold is the first of all shortest ways, ordered by where they begin, and then by the fields they go over.
func whyTold(h impl.Heap, id int) []int {
	slot := placeOf(h, id)
	if slot < 0 {
		return nil
	}
	steps := stepsTold(h)
	for _, from := range externalsTold(h) {
		if way := wayTold(h, []int{from}, id, steps); way != nil {
			return way
		}
	}
	return nil
}

// wayTold goes on with a way that is the shortest to where it ends.
func wayTold(h impl.Heap, way []int, id int, steps [8]int) []int {
	last := way[len(way)-1]
	slot := placeOf(h, last)
	if last == id {
		return way
	}
	if slot < 0 {
		return nil
	}
	for _, f := range h.Objs[slot].Field {
		if to := placeOf(h, f); to >= 0 && steps[to] == len(way)+1 {
			if whole := wayTold(h, append(slices.Clone(way), f), id, steps); whole != nil {
				return whole
			}
		}
	}
	return nil
}

// retainedTold takes the object out, and asks what is reached no more.
func retainedTold(h impl.Heap, id int) []int {
	slot := placeOf(h, id)
	if slot < 0 {
		return nil
	}
	rest := heapCopy(h)
	rest.Objs[slot].Live = false
	kept := slotsReached(rest, externalsTold(rest))
	all := slotsReached(h, externalsTold(h))
	return idsIn(h, slices.DeleteFunc(slices.Clone(all), func(slot int) bool { return slices.Contains(kept, slot) }))
}

func holdIds(t *testing.T, what string, got []int, want ...int) {
	t.Helper()
	if !slices.Equal(got, want) {
		t.Errorf("%s: %v, want %v", what, got, want)
	}
}

// holdReachTold holds each function of the chapter against what is told, of any heap.
func holdReachTold(t *testing.T, what string, h impl.Heap, ids []int) {
	t.Helper()
	holdIds(t, what+": Externals", impl.Externals(h), externalsTold(h)...)
	holdIds(t, what+": Leaked", impl.Leaked(h), leakedTold(h)...)
	holdIds(t, what+": Reachable from all", impl.Reachable(h, ids), idsIn(h, slotsReached(h, ids))...)
	holdIds(t, what+": Reachable from none", impl.Reachable(h, nil))
	for _, id := range ids {
		holdIds(t, fmt.Sprint(what, ": Reachable from ", id), impl.Reachable(h, []int{id}), idsIn(h, slotsReached(h, []int{id}))...)
		holdIds(t, fmt.Sprint(what, ": Why ", id), impl.Why(h, id), whyTold(h, id)...)
		holdIds(t, fmt.Sprint(what, ": Retained of ", id), impl.Retained(h, id), retainedTold(h, id)...)
	}
	if t.Failed() {
		t.Logf("%s is %v", what, h)
	}
}

// holdPromise12 is the promise by its words, of a right heap; it heeds how far it went.
func holdPromise12(t *testing.T, what string, h impl.Heap, seen map[string]int) {
	t.Helper()
	from := impl.Externals(h)
	kept, leaked := impl.Reachable(h, from), impl.Leaked(h)
	live := idsIn(h, liveSlots(h))
	for _, id := range live {
		if slices.Contains(kept, id) == slices.Contains(leaked, id) {
			t.Errorf("%s: %d is among %v and %v, or in none of both", what, id, kept, leaked)
		}
	}
	if !rises(slotsOfIds(kept)) || !rises(slotsOfIds(leaked)) || len(kept)+len(leaked) != len(live) {
		t.Errorf("%s: %v are reached and %v leak, and %v are live", what, kept, leaked, live)
	}
	seen[fmt.Sprint("leaked ", len(leaked))]++
	steps := stepsTold(h)
	for _, id := range live {
		way := impl.Why(h, id)
		holdWay(t, fmt.Sprint(what, ": Why ", id), h, way, id, from)
		if len(way) != steps[id%8] || (len(way) > 0) != slices.Contains(kept, id) {
			t.Errorf("%s: Why %d is %v, and another search has %d steps", what, id, way, steps[id%8])
		}
		seen[fmt.Sprint("way ", len(way))]++
		retained := impl.Retained(h, id)
		past := idsIn(h, passing(h, id))
		for _, other := range live {
			if slices.Contains(retained, other) != (slices.Contains(kept, other) && !slices.Contains(past, other)) {
				t.Errorf("%s: Retained of %d is %v, and past it %v are reached", what, id, retained, past)
			}
		}
		seen[fmt.Sprint("retained ", len(retained))]++
	}
	if t.Failed() {
		t.Logf("%s is %v", what, h)
	}
}

// passing: the slots that are reached from what is held or rooted, where that id is not gone over.
func passing(h impl.Heap, id int) []int {
	var from []int
	for slot, o := range h.Objs {
		if o.Live && o.Holds+o.Roots > 0 && slot != id%8 {
			from = append(from, slot)
		}
	}
	return reachTold(h, from, func(slot int) bool { return slot == id%8 })
}

func slotsOfIds(ids []int) []int {
	var l []int
	for _, id := range ids {
		l = append(l, id%8)
	}
	return l
}

// holdWay: a way begins at one of these, goes field by field, and ends at the id.
func holdWay(t *testing.T, what string, h impl.Heap, way []int, id int, from []int) {
	t.Helper()
	if len(way) == 0 {
		return
	}
	ok := slices.Contains(from, way[0]) && way[len(way)-1] == id
	for i, at := range way {
		ok = ok && placeOf(h, at) >= 0 && (i == 0 || slices.Contains(h.Objs[placeOf(h, way[i-1])].Field, at))
	}
	if !ok {
		t.Errorf("%s: %v is no way from one of %v", what, way, from)
	}
}

// holdReached is all of both, of a right heap.
func holdReached(t *testing.T, what string, h impl.Heap, seen map[string]int) {
	t.Helper()
	holdPromise12(t, what, h, seen)
	holdReachTold(t, what, h, idsIn(h, liveSlots(h)))
}

func TestReachedInLongPlays(t *testing.T) {
	seen := map[string]int{}
	for seed := range 100 {
		r := rand.New(rand.NewSource(int64(seed)))
		h := impl.HeapNew()
		for step := range 120 {
			h, _ = impl.Apply(h, someOperation(r, h))
			holdReached(t, fmt.Sprintf("play %d, step %d", seed, step), h, seen)
			if t.Failed() {
				return
			}
		}
	}
	for _, what := range []string{"leaked 0", "leaked 1", "leaked 2", "leaked 3", "way 0", "way 1", "way 2", "way 3", "way 4", "retained 0", "retained 1", "retained 2", "retained 3"} {
		if seen[what] == 0 {
			t.Errorf("no play has %s", what)
		}
	}
}

func TestReachedInEachRightHeap(t *testing.T) {
	seen := map[string]int{}
	for name, h := range playedHeaps() {
		holdReached(t, name, h, seen)
		holdReachTold(t, name, h, idsAround(h))
	}
	for _, row := range ringRows() {
		h := heapWith([]string{"r"}, row.things...)
		holdReached(t, row.name, h, seen)
		holdIds(t, row.name+": Leaked", impl.Leaked(h), idsIn(h, row.gone)...)
	}
}

func TestReachedInAllThatThreeCanBe(t *testing.T) {
	seen := map[string]int{}
	eachThree(t, func(what string, h impl.Heap) { holdReached(t, what, h, seen) })
}

// A right heap with eight live ones, of any generation, that lead anywhere among themselves.
func TestReachedInFullHeaps(t *testing.T) {
	seen := map[string]int{}
	for seed := range 2000 {
		r := rand.New(rand.NewSource(int64(seed)))
		gens := [8]int{}
		for slot := range gens {
			gens[slot] = 1 + r.Intn(999)
		}
		var l []thing
		few := 2 + r.Intn(6)
		for slot := range 8 {
			x := thing{slot: slot, gen: gens[slot], holds: max(0, r.Intn(few)-few+2), roots: max(0, r.Intn(8)-6), field: [3]int{-1, -1, -1}}
			for i := range x.field {
				if to := r.Intn(8); r.Intn(3) > 0 {
					x.field[i] = to + 8*gens[to]
				}
			}
			l = append(l, x)
		}
		h := heapWith([]string{"f"}, l...)
		holdReached(t, fmt.Sprint("full ", seed), h, seen)
		if t.Failed() {
			return
		}
	}
	for n := range 7 {
		for _, what := range []string{"leaked", "way", "retained"} {
			if seen[fmt.Sprint(what, " ", n)] == 0 && (what != "way" || n < 5) {
				t.Errorf("no heap has %s %d", what, n)
			}
		}
	}
}

// Heaps of any kind, right or not, with any number of objects.
func TestReachedInAnyHeap(t *testing.T) {
	ids := []int{math.MinInt, -1, 0, 7, math.MaxInt}
	for id := 8; id < 40; id++ {
		ids = append(ids, id)
	}
	for seed := range 2000 {
		h := wornHeap(rand.New(rand.NewSource(int64(seed))))
		holdReachTold(t, fmt.Sprint("worn ", seed), h, ids)
		if t.Failed() {
			return
		}
	}
	for _, row := range wrongInOneThing() {
		h := baseHeap()
		row.change(&h)
		holdReachTold(t, row.name, h, idsAround(h))
	}
	for name, h := range wrongHeaps() {
		holdReachTold(t, name, h, ids)
	}
}

func TestExternals(t *testing.T) {
	h := heapWith([]string{"e"}, at(0, 1, 0, 2), at(1, 0, 1), at(2, 0, 0, 2), at(3, 2, 3), at(5, 0, 20), at(7, 20, 0))
	holdIds(t, "held, rooted, neither, both", impl.Externals(h), 8, 9, 11, 13, 15)
	h.Objs[3].Live = false
	holdIds(t, "what is not live", impl.Externals(h), 8, 9, 13, 15)
	holdIds(t, "new", impl.Externals(impl.HeapNew()))
	holdIds(t, "zero", impl.Externals(impl.Heap{}))
	holdIds(t, "leak", impl.Externals(leakHeap()))
	holdIds(t, "base", impl.Externals(baseHeap()), 8, 9, 27)
	holdIds(t, "edge, by slots and not by ids", impl.Externals(edgeHeap()), 7992, 14, 7999)
	holdIds(t, "full", impl.Externals(fullHeap()), 17, 35, 53, 71)
}

// No sum wraps round: what is above 0 together is, however great it is.
func TestExternalsOfAnyNumbers(t *testing.T) {
	for _, row := range []struct {
		holds, roots int
		kept         bool
	}{
		{0, 0, false}, {1, 0, true}, {0, 1, true}, {20, 20, true}, {-1, 1, false}, {1, -1, false}, {-1, 2, true}, {3, -2, true}, {-3, 2, false}, {-5, 0, false}, {0, -5, false},
		{math.MaxInt, 0, true}, {math.MaxInt, 1, true}, {1, math.MaxInt, true}, {math.MaxInt, math.MaxInt, true}, {1 << 62, 1 << 62, true},
		{math.MinInt, 0, false}, {math.MinInt, -1, false}, {-1, math.MinInt, false}, {math.MinInt, math.MinInt, false}, {math.MinInt, math.MaxInt, false}, {math.MaxInt, -math.MaxInt, false},
	} {
		h := heapWith([]string{"e"}, at(1, 0, 0, 2), at(2, 0, 0, 1), at(4, 1, 0))
		h.Objs[1].Holds, h.Objs[1].Roots = row.holds, row.roots
		what := fmt.Sprintf("holds %d, roots %d", row.holds, row.roots)
		holdReachTold(t, what, h, []int{8, 9, 10, 11, 12})
		if row.kept {
			holdIds(t, what, impl.Externals(h), 9, 12)
			holdIds(t, what+": Leaked", impl.Leaked(h))
			holdIds(t, what+": Why 10", impl.Why(h, 10), 9, 10)
			continue
		}
		holdIds(t, what, impl.Externals(h), 12)
		holdIds(t, what+": Leaked", impl.Leaked(h), 9, 10)
		holdIds(t, what+": Why 10", impl.Why(h, 10))
	}
}

// Externals alone are told of heaps that have not eight objects: of all that are live, and what is in no slot has the id -1.
func TestReachedInHeapsOfOtherSizes(t *testing.T) {
	full := heapWith([]string{"s"}, at(0, 1, 0, 1), at(1, 0, 0, 2), at(2, 0, 0), at(3, 0, 1, 3), at(4, 0, 0, 5), at(5, 0, 0, 4), at(7, 1, 1))
	want := [][]int{nil, {8}, {8}, {8}, {8, 11}, {8, 11}, {8, 11}, {8, 11}}
	ids := []int{8, 9, 10, 11, 12, 13, 15, 16, -1}
	for n := range 18 {
		h := heapCopy(full)
		h.Objs = append(h.Objs, h.Objs...)
		h.Objs = append(h.Objs, h.Objs...)[:n]
		what := fmt.Sprint(n, " objects")
		holdReachTold(t, what, h, ids)
		if n < 8 {
			holdIds(t, what, impl.Externals(h), want[n]...)
		}
		if n == 8 {
			holdIds(t, what+": Leaked", impl.Leaked(h), 12, 13)
			holdIds(t, what+": Reachable", impl.Reachable(h, ids), 8, 9, 10, 11, 12, 13, 15)
			continue
		}
		holdIds(t, what+": Leaked", impl.Leaked(h))
		holdIds(t, what+": Reachable", impl.Reachable(h, ids))
		for _, id := range ids {
			holdIds(t, what+": Why", impl.Why(h, id))
			holdIds(t, what+": Retained", impl.Retained(h, id))
		}
	}
	many := heapCopy(full)
	many.Objs = append(many.Objs, impl.Obj{Live: true, Gen: 1, Field: []int{8}}, impl.Obj{Live: true, Gen: 1, Holds: 1, Field: []int{8}}, impl.Obj{Gen: 1, Holds: 1})
	holdIds(t, "held behind the eighth", impl.Externals(many), 8, 11, 15, -1)
}

// What is live of a generation that no id has is told as -1, as LiveIds tells it; a field that has its number leads to it all the same, as SlotOf says.
func TestReachedOfWhatHasNoId(t *testing.T) {
	h := heapWith([]string{"n"}, at(0, 1, 0, 1), at(1, 0, 0), at(2, 0, 0))
	h.Objs[1].Field = []int{8 * 1000, 8 + 7, 2 - 8}
	h.Objs[2].Gen = 0
	h.Objs[3] = impl.Obj{Live: true, Gen: -1, Holds: 1, Field: []int{8, 9, -1}}
	holdIds(t, "Externals", impl.Externals(h), 8, -1)
	holdIds(t, "Leaked", impl.Leaked(h), -1, -1)
	holdIds(t, "Reachable from -1", impl.Reachable(h, []int{-1, -1, 2, 3, -5}))
	holdReachTold(t, "generations 0 and -1", h, []int{-5, -1, 0, 2, 3, 8, 9})
	h.Objs[3] = impl.Obj{Live: true, Gen: 1000, Field: []int{10}}
	h.Objs[1].Field = []int{3 + 8*1000}
	h.Objs[2].Gen = 1
	holdIds(t, "generation 1000: Reachable", impl.Reachable(h, []int{9}), 9, 10, -1)
	holdIds(t, "generation 1000: Why 10", impl.Why(h, 10), 8, 9, 8003, 10)
	holdIds(t, "generation 1000: Why 8003", impl.Why(h, 8003), 8, 9, 8003)
	holdIds(t, "generation 1000: Retained", impl.Retained(h, 8003), 10, -1)
	holdIds(t, "generation 1000: Leaked", impl.Leaked(h))
	holdReachTold(t, "generation 1000", h, []int{-1, 8, 9, 10, 8003})
	h.Objs[3].Holds = 1
	holdIds(t, "generation 1000, held: Why 8003", impl.Why(h, 8003), 8, 9, 8003)
	h.Objs[0].Holds = 0
	holdIds(t, "generation 1000, alone held: Leaked", impl.Leaked(h), 8, 9, 10, -1)
}

func TestReachable(t *testing.T) {
	h := heapWith([]string{"r"}, at(0, 1, 0, 1), at(1, 0, 0, 2, 3), at(2, 0, 0, 0), at(3, 0, 0), at(5, 1, 0, 5, 3), at(7, 0, 1, 6), at(6, 0, 0))
	for _, row := range []struct {
		from, want []int
	}{
		{nil, nil}, {[]int{}, nil},
		{[]int{8}, []int{8, 9, 10, 11}}, {[]int{9}, []int{8, 9, 10, 11}}, {[]int{10}, []int{8, 9, 10, 11}}, // from any of a ring
		{[]int{11}, []int{11}}, {[]int{13}, []int{11, 13}}, {[]int{14}, []int{14}}, {[]int{15}, []int{14, 15}},
		{[]int{15, 13}, []int{11, 13, 14, 15}}, {[]int{14, 15}, []int{14, 15}}, {[]int{11, 11, 11}, []int{11}}, {[]int{13, 15, 13, 15}, []int{11, 13, 14, 15}},
		{[]int{12}, nil}, {[]int{-1, 0, 4, 7, 16, 5000, 11 + 1<<32, math.MinInt, math.MaxInt}, nil}, {[]int{12, 14, -1}, []int{14}},
		{[]int{15, 14, 13, 12, 11, 10, 9, 8}, []int{8, 9, 10, 11, 13, 14, 15}},
	} {
		holdIds(t, fmt.Sprint("Reachable from ", row.from), impl.Reachable(h, row.from), row.want...)
	}
	holdIds(t, "from very many", impl.Reachable(h, append(slices.Repeat([]int{-1, 14, 12}, 5000), 11)), 11, 14)
}

// Ids of what was in a slot that is used again are of nothing that is live: neither to begin from nor to go on to.
func TestReachableOverWhatIsUsedNoMore(t *testing.T) {
	h, _ := impl.Play([]impl.Op{alloc("a"), release(8), alloc("a"), alloc("b"), store(16, 0, 9)})
	holdIds(t, "from an id that is used no more", impl.Reachable(h, []int{8}))
	holdIds(t, "from the one that is", impl.Reachable(h, []int{16}), 16, 9)
	holdIds(t, "Why", impl.Why(h, 8))
	holdIds(t, "Retained", impl.Retained(h, 8))
	ring := heapWith([]string{"r"}, at(0, 1, 0, 1), at(1, 0, 0, 2), at(2, 0, 0, 0, 3), at(3, 0, 0))
	for _, id := range []int{17, 25, 1, -2, -7, 0, 12, 9 + 1<<32, math.MinInt, math.MaxInt} {
		h := heapCopy(ring)
		h.Objs[0].Field = []int{id, id, id}
		what := fmt.Sprint("a field to ", id)
		holdIds(t, what, impl.Reachable(h, []int{8}), 8)
		holdIds(t, what+": Leaked", impl.Leaked(h), 9, 10, 11)
		holdIds(t, what+": Why", impl.Why(h, 11))
		h.Objs[0].Field = []int{id, id, 10}
		holdIds(t, what+" and one to 10", impl.Reachable(h, []int{8}), 8, 10, 11)
		holdReachTold(t, what, h, []int{8, 9, 10, 11, id})
	}
	dead := heapCopy(ring)
	dead.Objs[1].Live, dead.Objs[1].Holds = false, 1
	holdIds(t, "over what is dead", impl.Reachable(dead, []int{8, 9}), 8)
	holdIds(t, "over what is dead: Leaked", impl.Leaked(dead), 10, 11)
	holdIds(t, "over what is dead: Why", impl.Why(dead, 10))
	holdIds(t, "over what is dead: Retained", impl.Retained(dead, 8), 8)
	odd := heapCopy(ring)
	odd.Objs[0].Field, odd.Objs[2].Field = append(slices.Repeat([]int{-1, 8}, 40), 10), nil
	holdIds(t, "many fields and none", impl.Reachable(odd, []int{8}), 8, 10)
	holdIds(t, "many fields and none: Why", impl.Why(odd, 10), 8, 10)
}

func TestLeaked(t *testing.T) {
	// 8 and 9 are a ring, 10 hangs on it, and 11 is led to both by it and by 12, which is held.
	l := []impl.Op{alloc("a"), alloc("a"), alloc("a"), alloc("a"), alloc("a"), store(8, 0, 9), store(9, 1, 8), store(9, 2, 10), store(8, 2, 11), store(12, 0, 11), release(9), release(10), release(11)}
	h, _ := impl.Play(l)
	holdIds(t, "ahead of it", impl.Leaked(h))
	h, _ = impl.Apply(h, release(8))
	holdIds(t, "a ring that was let go", impl.Leaked(h), 8, 9, 10)
	holdIds(t, "what is held", impl.Reachable(h, impl.Externals(h)), 11, 12)
	holdIds(t, "Why of what a ring leads to", impl.Why(h, 11), 12, 11)
	holdIds(t, "Retained of what a ring leads to", impl.Retained(h, 12), 11, 12)
	for _, o := range []impl.Op{root(8), root(9), retain(9), store(12, 1, 8), store(11, 0, 9)} {
		kept, _ := impl.Apply(h, o)
		holdIds(t, fmt.Sprintf("%+v keeps it", o), impl.Leaked(kept))
	}
	kept, _ := impl.Apply(h, root(10))
	holdIds(t, "what hangs on it is rooted", impl.Leaked(kept), 8, 9)
	weakly, _ := impl.Apply(h, weak(8))
	holdIds(t, "a handle keeps nothing", impl.Leaked(weakly), 8, 9, 10)
	gone, a := impl.Apply(h, collect())
	holdIds(t, "collected", a.Freed, 8, 9, 10)
	holdIds(t, "behind it", impl.Leaked(gone))
	less, _ := impl.Apply(h, release(12))
	holdIds(t, "what both led to leaks now", impl.Leaked(less), 8, 9, 10, 11)
	holdIds(t, "leak", impl.Leaked(leakHeap()), 32, 33, 10, 35)
	holdIds(t, "new", impl.Leaked(impl.HeapNew()))
}

func TestWhy(t *testing.T) {
	// 8 and 15 are held; to 11 there are two ways of two steps, and a longer one.
	h := heapWith([]string{"w"}, at(0, 1, 0, -1, 2, 1), at(1, 0, 0, 3), at(2, 0, 0, 4, 3), at(3, 0, 0, 0, 5), at(4, 0, 0, 3), at(5, 0, 0, 5), at(6, 0, 0, 6, 5, 3), at(7, 0, 1, 5))
	for _, row := range []struct {
		id   int
		want []int
	}{
		{8, []int{8}}, {15, []int{15}}, {9, []int{8, 9}}, {10, []int{8, 10}},
		{11, []int{8, 10, 11}}, // 10 stands in an earlier field than 9
		{12, []int{8, 10, 12}}, {13, []int{15, 13}}, {14, nil},
		{16, nil}, {-1, nil}, {0, nil}, {7, nil}, {11 + 1<<32, nil}, {math.MinInt, nil}, {math.MaxInt, nil},
	} {
		holdIds(t, fmt.Sprint("Why ", row.id), impl.Why(h, row.id), row.want...)
	}
	h.Objs[0].Field = []int{9, 10, -1}
	holdIds(t, "the other field first", impl.Why(h, 11), 8, 9, 11)
	h.Objs[7].Field = []int{9, 10, -1}
	holdIds(t, "the first of those that are held", impl.Why(h, 11), 8, 9, 11)
	h.Objs[0].Holds = 0
	holdIds(t, "the last of them alone", impl.Why(h, 11), 15, 9, 11)
	h.Objs[3].Roots = 1
	holdIds(t, "rooted itself, and led to", impl.Why(h, 11), 11)
	holdIds(t, "all fields to one", impl.Why(starHeap(), 16), 16)
	row := heapWith([]string{"w"}, at(7, 1, 0, -1, -1, 0), at(0, 0, 0, 6), at(6, 0, 0, -1, 1), at(1, 0, 0, 5), at(5, 0, 0, 2), at(2, 0, 0, 4), at(4, 0, 0, 3), at(3, 0, 0, 7))
	holdIds(t, "a row of eight", impl.Why(row, 11), 15, 8, 14, 9, 13, 10, 12, 11)
	// Two levels on, the one that was found first goes on first, though its slot is the higher one.
	order := heapWith([]string{"w"}, at(0, 1, 0, 5, 2), at(5, 0, 0, -1, -1, 4), at(2, 0, 0, 3), at(4, 0, 0, 6), at(3, 0, 0, 6), at(6, 0, 0))
	holdIds(t, "in the order in which they were found", impl.Why(order, 14), 8, 13, 12, 14)
}

func TestRetained(t *testing.T) {
	// 8 and 12 are held; both lead to 11, 8 alone to 9, 9 to 10 and back; 13 and 14 leak, and lead to 10.
	h := heapWith([]string{"k"}, at(0, 1, 0, 1, 3), at(1, 0, 0, 2), at(2, 0, 0, 1), at(3, 0, 0, 7), at(4, 0, 1, 3), at(5, 0, 0, 6, 2), at(6, 0, 0, 5), at(7, 0, 0))
	for _, row := range []struct {
		id   int
		want []int
	}{
		{8, []int{8, 9, 10}}, {9, []int{9, 10}}, {10, []int{10}}, {11, []int{11, 15}}, {12, []int{12}}, {15, []int{15}},
		{13, nil}, {14, nil}, // what leaks keeps nothing
		{16, nil}, {17, nil}, {-1, nil}, {0, nil}, {7, nil}, {9 + 1<<32, nil}, {math.MinInt, nil}, {math.MaxInt, nil},
	} {
		holdIds(t, fmt.Sprint("Retained of ", row.id), impl.Retained(h, row.id), row.want...)
	}
	h.Objs[4].Roots = 0
	holdIds(t, "the other way is gone", impl.Retained(h, 8), 8, 9, 10, 11, 15)
	holdIds(t, "what is not held any more", impl.Retained(h, 12))
	h.Objs[2].Holds = 1
	holdIds(t, "10 is held too", impl.Retained(h, 8), 8, 11, 15)
	holdIds(t, "9 is led to by 10", impl.Retained(h, 9), 9)
	holdIds(t, "what is held keeps itself", impl.Retained(h, 10), 10)
	holdIds(t, "all lead to one", impl.Retained(starHeap(), 16), 16)
	holdIds(t, "what leads to it too", impl.Retained(starHeap(), 17), 17)
	holdIds(t, "leak", impl.Retained(leakHeap(), 32))
	holdIds(t, "chain, not held", impl.Retained(chainHeap(), 9), 9, 11, 12)
	holdIds(t, "chain, held", impl.Retained(chainHeap(), 8), 8, 9, 10, 11, 12, 13)
	loop := heapWith([]string{"k"}, at(3, 2, 0, 3, 3), at(2, 0, 0, 3))
	holdIds(t, "leads to itself, and is led to by what leaks", impl.Retained(loop, 11), 11)
}

// Nothing that is handed in is written into, and no answer shares memory with it or with another one.
func TestReachSharesNothing(t *testing.T) {
	all := allHeaps()
	all["one list"] = oneListHeap()
	for name, h := range all {
		from := roomy([]int{8, 9, 27, 16, 8, 32, -1, 33, 7992}, 77)
		before := whole(from)
		holdUnwritten(t, name, h, func(g impl.Heap) {
			spans := append(heapSpans(g), spanOf(from))
			keep := func(l []int) {
				spans = append(spans, spanOf(l))
				for i := range l[:cap(l)] {
					l[:cap(l)][i] = -77
				}
			}
			for range 2 {
				keep(impl.Externals(g))
				keep(impl.Leaked(g))
				keep(impl.Reachable(g, from))
				keep(impl.Reachable(g, g.Buffer))
				for _, id := range from {
					keep(impl.Why(g, id))
					keep(impl.Retained(g, id))
				}
			}
			if name != "one list" {
				holdApart(t, name, spans)
			}
			holdReachTold(t, name+", again", g, from)
		})
		if !reflect.DeepEqual(whole(from), before) {
			t.Errorf("%s: Reachable writes into its ids", name)
		}
	}
	// The ids to begin from may be a list of the heap itself.
	h := heapCopy(fullHeap())
	holdIds(t, "from its own field", impl.Reachable(h, h.Objs[3].Field), 8, 17, 26, 35, 44, 53, 62, 71)
}
