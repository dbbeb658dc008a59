package tests

import (
	"fmt"
	"math"
	"slices"
	"strings"
	"testing"

	"loop.example/g01412/impl"
)

var (
	_ func() impl.Heap                = impl.HeapNew
	_ func(int, int) int              = impl.IdOf
	_ func(impl.Heap, int) int        = impl.SlotOf
	_ func(impl.Heap, int) int        = impl.InEdges
	_ func(impl.Heap) bool            = impl.HeapOk
	_ func(impl.Heap) []int           = impl.LiveIds
	_ func(impl.Heap) int             = impl.FreeSlot
	_ func(impl.Heap, impl.Heap) bool = impl.SameHeap
	_                                 = impl.Obj{Live: true, Gen: 1, Site: 2, Holds: 3, Roots: 4, Count: 5, Field: []int{6}, Purple: true}
	_                                 = impl.Heap{Objs: []impl.Obj{}, Weaks: []impl.Weak{{Used: true, Target: 1}}, Buffer: []int{1}, Sites: []string{"a"}}
)

func TestHeapConstants(t *testing.T) {
	got := []int{impl.Slots, impl.Fields, impl.MaxGen, impl.MaxCount, impl.MaxWeaks, impl.MaxSites, impl.MaxSite}
	if !slices.Equal(got, []int{8, 3, 999, 20, 8, 6, 8}) {
		t.Error("constants", got)
	}
}

func TestHeapNewTwice(t *testing.T) {
	a, b := impl.HeapNew(), impl.HeapNew()
	if !alike(a, emptyHeap()) || !alike(b, emptyHeap()) || !impl.HeapOk(a) {
		t.Error("HeapNew", a)
	}
	holdApart(t, "HeapNew twice", append(heapSpans(a), heapSpans(b)...))
	for slot := range a.Objs {
		a.Objs[slot] = impl.Obj{Live: true, Gen: 5, Field: a.Objs[slot].Field}
		for i := range a.Objs[slot].Field {
			a.Objs[slot].Field[i] = 8*slot + i
		}
		a.Weaks[slot] = impl.Weak{Used: true, Target: slot}
	}
	a.Buffer = append(a.Buffer, 1)
	a.Sites = append(a.Sites, "x")
	if !alike(b, emptyHeap()) || !alike(impl.HeapNew(), emptyHeap()) {
		t.Error("what is changed in the one is changed in the other", b)
	}
}

func TestIdOfEdges(t *testing.T) {
	slots := append([]int{-9, -8, -2, -1, 0, 1, 2, 3, 4, 5, 6, 7, 8, 9, 15, 16}, edgeNumbers()...)
	gens := append([]int{-1, 0, 1, 2, 3, 500, 998, 999, 1000, 1001}, edgeNumbers()...)
	for _, slot := range slots {
		for _, gen := range gens {
			want := -1
			if 0 <= slot && slot <= 7 && 1 <= gen && gen <= 999 {
				want = slot + 8*gen
			}
			if got := impl.IdOf(slot, gen); got != want {
				t.Errorf("IdOf(%d, %d) = %d, want %d", slot, gen, got, want)
			}
		}
	}
	if impl.IdOf(0, 1) != 8 || impl.IdOf(7, 999) != 7999 {
		t.Error("the first id and the last one", impl.IdOf(0, 1), impl.IdOf(7, 999))
	}
}

func holdSlot(t *testing.T, what string, h impl.Heap, id int, want int) {
	t.Helper()
	if got := impl.SlotOf(h, id); got != want {
		t.Errorf("%s: SlotOf(%d) = %d, want %d", what, id, got, want)
	}
}

// Of all ids there are one alone is that of what is in a slot.
func TestSlotOfIsWhatIdOfMakes(t *testing.T) {
	for slot := range 8 {
		for _, gen := range []int{1, 2, 127, 998, 999} {
			h := heapWith([]string{"a"}, thing{slot: slot, gen: gen, holds: 1, field: [3]int{-1, -1, -1}})
			for id := -20; id <= 8100; id++ {
				want := -1
				if id == impl.IdOf(slot, gen) {
					want = slot
				}
				if got := impl.SlotOf(h, id); got != want {
					t.Fatalf("slot %d, generation %d: SlotOf(%d) = %d, want %d", slot, gen, id, got, want)
				}
			}
		}
	}
}

func TestSlotOfIdsThatNothingHas(t *testing.T) {
	for name, h := range rightHeaps() {
		live := map[int]int{}
		for slot, o := range h.Objs {
			if o.Live {
				live[slot+8*o.Gen] = slot + 1
			}
			if !o.Live && o.Gen > 0 {
				holdSlot(t, name+", a free slot", h, slot+8*o.Gen, -1)
			}
			holdSlot(t, name+", the next generation", h, slot+8*(o.Gen+1), -1)
		}
		for _, id := range append(edgeNumbers(), -9, -8, -1, 0, 1, 7) {
			holdSlot(t, name, h, id, live[id]-1)
		}
	}
	// What differs from an id only in high bits is another one.
	h := baseHeap()
	for _, high := range []int{1 << 13, 1 << 16, 1 << 31, 1 << 32, 1 << 33, 1 << 48, 1 << 62, math.MinInt} {
		holdSlot(t, "high bits", h, 9+high, -1)
		holdSlot(t, "high bits", h, 27+high, -1)
	}
}

func TestSlotOfASlotThatIsUsedAgain(t *testing.T) {
	h, id := impl.HeapNew(), 0
	for gen := 1; gen <= 5; gen++ {
		next, a := impl.Apply(h, impl.Op{Kind: impl.OpAlloc, Site: "a"})
		if a.Code != impl.ErOk || a.Val != 8*gen {
			t.Fatal("alloc", gen, a)
		}
		holdSlot(t, "live", next, a.Val, 0)
		for old := 8; old < a.Val; old += 8 {
			holdSlot(t, "used again", next, old, -1)
		}
		h, id = next, a.Val
		h, a = impl.Apply(h, impl.Op{Kind: impl.OpRelease, A: id})
		if a.Code != impl.ErOk || !slices.Equal(a.Freed, []int{id}) {
			t.Fatal("release", gen, a)
		}
		holdSlot(t, "free", h, id, -1)
		holdSlot(t, "free, the next one", h, id+8, -1)
	}
}

func TestSlotOfWrongHeaps(t *testing.T) {
	for _, n := range []int{0, 1, 2, 7, 9, 10, 16, 100} {
		h := starHeap()
		for len(h.Objs) < n {
			h.Objs = append(h.Objs, h.Objs[0])
		}
		h.Objs = h.Objs[:n]
		for _, id := range append([]int{8, 15, 16, 17, 23, 24, 25}, edgeNumbers()...) {
			holdSlot(t, fmt.Sprint(n, " objects"), h, id, -1)
		}
	}
	// Whether the rest of the heap is right is not asked.
	h := impl.Heap{Objs: make([]impl.Obj, 8)}
	h.Objs[2] = impl.Obj{Live: true, Gen: 1000}
	h.Objs[7] = impl.Obj{Live: true, Gen: math.MaxInt / 8}
	h.Objs[5] = impl.Obj{Live: true, Gen: 0}
	h.Objs[6] = impl.Obj{Live: true, Gen: -1}
	holdSlot(t, "generation 1000", h, 8002, 2)
	holdSlot(t, "the greatest id", h, math.MaxInt, 7)
	for _, id := range []int{5, -2, -3, 6, -1, 0} {
		holdSlot(t, "below Slots", h, id, -1)
	}
}

func holdEdges(t *testing.T, what string, h impl.Heap, slot int, want int) {
	t.Helper()
	if got := impl.InEdges(h, slot); got != want {
		t.Errorf("%s: InEdges(%d) = %d, want %d", what, slot, got, want)
	}
}

func TestInEdgesOfRightHeaps(t *testing.T) {
	for name, h := range rightHeaps() {
		for slot, o := range h.Objs {
			want := 0
			if o.Live {
				want = edgesTo(h, slot+8*o.Gen)
			}
			holdEdges(t, name, h, slot, want)
		}
		for _, slot := range append([]int{-9, -8, -1, 8, 9, 16}, math.MinInt, math.MaxInt, 1<<32, 1<<32+1, -1<<32) {
			holdEdges(t, name+", out of range", h, slot, 0)
		}
	}
	h := baseHeap()
	for slot, want := range []int{3, 1, 0, 1, 0, 0, 0, 0} {
		holdEdges(t, "base", h, slot, want)
	}
	holdEdges(t, "leads to itself alone", leakHeap(), 2, 3)
	holdEdges(t, "all that can lead to one", starHeap(), 0, 24)
}

func TestInEdgesOfWhatNothingLiveLeadsTo(t *testing.T) {
	h := baseHeap()
	h.Objs[2].Field = []int{27, 27, 27}
	h.Objs[4].Field = []int{8, 9, 27}
	for slot, want := range []int{3, 1, 0, 1} {
		holdEdges(t, "fields of what is not live", h, slot, want)
	}
	h.Objs[1].Field[2] = -1
	holdEdges(t, "fields of what is not live alone", h, 3, 0)
	// The id that a free slot had, and the one that it will have, are no ids of what is in it.
	h = baseHeap()
	h.Objs[0].Field = []int{42, 50, 42}
	h.Objs[1].Field = []int{4, 12, 2}
	for _, slot := range []int{2, 4} {
		holdEdges(t, "a free slot", h, slot, 0)
	}
	// An id of an earlier generation leads to nothing.
	h = heapWith([]string{"a"}, thing{slot: 0, gen: 2, holds: 1, field: [3]int{8, 0, 24}})
	holdEdges(t, "other generations", h, 0, 0)
}

func TestInEdgesOfWrongHeaps(t *testing.T) {
	h := baseHeap()
	h.Objs[0].Field = nil
	h.Objs[1].Field = []int{8}
	h.Objs[3].Field = []int{8, 9, 27, 8, 8, 9, -1}
	for slot, want := range []int{4, 2, 0, 1, 0} {
		holdEdges(t, "too few and too many fields", h, slot, want)
	}
	few := baseHeap()
	few.Objs = few.Objs[:2]
	for slot, want := range []int{3, 1, 0, 0, 0, 0, 0, 0, 0} {
		holdEdges(t, "two objects", few, slot, want)
	}
	many := baseHeap()
	many.Objs = append(many.Objs, impl.Obj{Live: true, Gen: 1, Field: []int{-1, 16, 27}}, impl.Obj{Field: []int{27}})
	for slot, want := range []int{3, 1, 0, 2, 0, 0, 0, 0, 0, 0, 0} {
		holdEdges(t, "ten objects", many, slot, want)
	}
	holdEdges(t, "no objects", impl.Heap{}, 0, 0)
}

type heapRow struct {
	name   string
	change func(h *impl.Heap)
}

// Each is wrong in that one thing alone: counts are made to fit what is changed.
func wrongInOneThing() []heapRow {
	return slices.Concat(wrongSizes(), wrongNames(), wrongFree(), wrongLive(), wrongFields(), wrongCounts(), wrongHandles(), wrongBuffers())
}

func wrongSizes() []heapRow {
	free := impl.Obj{Field: []int{-1, -1, -1}}
	return []heapRow{
		{"no objects", func(h *impl.Heap) { h.Objs, h.Buffer = nil, nil }},
		{"seven objects", func(h *impl.Heap) { h.Objs = h.Objs[:7] }},
		{"nine objects", func(h *impl.Heap) { h.Objs = append(h.Objs, free) }},
		{"sixteen objects", func(h *impl.Heap) { h.Objs = append(h.Objs, free, free, free, free, free, free, free, free) }},
		{"no handles", func(h *impl.Heap) { h.Weaks = nil }},
		{"seven handles", func(h *impl.Heap) { h.Weaks = h.Weaks[:7] }},
		{"nine handles", func(h *impl.Heap) { h.Weaks = append(h.Weaks, impl.Weak{}) }},
	}
}

func wrongNames() []heapRow {
	return []heapRow{
		{"seven names", func(h *impl.Heap) { h.Sites = []string{"a", "b", "c", "d", "e", "f", "g"} }},
		{"an empty name", func(h *impl.Heap) { h.Sites[1] = "" }},
		{"an empty name behind", func(h *impl.Heap) { h.Sites = append(h.Sites, "") }},
		{"nine bytes", func(h *impl.Heap) { h.Sites[0] = "123456789" }},
		{"nine bytes in three characters", func(h *impl.Heap) { h.Sites[1] = "\u20ac\u20ac\u20ac" }},
		{"a long name", func(h *impl.Heap) { h.Sites[1] = longText(300) }},
		{"two alike", func(h *impl.Heap) { h.Sites[1] = "a" }},
		{"the first and the last alike", func(h *impl.Heap) { h.Sites = []string{"a", "b", "c", "d", "e", "a"} }},
		{"the last two alike", func(h *impl.Heap) { h.Sites = []string{"a", "b", "c", "d", "e", "e"} }},
	}
}

func wrongFree() []heapRow {
	var l []heapRow
	for _, slot := range []int{2, 4, 7} {
		at := func(name string, change func(o *impl.Obj)) {
			l = append(l, heapRow{fmt.Sprintf("free slot %d: %s", slot, name), func(h *impl.Heap) { change(&h.Objs[slot]) }})
		}
		at("generation -1", func(o *impl.Obj) { o.Gen = -1 })
		at("generation 1000", func(o *impl.Obj) { o.Gen = 1000 })
		at("the greatest generation", func(o *impl.Obj) { o.Gen = math.MaxInt })
		for _, n := range []int{-1, 1} {
			at(fmt.Sprint("site ", n), func(o *impl.Obj) { o.Site = n })
			at(fmt.Sprint("holds ", n), func(o *impl.Obj) { o.Holds = n })
			at(fmt.Sprint("roots ", n), func(o *impl.Obj) { o.Roots = n })
			at(fmt.Sprint("count ", n), func(o *impl.Obj) { o.Count = n })
		}
		at("purple", func(o *impl.Obj) { o.Purple = true })
		at("no fields", func(o *impl.Obj) { o.Field = nil })
		at("two fields", func(o *impl.Obj) { o.Field = o.Field[:2] })
		at("four fields", func(o *impl.Obj) { o.Field = append(o.Field, -1) })
		for i := range 3 {
			for _, n := range []int{-2, 0, 8, 27} {
				at(fmt.Sprintf("field %d is %d", i, n), func(o *impl.Obj) { o.Field[i] = n })
			}
		}
	}
	return l
}

func wrongLive() []heapRow {
	l := []heapRow{
		{"live, generation 0", func(h *impl.Heap) {
			h.Objs[4] = impl.Obj{Live: true, Holds: 1, Count: 1, Field: []int{8, 8, 8}}
			recount(h, 0)
		}},
		{"live, generation 0, counted by what leads to nothing", func(h *impl.Heap) {
			h.Objs[4] = impl.Obj{Live: true, Holds: 1, Count: 1 + edgesTo(*h, -1), Field: []int{8, 8, 8}}
			recount(h, 0)
		}},
		{"live, generation -1", func(h *impl.Heap) {
			h.Objs[4] = impl.Obj{Live: true, Gen: -1, Holds: 1, Count: 1, Field: []int{8, 8, 8}}
			recount(h, 0)
		}},
		{"live, generation 1000", func(h *impl.Heap) {
			h.Objs[4] = impl.Obj{Live: true, Gen: 1000, Holds: 1, Count: 1, Field: []int{8, 8, 8}}
			recount(h, 0)
		}},
		{"live, generation 1000, led to by itself", func(h *impl.Heap) {
			h.Objs[4] = impl.Obj{Live: true, Gen: 1000, Holds: 1, Count: 1, Field: []int{8004, 8, 8}}
			recount(h, 0)
			recount(h, 4)
		}},
		{"live, no fields", func(h *impl.Heap) { h.Objs[3].Field = nil }},
		{"live, two fields", func(h *impl.Heap) { h.Objs[3].Field = []int{-1, -1} }},
		{"live, four fields", func(h *impl.Heap) { h.Objs[3].Field = []int{-1, -1, -1, -1} }},
		{"live, a fourth field that leads", func(h *impl.Heap) { h.Objs[3].Field = []int{-1, -1, -1, 8}; recount(h, 0) }},
	}
	for _, n := range []int{-1, 2, 3, math.MaxInt, math.MinInt} {
		l = append(l, heapRow{fmt.Sprint("site ", n), func(h *impl.Heap) { h.Objs[1].Site = n }})
	}
	l = append(l, heapRow{"a site without names", func(h *impl.Heap) {
		*h = heapWith(nil, thing{slot: 0, gen: 1, holds: 1, field: [3]int{-1, -1, -1}})
	}})
	for _, n := range []int{-1, -2, 21, 22, math.MaxInt, math.MinInt} {
		l = append(l, heapRow{fmt.Sprint("holds ", n), func(h *impl.Heap) { h.Objs[0].Holds = n; recount(h, 0) }},
			heapRow{fmt.Sprint("roots ", n), func(h *impl.Heap) { h.Objs[0].Roots = n; recount(h, 0) }})
	}
	return l
}

func wrongFields() []heapRow {
	var l []heapRow
	for i := range 3 {
		for _, n := range []int{-2, -8, math.MinInt, 0, 1, 3, 7, 10, 11, 16, 17, 19, 34, 35, 42, 50, 7999, 8000, 8 + 1<<32, math.MaxInt} {
			l = append(l, heapRow{fmt.Sprintf("field %d leads to %d", i, n), func(h *impl.Heap) { h.Objs[3].Field[i] = n }})
		}
	}
	return l
}

func wrongCounts() []heapRow {
	var l []heapRow
	for _, slot := range []int{0, 1, 3} {
		for _, n := range []int{-1, 1, 2, 1 << 32, math.MinInt} {
			l = append(l, heapRow{fmt.Sprintf("count of slot %d is off by %d", slot, n), func(h *impl.Heap) { h.Objs[slot].Count += n }})
		}
	}
	return append(l,
		heapRow{"live, and nothing counts it", func(h *impl.Heap) { h.Objs[5] = impl.Obj{Live: true, Gen: 1, Field: []int{-1, -1, -1}} }},
		heapRow{"live, and only what is not live leads to it", func(h *impl.Heap) {
			h.Objs[2].Field[0] = 13
			h.Objs[5] = impl.Obj{Live: true, Gen: 1, Count: 1, Field: []int{-1, -1, -1}}
		}},
		heapRow{"one field more than is counted", func(h *impl.Heap) { h.Objs[3].Field[1] = 9 }},
		heapRow{"one field less than is counted", func(h *impl.Heap) { h.Objs[1].Field[1] = -1 }},
		heapRow{"one hold more than is counted", func(h *impl.Heap) { h.Objs[3].Holds++ }},
		heapRow{"one root less than is counted", func(h *impl.Heap) { h.Objs[1].Roots-- }})
}

func wrongHandles() []heapRow {
	var l []heapRow
	for _, i := range []int{0, 1, 7} {
		for _, n := range []int{-1, 1, 7, 8, 9, 7999, 8000} {
			l = append(l, heapRow{fmt.Sprintf("handle %d is not used and leads to %d", i, n), func(h *impl.Heap) { h.Weaks[i] = impl.Weak{Target: n} }})
		}
		for _, n := range []int{math.MinInt, -1, 0, 1, 7, 8000, 8001, 8 + 1<<32, math.MaxInt} {
			l = append(l, heapRow{fmt.Sprintf("handle %d leads to %d", i, n), func(h *impl.Heap) { h.Weaks[i] = impl.Weak{Used: true, Target: n} }})
		}
	}
	return l
}

func wrongBuffers() []heapRow {
	l := []heapRow{
		{"purple, and not in the buffer", func(h *impl.Heap) { h.Buffer = nil }},
		{"another purple one, and not in the buffer", func(h *impl.Heap) { h.Objs[0].Purple = true }},
		{"in the buffer, and not purple", func(h *impl.Heap) { h.Objs[3].Purple = false }},
		{"another one in the buffer, and not purple", func(h *impl.Heap) { h.Buffer = []int{27, 8} }},
		{"two alike in the buffer", func(h *impl.Heap) { h.Buffer = []int{27, 27} }},
		{"two alike in the buffer, one between", func(h *impl.Heap) { *h = purple(*h, 0); h.Buffer = []int{27, 8, 27} }},
		{"all in the buffer, and the last one once more", func(h *impl.Heap) {
			*h = purple(fullHeap(), 0, 1, 2, 3, 4, 5, 6, 7)
			h.Buffer = append(h.Buffer, h.Buffer[7])
		}},
	}
	for _, n := range []int{math.MinInt, -1, 0, 3, 7, 10, 19, 35, 42, 50, 7999, 27 + 1<<32, math.MaxInt} {
		l = append(l, heapRow{fmt.Sprintf("%d in the buffer", n), func(h *impl.Heap) { h.Buffer = append(h.Buffer, n) }},
			heapRow{fmt.Sprintf("%d ahead in the buffer", n), func(h *impl.Heap) { h.Buffer = []int{n, 27} }})
	}
	return l
}

func TestHeapOkOfWhatIsWrongInOneThing(t *testing.T) {
	for _, row := range wrongInOneThing() {
		h := baseHeap()
		row.change(&h)
		if rightFault(h) == "" {
			t.Errorf("%s: the test's own heap is right", row.name)
		}
		if impl.HeapOk(h) {
			t.Errorf("%s: HeapOk says true", row.name)
		}
	}
	for name, h := range wrongHeaps() {
		if impl.HeapOk(h) {
			t.Errorf("%s: HeapOk says true", name)
		}
	}
}

// A limit that is met exactly is accepted.
func rightAtTheLimits() []heapRow {
	l := []heapRow{
		{"as it is", func(h *impl.Heap) {}},
		{"empty lists that are not nil", func(h *impl.Heap) { *h = emptyHeap(); h.Buffer, h.Sites = []int{}, []string{} }},
		{"six names", func(h *impl.Heap) { h.Sites = append(h.Sites, "c", "d", "e", "f") }},
		{"names of eight bytes", func(h *impl.Heap) { h.Sites = []string{"12345678", "12345679", "\u20ac\u20acxy"} }},
		{"names of one byte", func(h *impl.Heap) { h.Sites = []string{"\x00", "\xff", " ", "A", "a"} }},
		{"names that begin alike", func(h *impl.Heap) { h.Sites = []string{"a", "aa", "aaa", "aaaaaaaa"} }},
		{"the last name", func(h *impl.Heap) { h.Objs[0].Site = 1 }},
		{"held by a field alone", func(h *impl.Heap) { h.Objs[3].Holds, h.Objs[3].Count = 0, 1 }},
		{"led to by itself alone", func(h *impl.Heap) { h.Objs[5] = impl.Obj{Live: true, Gen: 7, Count: 1, Field: []int{-1, 61, -1}} }},
		{"a handle to what is live", func(h *impl.Heap) { h.Weaks[1] = impl.Weak{Used: true, Target: 27} }},
		{"a handle to what there never was", func(h *impl.Heap) { h.Weaks[1] = impl.Weak{Used: true, Target: 5000} }},
		{"the buffer in another order", func(h *impl.Heap) { *h = purple(*h, 1, 0); h.Buffer = []int{8, 27, 9} }},
	}
	for _, n := range []int{0, 1, 500, 998, 999} {
		l = append(l, heapRow{fmt.Sprint("a free slot of generation ", n), func(h *impl.Heap) { h.Objs[4].Gen = n }})
	}
	for _, n := range []int{1, 2, 998, 999} {
		l = append(l, heapRow{fmt.Sprint("live, generation ", n), func(h *impl.Heap) {
			h.Objs[6] = impl.Obj{Live: true, Gen: n, Holds: 1, Count: 2, Field: []int{6 + 8*n, -1, -1}}
		}})
	}
	for _, n := range []int{0, 1, 19, 20} {
		l = append(l, heapRow{fmt.Sprint("holds ", n), func(h *impl.Heap) { h.Objs[0].Holds = n; recount(h, 0) }},
			heapRow{fmt.Sprint("roots ", n), func(h *impl.Heap) { h.Objs[0].Roots = n; recount(h, 0) }})
	}
	for _, n := range []int{8, 9, 42, 7998, 7999} {
		l = append(l, heapRow{fmt.Sprint("a handle to ", n), func(h *impl.Heap) { h.Weaks[7] = impl.Weak{Used: true, Target: n} }})
	}
	return l
}

func TestHeapOkOfRightHeaps(t *testing.T) {
	for name, h := range rightHeaps() {
		if fault := rightFault(h); fault != "" || !impl.HeapOk(h) {
			t.Errorf("%s: HeapOk says false (%s)", name, fault)
		}
	}
	for _, row := range rightAtTheLimits() {
		h := baseHeap()
		row.change(&h)
		if fault := rightFault(h); fault != "" || !impl.HeapOk(h) {
			t.Errorf("%s: HeapOk says false (%s)", row.name, fault)
		}
	}
}

// Each number of a right heap changed, one at a time: HeapOk says what the chapter says.
func TestHeapOkOfEachNumberChanged(t *testing.T) {
	numbers := []int{-2, -1, 0, 1, 2, 7, 8, 9, 16, 20, 21, 27, 998, 999, 1000, 7999, 8000}
	for name := range rightHeaps() {
		for slot := range 8 {
			for which := range 8 {
				for _, n := range numbers {
					h := rightHeaps()[name]
					o := &h.Objs[slot]
					numbersOf := []*int{&o.Gen, &o.Site, &o.Holds, &o.Roots, &o.Count, &o.Field[0], &o.Field[1], &o.Field[2]}
					*numbersOf[which] = n
					if got, want := impl.HeapOk(h), rightFault(h) == ""; got != want {
						t.Errorf("%s, slot %d, number %d is %d: HeapOk says %v", name, slot, which, n, got)
					}
				}
			}
			h := rightHeaps()[name]
			h.Objs[slot].Live = !h.Objs[slot].Live
			if got, want := impl.HeapOk(h), rightFault(h) == ""; got != want {
				t.Errorf("%s, slot %d, Live turned: HeapOk says %v", name, slot, got)
			}
		}
	}
}

func holdLive(t *testing.T, what string, h impl.Heap, ids []int, free int) {
	t.Helper()
	if got := impl.LiveIds(h); !slices.Equal(got, ids) {
		t.Errorf("%s: LiveIds = %v, want %v", what, got, ids)
	}
	if got := impl.FreeSlot(h); got != free {
		t.Errorf("%s: FreeSlot = %d, want %d", what, got, free)
	}
}

func TestLiveIdsAndFreeSlot(t *testing.T) {
	holdLive(t, "nothing live", impl.HeapNew(), nil, 0)
	holdLive(t, "spent", spentHeap(), nil, -1)
	holdLive(t, "all live", fullHeap(), []int{8, 17, 26, 35, 44, 53, 62, 71}, -1)
	holdLive(t, "base", baseHeap(), []int{8, 9, 27}, 2)
	holdLive(t, "edge", edgeHeap(), []int{7992, 14, 7999}, 1)
	for free := range 8 {
		for _, gen := range []int{0, 1, 998, 999} {
			h := fullHeap()
			ids := impl.LiveIds(h)
			h.Objs[free] = impl.Obj{Gen: gen, Field: []int{-1, -1, -1}}
			want := free
			if gen == 999 {
				want = -1
			}
			holdLive(t, fmt.Sprintf("slot %d free, of generation %d", free, gen), h, slices.Delete(ids, free, free+1), want)
		}
		h := spentHeap()
		h.Objs[free].Gen = 998
		holdLive(t, fmt.Sprintf("slot %d alone not spent", free), h, nil, free)
		h.Objs[7].Gen = 0
		holdLive(t, fmt.Sprintf("slot %d and the last one not spent", free), h, nil, free)
	}
}

func TestLiveIdsAndFreeSlotOfWrongHeaps(t *testing.T) {
	holdLive(t, "no objects", impl.Heap{}, nil, -1)
	full, empty := fullHeap(), emptyHeap()
	for n := range 9 {
		few := impl.Heap{Objs: full.Objs[:n]}
		holdLive(t, fmt.Sprint(n, " live objects"), few, []int{8, 17, 26, 35, 44, 53, 62, 71}[:n], -1)
		few.Objs = append(slices.Clone(few.Objs), empty.Objs[n:]...)
		free := n
		if n == 8 {
			free = -1
		}
		holdLive(t, fmt.Sprint(n, " live objects, the others free"), few, []int{8, 17, 26, 35, 44, 53, 62, 71}[:n], free)
		few.Objs = empty.Objs[:n]
		if n > 0 {
			holdLive(t, fmt.Sprint(n, " free objects"), few, nil, 0)
		}
	}
	for _, more := range [][]impl.Obj{full.Objs, empty.Objs, full.Objs[:1], empty.Objs[:1]} {
		many := impl.Heap{Objs: append(slices.Clone(full.Objs), more...)}
		holdLive(t, "more than eight, the eight live", many, []int{8, 17, 26, 35, 44, 53, 62, 71}, -1)
		many.Objs = append(spentHeap().Objs, more...)
		holdLive(t, "more than eight, the eight spent", many, nil, -1)
	}
}

// differences: each changes one thing of the base heap that SameHeap must see.
func differences() []heapRow {
	var l []heapRow
	for _, slot := range []int{0, 3, 4, 7} {
		at := func(name string, change func(o *impl.Obj)) {
			l = append(l, heapRow{fmt.Sprintf("slot %d: %s", slot, name), func(h *impl.Heap) { change(&h.Objs[slot]) }})
		}
		at("Live", func(o *impl.Obj) { o.Live = !o.Live })
		at("Purple", func(o *impl.Obj) { o.Purple = !o.Purple })
		for _, n := range []int{-1, 1, 1 << 32, math.MinInt} {
			at("Gen", func(o *impl.Obj) { o.Gen += n })
			at("Site", func(o *impl.Obj) { o.Site += n })
			at("Holds", func(o *impl.Obj) { o.Holds += n })
			at("Roots", func(o *impl.Obj) { o.Roots += n })
			at("Count", func(o *impl.Obj) { o.Count += n })
			for i := range 3 {
				at(fmt.Sprint("field ", i), func(o *impl.Obj) { o.Field[i] += n })
			}
		}
		at("no fields", func(o *impl.Obj) { o.Field = nil })
		at("a field less", func(o *impl.Obj) { o.Field = o.Field[:2] })
		at("a field more", func(o *impl.Obj) { o.Field = append(o.Field, -1) })
	}
	return append(l, listDifferences()...)
}

func listDifferences() []heapRow {
	return []heapRow{
		{"no objects", func(h *impl.Heap) { h.Objs = nil }},
		{"an object less", func(h *impl.Heap) { h.Objs = h.Objs[:7] }},
		{"an object more", func(h *impl.Heap) { h.Objs = append(h.Objs, impl.Obj{}) }},
		{"two objects exchanged", func(h *impl.Heap) { h.Objs[0], h.Objs[1] = h.Objs[1], h.Objs[0] }},
		{"no handles", func(h *impl.Heap) { h.Weaks = nil }},
		{"a handle less", func(h *impl.Heap) { h.Weaks = h.Weaks[:7] }},
		{"a handle more", func(h *impl.Heap) { h.Weaks = append(h.Weaks, impl.Weak{}) }},
		{"a handle's Used", func(h *impl.Heap) { h.Weaks[7].Used = true }},
		{"a handle's Target", func(h *impl.Heap) { h.Weaks[2].Target++ }},
		{"a free handle's Target", func(h *impl.Heap) { h.Weaks[1].Target++ }},
		{"two handles exchanged", func(h *impl.Heap) { h.Weaks[0], h.Weaks[2] = h.Weaks[2], h.Weaks[0] }},
		{"no buffer", func(h *impl.Heap) { h.Buffer = nil }},
		{"another id in the buffer", func(h *impl.Heap) { h.Buffer[0]++ }},
		{"one more in the buffer", func(h *impl.Heap) { h.Buffer = append(h.Buffer, 27) }},
		{"no names", func(h *impl.Heap) { h.Sites = nil }},
		{"a name less", func(h *impl.Heap) { h.Sites = h.Sites[:1] }},
		{"a name more", func(h *impl.Heap) { h.Sites = append(h.Sites, "") }},
		{"another name", func(h *impl.Heap) { h.Sites[1] = "bB" }},
		{"two names exchanged", func(h *impl.Heap) { h.Sites[0], h.Sites[1] = h.Sites[1], h.Sites[0] }},
	}
}

func TestSameHeapOfOneDifference(t *testing.T) {
	for _, row := range differences() {
		a, b := baseHeap(), baseHeap()
		row.change(&b)
		if impl.SameHeap(a, b) || impl.SameHeap(b, a) {
			t.Errorf("%s: SameHeap says true", row.name)
		}
		row.change(&a)
		if !impl.SameHeap(a, b) {
			t.Errorf("%s in both: SameHeap says false", row.name)
		}
	}
}

func TestSameHeapOfAnyTwo(t *testing.T) {
	for first, a := range allHeaps() {
		for second, b := range allHeaps() {
			if got, want := impl.SameHeap(a, heapCopy(b)), first == second; got != want {
				t.Errorf("%s, %s: SameHeap says %v", first, second, got)
			}
		}
	}
	a := impl.Heap{Objs: make([]impl.Obj, 2)}
	b := impl.Heap{Objs: []impl.Obj{{Field: []int{}}, {}}, Weaks: []impl.Weak{}, Buffer: make([]int, 0, 9), Sites: []string{}}
	if !impl.SameHeap(a, b) || !impl.SameHeap(b, a) || !impl.SameHeap(impl.Heap{}, impl.Heap{Objs: []impl.Obj{}}) {
		t.Error("nil and empty lists: SameHeap says false")
	}
	// Names of the same bytes are the same, wherever they stand.
	a, b = baseHeap(), baseHeap()
	b.Sites[1] = strings.Repeat("b", 2)
	if !impl.SameHeap(a, b) {
		t.Error("names of the same bytes: SameHeap says false")
	}
}

func TestHeapsAreOnlyLookedAt(t *testing.T) {
	for name, h := range allHeaps() {
		holdUnwritten(t, name, h, func(g impl.Heap) {
			impl.HeapOk(g)
			impl.FreeSlot(g)
			impl.SameHeap(g, g)
			for n := -2; n < 40; n++ {
				impl.SlotOf(g, n)
				impl.InEdges(g, n)
			}
			ids := impl.LiveIds(g)
			holdApart(t, name, append(heapSpans(g), spanOf(ids), spanOf(impl.LiveIds(g))))
			for i := range ids {
				ids[i] = -7
			}
			_ = append(ids, -7, -7, -7)
			for _, id := range impl.LiveIds(g) {
				if id == -7 {
					t.Errorf("%s: LiveIds answers the same list twice", name)
				}
			}
		})
	}
}
