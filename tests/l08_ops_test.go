package tests

import (
	"fmt"
	"maps"
	"math"
	"math/rand"
	"slices"
	"strings"
	"testing"

	"loop.example/g01412/impl"
)

var (
	_ func(impl.Heap, impl.Op) (impl.Heap, impl.Answer) = impl.Apply
	_ func([]impl.Op) (impl.Heap, []impl.Answer)        = impl.Play
	_ func(int) string                                  = impl.CodeWord
	_ func(int) string                                  = impl.OpWord
	_ func(impl.Answer, impl.Answer) bool               = impl.SameAnswer
	_                                                   = impl.Op{Kind: 1, A: 2, B: 3, C: 4, Site: "s"}
	_                                                   = impl.Answer{Code: 1, Val: 2, Freed: []int{3}}
)

func alloc(site string) impl.Op { return impl.Op{Kind: impl.OpAlloc, Site: site} }
func retain(id int) impl.Op     { return impl.Op{Kind: impl.OpRetain, A: id} }
func release(id int) impl.Op    { return impl.Op{Kind: impl.OpRelease, A: id} }
func root(id int) impl.Op       { return impl.Op{Kind: impl.OpRoot, A: id} }
func unroot(id int) impl.Op     { return impl.Op{Kind: impl.OpUnroot, A: id} }
func weak(id int) impl.Op       { return impl.Op{Kind: impl.OpWeak, A: id} }
func load(handle int) impl.Op   { return impl.Op{Kind: impl.OpLoad, A: handle} }
func drop(handle int) impl.Op   { return impl.Op{Kind: impl.OpDrop, A: handle} }
func collect() impl.Op          { return impl.Op{Kind: impl.OpCollect} }
func store(id int, field int, to int) impl.Op {
	return impl.Op{Kind: impl.OpStore, A: id, B: field, C: to}
}

func TestOperationConstants(t *testing.T) {
	kinds := []int{impl.OpAlloc, impl.OpRetain, impl.OpRelease, impl.OpStore, impl.OpRoot, impl.OpUnroot, impl.OpWeak, impl.OpLoad, impl.OpDrop, impl.OpCollect}
	codes := []int{impl.ErOk, impl.ErDead, impl.ErRange, impl.ErFull, impl.ErCount, impl.ErNone, impl.ErSite}
	if !slices.Equal(kinds, []int{1, 2, 3, 4, 5, 6, 7, 8, 9, 10}) || !slices.Equal(codes, []int{0, 1, 2, 3, 4, 5, 6}) {
		t.Error("constants", kinds, codes)
	}
}

// liveSlot: where what has the id is live, by going through all of them; no id is below 8.
func liveSlot(h impl.Heap, id int) int {
	for slot, o := range h.Objs {
		if o.Live && o.Gen > 0 && id == slot+8*o.Gen {
			return slot
		}
	}
	return -1
}

// freeSlot is FreeSlot, told once more.
func freeSlot(h impl.Heap) int {
	return slices.IndexFunc(h.Objs, func(o impl.Obj) bool { return !o.Live && o.Gen < 999 })
}

func freeHandle(h impl.Heap) int {
	return slices.IndexFunc(h.Weaks, func(w impl.Weak) bool { return !w.Used })
}

// wantCode: what an operation on a right heap is answered, by chapter 8's words.
func wantCode(h impl.Heap, o impl.Op) int {
	at := liveSlot(h, o.A)
	switch o.Kind {
	case impl.OpAlloc:
		return wantAlloc(h, o)
	case impl.OpRetain, impl.OpRelease, impl.OpRoot, impl.OpUnroot:
		if at < 0 {
			return impl.ErDead
		}
		return wantKept(h.Objs[at], o.Kind)
	case impl.OpStore:
		if at < 0 || o.C != -1 && liveSlot(h, o.C) < 0 {
			return impl.ErDead
		}
		if o.B < 0 || o.B > 2 {
			return impl.ErRange
		}
		return impl.ErOk
	case impl.OpWeak:
		if at < 0 {
			return impl.ErDead
		}
		if freeHandle(h) < 0 {
			return impl.ErFull
		}
		return impl.ErOk
	case impl.OpLoad, impl.OpDrop:
		if o.A < 0 || o.A > 7 || !h.Weaks[o.A].Used {
			return impl.ErRange
		}
		return impl.ErOk
	case impl.OpCollect:
		return impl.ErOk
	}
	return impl.ErRange
}

func wantAlloc(h impl.Heap, o impl.Op) int {
	switch {
	case len(o.Site) < 1 || len(o.Site) > 8:
		return impl.ErRange
	case freeSlot(h) < 0:
		return impl.ErFull
	case len(h.Sites) == 6 && !slices.Contains(h.Sites, o.Site):
		return impl.ErSite
	}
	return impl.ErOk
}

func wantKept(o impl.Obj, kind int) int {
	switch {
	case kind == impl.OpRetain && o.Holds == 20, kind == impl.OpRoot && o.Roots == 20:
		return impl.ErCount
	case kind == impl.OpRelease && o.Holds == 0, kind == impl.OpUnroot && o.Roots == 0:
		return impl.ErNone
	}
	return impl.ErOk
}

// changed is what an accepted operation writes into a heap by itself, without what is counted and what then goes; and Val.
func changed(h impl.Heap, o impl.Op) (impl.Heap, int) {
	h = plain(h)
	at := liveSlot(h, o.A)
	switch o.Kind {
	case impl.OpAlloc:
		slot := freeSlot(h)
		if !slices.Contains(h.Sites, o.Site) {
			h.Sites = append(h.Sites, o.Site)
		}
		h.Objs[slot] = impl.Obj{Live: true, Gen: h.Objs[slot].Gen + 1, Site: slices.Index(h.Sites, o.Site), Holds: 1, Count: 1, Field: []int{-1, -1, -1}}
		return h, slot + 8*h.Objs[slot].Gen
	case impl.OpRetain:
		h.Objs[at].Holds++
	case impl.OpRelease:
		h.Objs[at].Holds--
	case impl.OpRoot:
		h.Objs[at].Roots++
	case impl.OpUnroot:
		h.Objs[at].Roots--
	case impl.OpStore:
		h.Objs[at].Field[o.B] = o.C
	case impl.OpWeak:
		handle := freeHandle(h)
		h.Weaks[handle] = impl.Weak{Used: true, Target: o.A}
		return h, handle
	case impl.OpLoad:
		if liveSlot(h, h.Weaks[o.A].Target) < 0 {
			return h, -1
		}
		return h, h.Weaks[o.A].Target
	case impl.OpDrop:
		h.Weaks[o.A] = impl.Weak{}
	}
	return h, 0
}

// applyTold is an accepted operation as the chapter tells it, with what is counted and suspected, in its order.
func applyTold(h impl.Heap, o impl.Op) (impl.Heap, impl.Answer) {
	after, val := changed(h, o)
	var freed []int
	switch o.Kind {
	case impl.OpRetain, impl.OpRoot:
		after.Objs[liveSlot(h, o.A)].Count++
	case impl.OpRelease, impl.OpUnroot:
		after, freed = loseTold(after, []int{o.A})
	case impl.OpStore:
		if o.C != -1 {
			after.Objs[liveSlot(h, o.C)].Count++
		}
		if was := h.Objs[liveSlot(h, o.A)].Field[o.B]; was != -1 {
			after, freed = loseTold(after, []int{was})
		}
	case impl.OpCollect:
		left, slots := collectTold(h)
		after, freed = left, idsIn(h, slots)
	}
	return after, impl.Answer{Val: val, Freed: freed}
}

// meaning does an accepted operation to the heap without any counts: what nothing holds, roots or leads to is freed, again and again; at a collection, what is not reached.
func meaning(h impl.Heap, o impl.Op) (impl.Heap, []int) {
	after, _ := changed(h, o)
	var freed []int
	if o.Kind == impl.OpCollect {
		_, leaked := keptAndLeaked(h)
		return leftOver(h, leaked), idsIn(h, leaked)
	}
	for again := true; again; {
		again = false
		for slot, x := range after.Objs {
			if id := slot + 8*x.Gen; x.Live && x.Holds == 0 && x.Roots == 0 && edgesTo(after, id) == 0 {
				freedSlot(&after, slot)
				freed = append(freed, id)
				again = true
			}
		}
	}
	return after, freed
}

// uncounted is a heap without what is counted: of a right one that follows from the rest.
func uncounted(h impl.Heap) impl.Heap {
	h = plain(h)
	for slot := range h.Objs {
		h.Objs[slot].Count, h.Objs[slot].Purple = 0, false
	}
	h.Buffer = nil
	return h
}

func sameTold(a impl.Answer, b impl.Answer) bool {
	return a.Code == b.Code && a.Val == b.Val && slices.Equal(a.Freed, b.Freed)
}

// holdRefused: it is refused with the code, and changes nothing.
func holdRefused(t *testing.T, what string, h impl.Heap, o impl.Op, code int) {
	t.Helper()
	after, a := impl.Apply(h, o)
	if !sameTold(a, impl.Answer{Code: code}) || !alike(after, h) {
		t.Errorf("%s: %+v is answered %+v, want code %d and nothing else, and leaves\n%v of\n%v", what, o, a, code, after, h)
	}
}

// holdStep is promise 5 of one operation on a right heap: what is left is right; what is refused changes nothing; what is done is what the chapter says.
func holdStep(t *testing.T, what string, h impl.Heap, o impl.Op) impl.Heap {
	t.Helper()
	after, a := impl.Apply(h, o)
	if fault := rightFault(after); fault != "" || !impl.HeapOk(after) {
		t.Errorf("%s: %+v answered %+v leaves a heap that is not right (%s):\n%v\n%v", what, o, a, fault, h, after)
	}
	if code := wantCode(h, o); code != impl.ErOk {
		holdRefused(t, what, h, o, code)
		return after
	}
	want, told := applyTold(h, o)
	if !sameTold(a, told) || !alike(after, want) {
		t.Errorf("%s: %+v is answered %+v, want %+v, and leaves\n%v, want\n%v", what, o, a, told, after, want)
	}
	if _, leaked := keptAndLeaked(h); o.Kind == impl.OpCollect && !allSuspected(h, leaked) {
		return after
	}
	want, freed := meaning(h, o)
	if !slices.Equal(slices.Sorted(slices.Values(a.Freed)), slices.Sorted(slices.Values(freed))) || !alike(uncounted(after), uncounted(want)) {
		t.Errorf("%s: %+v is answered %+v, want %v freed, and leaves\n%v, want\n%v", what, o, a, freed, after, want)
	}
	return after
}

// idsAround: what is live in a heap, what was and will be, and what never was an id.
func idsAround(h impl.Heap) []int {
	l := []int{math.MinInt, -2, -1, 0, 7, 8, 7999, 8000, math.MaxInt}
	for slot, o := range h.Objs {
		if o.Gen > 0 {
			l = append(l, slot+8*o.Gen)
		}
	}
	return append(l, 16, 24, 27+1<<32)
}

// operationsFor: each kind there is and some that there are not, with arguments at and behind all edges.
func operationsFor(h impl.Heap) []impl.Op {
	var l []impl.Op
	ids := idsAround(h)
	for kind := -1; kind <= 11; kind++ {
		for _, a := range ids {
			l = append(l, impl.Op{Kind: kind, A: a})
			for b := -1; b <= 3 && kind == impl.OpStore; b++ {
				for _, c := range ids {
					l = append(l, store(a, b, c))
				}
			}
		}
		for a := range 10 {
			l = append(l, impl.Op{Kind: kind, A: a, B: a, C: a, Site: "new"})
		}
	}
	for _, s := range append([]string{"", "a", "new", "12345678", "123456789", "\u20ac\u20ac\u20ac", "\xff", longText(300)}, h.Sites...) {
		l = append(l, alloc(s), impl.Op{Kind: impl.OpAlloc, A: 8, B: -1, C: 9, Site: s})
	}
	return append(l, impl.Op{Kind: math.MaxInt, A: 8}, impl.Op{Kind: math.MinInt, A: 8}, impl.Op{Kind: 1 + 1<<32, Site: "a"})
}

func TestRightHeapStaysRight(t *testing.T) {
	for name, h := range rightHeaps() {
		for _, o := range operationsFor(h) {
			holdStep(t, name, h, o)
		}
		if t.Failed() {
			return
		}
	}
	for _, row := range rightAtTheLimits() {
		h := baseHeap()
		row.change(&h)
		for _, o := range operationsFor(h) {
			holdStep(t, row.name, h, o)
		}
		if t.Failed() {
			return
		}
	}
}

// someOperation is mostly one that is accepted, sometimes any other.
func someOperation(r *rand.Rand, h impl.Heap) impl.Op {
	ids := idsAround(h)
	if live := impl.LiveIds(h); len(live) > 0 && r.Intn(12) > 0 {
		ids = live
	}
	some := func() int { return ids[r.Intn(len(ids))] }
	switch n := r.Intn(40); {
	case n < 9:
		return alloc(string(rune('a' + r.Intn(7))))
	case n < 15:
		return release(some())
	case n < 18:
		return store(some(), r.Intn(3), -1)
	case n < 28:
		return store(some(), r.Intn(3), some())
	case n < 29:
		return retain(some())
	case n < 30:
		return root(some())
	case n < 33:
		return unroot(some())
	case n < 35:
		return weak(some())
	case n < 38:
		return impl.Op{Kind: impl.OpLoad + r.Intn(2), A: r.Intn(10) - 1}
	}
	return impl.Op{Kind: r.Intn(14) - 1, A: some(), B: r.Intn(5) - 1, C: some(), Site: "b"}
}

func TestRightHeapStaysRightInLongPlays(t *testing.T) {
	freed, answered := map[int]int{}, map[[2]int]int{}
	for seed := range 150 {
		r := rand.New(rand.NewSource(int64(seed)))
		h := impl.HeapNew()
		for step := range 150 {
			o := someOperation(r, h)
			_, a := impl.Apply(h, o)
			freed[len(a.Freed)]++
			answered[[2]int{o.Kind, a.Code}]++
			h = holdStep(t, fmt.Sprintf("play %d, step %d", seed, step), h, o)
			if t.Failed() {
				return
			}
		}
	}
	holdManifold(t, freed, answered)
}

// holdManifold: plays that free nothing, or have not each kind taken and refused, would hold little.
func holdManifold(t *testing.T, freed map[int]int, answered map[[2]int]int) {
	t.Helper()
	for n := 1; n <= 3; n++ {
		if freed[n] == 0 {
			t.Errorf("no play frees %d at once", n)
		}
	}
	for kind := impl.OpAlloc; kind <= impl.OpCollect; kind++ {
		if answered[[2]int{kind, impl.ErOk}] == 0 || kind != impl.OpCollect && answered[[2]int{kind, impl.ErDead}]+answered[[2]int{kind, impl.ErRange}]+answered[[2]int{kind, impl.ErFull}] == 0 {
			t.Errorf("no play has kind %d taken and refused", kind)
		}
	}
}

// holdAllPlays goes on from a heap by each row of so many of the operations.
func holdAllPlays(t *testing.T, h impl.Heap, ops []impl.Op, left int) {
	t.Helper()
	for _, o := range ops {
		after := holdStep(t, "short", h, o)
		if left > 1 && !t.Failed() {
			holdAllPlays(t, after, ops, left-1)
		}
	}
}

// Each way to make and lead three objects, short enough to try them all.
func TestRightHeapStaysRightInAllShortPlays(t *testing.T) {
	first, _ := impl.Play([]impl.Op{alloc("a"), alloc("b"), store(8, 0, 9), store(9, 0, 8)})
	ops := []impl.Op{alloc("a"), release(8), release(9), release(10), store(8, 0, -1), store(8, 0, 8), store(8, 1, 9), store(9, 0, 10), store(9, 0, 9), store(10, 0, 8), store(10, 0, -1)}
	holdAllPlays(t, first, ops, 4)
}

// Each way to hold, root and see two objects by handles, while their slots are used again.
func TestRightHeapStaysRightInAllShortPlaysOfHandles(t *testing.T) {
	first, _ := impl.Play([]impl.Op{alloc("a"), alloc("b"), store(8, 0, 9), store(9, 0, 8), release(9), weak(8)})
	ops := []impl.Op{alloc("a"), retain(8), release(8), root(9), unroot(9), weak(9), weak(16), load(0), load(1), drop(0), collect()}
	holdAllPlays(t, first, ops, 4)
}

func TestApplyOfHeapsThatAreNotRight(t *testing.T) {
	refuse := func(name string, h impl.Heap) {
		for _, o := range []impl.Op{alloc("a"), alloc(""), retain(8), release(8), release(27), store(8, 0, 9), store(8, 9, 9), root(8), unroot(9), weak(8), weak(5), load(0), load(9), drop(0), collect(), {}} {
			holdRefused(t, name, h, o, impl.ErRange)
		}
	}
	for name, h := range wrongHeaps() {
		refuse(name, h)
	}
	for _, row := range wrongInOneThing() {
		h := baseHeap()
		row.change(&h)
		refuse(row.name, h)
	}
}

func TestApplyOfKindsThatThereAreNot(t *testing.T) {
	for _, kind := range []int{math.MinInt, -3, -1, 0, 11, 12, 1 << 32, 1 + 1<<32, 3 + 1<<32, math.MaxInt} {
		for name, h := range rightHeaps() {
			holdRefused(t, name, h, impl.Op{Kind: kind, A: 8, C: 8, Site: "a"}, impl.ErRange)
			holdRefused(t, name, h, impl.Op{Kind: kind}, impl.ErRange)
		}
	}
}

func TestApplySharesNothing(t *testing.T) {
	for name, h := range allHeaps() {
		for _, o := range []impl.Op{alloc("new"), alloc("a"), alloc(""), release(8), release(16), release(27), store(8, 0, 9), store(8, 2, -1), store(8, 5, 9), store(16, 1, 17), retain(8), retain(9), root(16), root(7992), unroot(9), unroot(7999), weak(8), weak(14), load(0), load(2), load(5), drop(0), drop(5), collect(), {Kind: 12}} {
			holdUnwritten(t, name, h, func(g impl.Heap) {
				first, a := impl.Apply(g, o)
				second, b := impl.Apply(g, o)
				l := append(heapSpans(g), append(heapSpans(first), append(heapSpans(second), spanOf(a.Freed), spanOf(b.Freed))...)...)
				holdApart(t, fmt.Sprintf("%s, %+v", name, o), l)
			})
		}
	}
}

func TestStoreOfWhatIsThereAlready(t *testing.T) {
	want := purple(baseHeap(), 1)
	got, a := impl.Apply(baseHeap(), store(8, 0, 9))
	if a.Code != impl.ErOk || len(a.Freed) != 0 || !alike(got, want) {
		t.Errorf("the same once more: %+v\n%v, want\n%v", a, got, want)
	}
	// One that only leads to itself is not freed by storing itself where it is, but by anything else there.
	self := heapWith([]string{"a"}, thing{slot: 2, gen: 3, field: [3]int{-1, 26, -1}})
	got, a = impl.Apply(self, store(26, 1, 26))
	if a.Code != impl.ErOk || len(a.Freed) != 0 || !alike(got, purple(heapCopy(self), 2)) {
		t.Errorf("itself: %+v\n%v", a, got)
	}
	got, a = impl.Apply(purple(heapCopy(self), 2), store(26, 1, -1))
	freedSlot(&self, 2)
	if a.Code != impl.ErOk || !slices.Equal(a.Freed, []int{26}) || !alike(got, self) {
		t.Errorf("nothing: %+v\n%v", a, got)
	}
}

func TestReleaseTellsWhatIsFreedInOrder(t *testing.T) {
	h, a := impl.Apply(chainHeap(), release(8))
	if a.Code != impl.ErOk || a.Val != 0 || !slices.Equal(a.Freed, []int{8, 9, 10, 11, 12, 13}) || !slices.Equal(h.Buffer, []int{14}) {
		t.Error("release of a chain", a, h.Buffer)
	}
	h, a = impl.Apply(chainHeap(), store(8, 0, 10))
	if a.Code != impl.ErOk || a.Val != 0 || !slices.Equal(a.Freed, []int{9, 11, 12}) || !slices.Equal(h.Buffer, []int{13}) || h.Objs[2].Count != 2 {
		t.Error("store into a chain", a, h.Buffer)
	}
}

// A slot is used again till its generations are spent; then the next one is.
func TestSlotsAreSpentOneByOne(t *testing.T) {
	h := impl.HeapNew()
	h.Weaks[0] = impl.Weak{Used: true, Target: 8}
	for slot := range 8 {
		for gen := 1; gen <= 999; gen++ {
			made, a := impl.Apply(h, alloc("s"))
			if a.Code != impl.ErOk || a.Val != slot+8*gen || !impl.HeapOk(made) {
				t.Fatalf("slot %d, generation %d: %+v", slot, gen, a)
			}
			h, a = impl.Apply(made, release(a.Val))
			if a.Code != impl.ErOk || !slices.Equal(a.Freed, []int{slot + 8*gen}) {
				t.Fatalf("slot %d, generation %d: released %+v", slot, gen, a)
			}
		}
	}
	after, a := impl.Apply(h, alloc("s"))
	if a.Code != impl.ErFull || !alike(after, h) || !impl.HeapOk(h) {
		t.Error("all spent", a)
	}
	if _, a := impl.Apply(h, alloc("")); a.Code != impl.ErRange {
		t.Error("all spent, an empty name", a)
	}
}

func TestAllocOfNames(t *testing.T) {
	l := []impl.Op{alloc("a"), alloc("b"), alloc("a"), alloc("12345678"), alloc("d"), alloc("e"), alloc("f"), alloc("g"), alloc("b"), alloc("f"), alloc("g")}
	h, answers := impl.Play(l)
	var codes, sites []int
	for _, a := range answers {
		codes = append(codes, a.Code)
	}
	for _, o := range h.Objs {
		sites = append(sites, o.Site)
	}
	if !slices.Equal(codes, []int{0, 0, 0, 0, 0, 0, 0, impl.ErSite, 0, impl.ErFull, impl.ErFull}) || !slices.Equal(sites, []int{0, 1, 0, 2, 3, 4, 5, 1}) {
		t.Error("names", codes, sites)
	}
	if strings.Join(h.Sites, " ") != "a b 12345678 d e f" || !impl.HeapOk(h) {
		t.Error("names", h.Sites)
	}
}

func TestPlayIsApplyOneByOne(t *testing.T) {
	if h, a := impl.Play(nil); !alike(h, emptyHeap()) || len(a) != 0 {
		t.Error("Play of nothing", h, a)
	}
	r := rand.New(rand.NewSource(7))
	h := impl.HeapNew()
	var l []impl.Op
	var heaps []impl.Heap
	var answers []impl.Answer
	for range 402 {
		o := someOperation(r, h)
		next, a := impl.Apply(h, o)
		l, heaps, answers = append(l, o), append(heaps, next), append(answers, a)
		h = next
	}
	for _, n := range []int{1, 2, 50, 399, 400, 401, 402} {
		got, told := impl.Play(l[:n])
		n = min(n, 400)
		if !alike(got, heaps[n-1]) || fmt.Sprint(told) != fmt.Sprint(answers[:n]) {
			t.Errorf("Play of %d operations tells %d answers, or leaves another heap", n, len(told))
		}
	}
	var long []impl.Op
	for gen := 1; gen <= 1000; gen++ {
		long = append(long, alloc("a"), release(8*gen))
	}
	if got, told := impl.Play(long); len(told) != 400 || got.Objs[0].Gen != 200 || told[399].Freed[0] != 1600 {
		t.Error("Play of 2000 operations", len(told), got.Objs[0].Gen)
	}
}

func TestPlaySharesNothing(t *testing.T) {
	l := roomy([]impl.Op{alloc("a"), alloc("b"), store(8, 1, 9), release(9), weak(8), root(9), unroot(9), release(8), alloc("c"), store(16, 0, 16), release(16), collect(), load(0)}, alloc("behind"))
	before := whole(l)
	h, a := impl.Play(l)
	spans := append(heapSpans(h), spanOf(l), spanOf(a))
	for _, x := range a {
		spans = append(spans, spanOf(x.Freed))
	}
	holdApart(t, "Play", spans)
	if !slices.Equal(whole(l), before) {
		t.Error("Play writes into its operations")
	}
}

// holdDone: the operation is accepted, answers this, and changes this alone.
func holdDone(t *testing.T, what string, h impl.Heap, o impl.Op, want impl.Answer, change func(h *impl.Heap)) impl.Heap {
	t.Helper()
	left := plain(h)
	change(&left)
	after, a := impl.Apply(h, o)
	if !sameTold(a, want) || !alike(after, left) {
		t.Errorf("%s: %+v is answered %+v, want %+v, and leaves\n%v, want\n%v", what, o, a, want, after, left)
	}
	return after
}

func TestAllocCodes(t *testing.T) {
	made := func(site int, names ...string) func(*impl.Heap) {
		return func(h *impl.Heap) {
			h.Sites = append(h.Sites, names...)
			h.Objs[2] = impl.Obj{Live: true, Gen: 6, Site: site, Holds: 1, Count: 1, Field: []int{-1, -1, -1}}
		}
	}
	h := baseHeap()
	for _, name := range []string{"c", "12345678", "\x00", "A", "aa", "\u20ac\u20ac12"} {
		holdDone(t, "a new name", h, alloc(name), impl.Answer{Val: 50}, made(2, name))
	}
	holdDone(t, "a name that is there", h, alloc("bb"), impl.Answer{Val: 50}, made(1))
	for _, name := range []string{"", "123456789", "\u20ac\u20ac\u20ac", longText(300)} {
		holdRefused(t, "a name of no byte or of too many", h, alloc(name), impl.ErRange)
		holdRefused(t, "and no free slot", fullHeap(), alloc(name), impl.ErRange)
	}
	five := baseHeap()
	five.Sites = append(five.Sites, "c", "d", "e")
	six := holdDone(t, "the sixth name", five, alloc("f"), impl.Answer{Val: 50}, made(5, "f"))
	holdRefused(t, "a seventh name", six, alloc("g"), impl.ErSite)
	if _, a := impl.Apply(six, alloc("f")); !sameTold(a, impl.Answer{Val: 12}) {
		t.Error("the sixth name once more", a)
	}
	for what, h := range map[string]impl.Heap{"all live": fullHeap(), "all spent": spentHeap()} {
		holdRefused(t, what, h, alloc("x"), impl.ErFull)
		h.Sites = []string{"x", "y", "z", "u", "v", "w"}
		holdRefused(t, what+", six names", h, alloc("new"), impl.ErFull)
	}
	// What the operation has besides is not asked.
	holdDone(t, "with other numbers", h, impl.Op{Kind: impl.OpAlloc, A: -7, B: 99, C: math.MinInt, Site: "a"}, impl.Answer{Val: 50}, made(0))
}

// keptRow is one of the four kinds that hold, root, and let go.
type keptRow struct {
	name       string
	op         func(id int) impl.Op
	times      func(o *impl.Obj) *int
	more, edge int
	refused    int
}

func keptRows() []keptRow {
	holds := func(o *impl.Obj) *int { return &o.Holds }
	roots := func(o *impl.Obj) *int { return &o.Roots }
	return []keptRow{
		{"retain", retain, holds, 1, 20, impl.ErCount},
		{"root", root, roots, 1, 20, impl.ErCount},
		{"release", release, holds, -1, 0, impl.ErNone},
		{"unroot", unroot, roots, -1, 0, impl.ErNone},
	}
}

func TestHoldAndRootAtTheirLimits(t *testing.T) {
	for _, row := range keptRows() {
		for times := 0; times <= 20; times++ {
			h := baseHeap()
			*row.times(&h.Objs[0]) = times
			recount(&h, 0)
			what := fmt.Sprintf("%s with %d", row.name, times)
			if times == row.edge {
				holdRefused(t, what, h, row.op(8), row.refused)
				continue
			}
			// Fields lead to it: so it is not freed, but suspected where it loses.
			holdDone(t, what, h, row.op(8), impl.Answer{}, func(h *impl.Heap) {
				*row.times(&h.Objs[0]) += row.more
				h.Objs[0].Count += row.more
				if row.more < 0 {
					*h = purple(*h, 0)
				}
			})
		}
	}
}

// Holds at a limit do not hinder roots, nor roots holds.
func TestHoldsAndRootsAreApart(t *testing.T) {
	h := heapWith([]string{"a"}, at(0, 20, 0), at(1, 0, 20))
	holdRefused(t, "all holds", h, retain(8), impl.ErCount)
	holdRefused(t, "no roots", h, unroot(8), impl.ErNone)
	holdRefused(t, "all roots", h, root(9), impl.ErCount)
	holdRefused(t, "no holds", h, release(9), impl.ErNone)
	for _, o := range []impl.Op{root(8), release(8), retain(9), unroot(9)} {
		if _, a := impl.Apply(h, o); !sameTold(a, impl.Answer{}) {
			t.Errorf("%+v is answered %+v", o, a)
		}
	}
	both := heapWith([]string{"a"}, at(0, 20, 20))
	holdRefused(t, "both", both, retain(8), impl.ErCount)
	holdRefused(t, "both", both, root(8), impl.ErCount)
}

func TestWhatIsNotLiveAnyMore(t *testing.T) {
	h, _ := impl.Play([]impl.Op{alloc("a"), release(8), alloc("a"), alloc("a"), release(9), alloc("a"), release(17)})
	for _, id := range []int{8, 9, 17, 24, 25, 10, 18, 0, 1, 7, -1, -2, -8, 7992, 8000, 16 + 1<<32, math.MaxInt, math.MinInt} {
		for _, row := range keptRows() {
			holdRefused(t, row.name, h, row.op(id), impl.ErDead)
		}
		holdRefused(t, "weak", h, weak(id), impl.ErDead)
		holdRefused(t, "store into it", h, store(id, 0, 16), impl.ErDead)
		holdRefused(t, "store into it, in no field", h, store(id, 3, 16), impl.ErDead)
		if id != -1 {
			holdRefused(t, "store of it", h, store(16, 0, id), impl.ErDead)
			holdRefused(t, "store of it in no field", h, store(16, -1, id), impl.ErDead)
		}
	}
}

func TestHeldOftenGoesAtLast(t *testing.T) {
	l := []impl.Op{alloc("a")}
	for range 19 {
		l = append(l, retain(8), root(8))
	}
	l = append(l, root(8))
	h, answers := impl.Play(l)
	if slices.ContainsFunc(answers, func(a impl.Answer) bool { return a.Code != impl.ErOk }) || h.Objs[0].Count != 40 || len(h.Buffer) != 0 {
		t.Fatal("twenty of both", answers, h)
	}
	for n := 39; n >= 0; n-- {
		o := release(8)
		if n%2 == 0 {
			o = unroot(8)
		}
		after, a := impl.Apply(h, o)
		if h = after; n > 0 && (!sameTold(a, impl.Answer{}) || h.Objs[0].Count != n || !slices.Equal(h.Buffer, []int{8})) {
			t.Fatalf("%d left: %+v\n%v", n, a, h)
		} else if n == 0 && (!slices.Equal(a.Freed, []int{8}) || len(h.Buffer) != 0) {
			t.Fatal("at last", a)
		}
	}
}

func TestStoreCodes(t *testing.T) {
	h := baseHeap()
	for _, field := range []int{-1, -2, 3, 4, 1 << 32, math.MinInt, math.MaxInt} {
		for _, to := range []int{-1, 8, 9, 27} {
			holdRefused(t, "no field", h, store(8, field, to), impl.ErRange)
		}
	}
	for _, to := range []int{-2, 0, 7, 42, 35, math.MinInt, math.MaxInt} {
		holdRefused(t, "of no id", h, store(8, 1, to), impl.ErDead)
	}
	holdDone(t, "into an empty field", h, store(8, 1, 27), impl.Answer{}, func(h *impl.Heap) { h.Objs[0].Field[1], h.Objs[3].Count = 27, 4 })
	holdDone(t, "nothing into an empty field", h, store(8, 1, -1), impl.Answer{}, func(h *impl.Heap) {})
	holdDone(t, "its own id", h, store(8, 1, 8), impl.Answer{}, func(h *impl.Heap) { h.Objs[0].Field[1], h.Objs[0].Count = 8, 5 })
	holdDone(t, "its own id over another", h, store(8, 0, 8), impl.Answer{}, func(h *impl.Heap) {
		h.Objs[0].Field[0], h.Objs[0].Count, h.Objs[1].Count = 8, 5, 1
		*h = purple(*h, 1)
	})
	holdDone(t, "nothing over another", h, store(9, 2, -1), impl.Answer{}, func(h *impl.Heap) { h.Objs[1].Field[2], h.Objs[3].Count = -1, 2 })
	holdDone(t, "another over its own id", h, store(8, 2, 9), impl.Answer{}, func(h *impl.Heap) {
		h.Objs[0].Field[2], h.Objs[0].Count, h.Objs[1].Count = 9, 3, 3
		*h = purple(*h, 0)
	})
}

func TestStoreOverWhatThenGoes(t *testing.T) {
	// 8 is held and leads to 9, which leads to 10 and back to 8; 11 is held.
	h := heapWith([]string{"a"}, at(0, 1, 0, 1), at(1, 0, 0, 2, 0), at(2, 0, 0), at(3, 1, 0))
	for _, to := range []int{-1, 8, 11} {
		after := holdStep(t, "over what goes", h, store(8, 0, to))
		if _, a := impl.Apply(h, store(8, 0, to)); !slices.Equal(a.Freed, []int{9, 10}) || !slices.Equal(after.Buffer, []int{8}) {
			t.Errorf("%d over what goes: %+v\n%v", to, a, after)
		}
	}
	// What is stored hung on what goes: it gains ahead, and stays.
	if after, a := impl.Apply(h, store(8, 0, 10)); !slices.Equal(a.Freed, []int{9}) || after.Objs[2].Count != 1 || !after.Objs[2].Purple {
		t.Errorf("what hung there: %+v\n%v", a, after)
	}
	// Nothing holds the two: what is stored into goes too, and what was stored with it.
	ring := heapWith([]string{"a"}, at(0, 0, 0, 1), at(1, 0, 0, 0), at(2, 1, 0))
	if after, a := impl.Apply(ring, store(8, 0, 10)); !slices.Equal(a.Freed, []int{9, 8}) || after.Objs[2].Count != 1 || !slices.Equal(after.Buffer, []int{10}) {
		t.Errorf("a ring that is cut: %+v\n%v", a, after)
	}
	if after, a := impl.Apply(ring, store(8, 0, 8)); !slices.Equal(a.Freed, []int{9}) || !slices.Equal(after.Buffer, []int{8}) || after.Objs[0].Count != 1 {
		t.Errorf("a ring that gets shorter: %+v\n%v", a, after)
	}
}

func TestWeakTakesTheFirstHandle(t *testing.T) {
	h := heapWith([]string{"a"}, at(0, 1, 0), at(1, 0, 1))
	for handle := range 8 {
		id := 8 + handle%2
		h = holdDone(t, "weak", h, weak(id), impl.Answer{Val: handle}, func(h *impl.Heap) { h.Weaks[handle] = impl.Weak{Used: true, Target: id} })
	}
	holdRefused(t, "all are used", h, weak(8), impl.ErFull)
	holdRefused(t, "all are used, and it is not live", h, weak(10), impl.ErDead)
	for _, handle := range []int{7, 0, 3} {
		free := holdDone(t, "drop", h, drop(handle), impl.Answer{}, func(h *impl.Heap) { h.Weaks[handle] = impl.Weak{} })
		holdDone(t, "weak again", free, weak(9), impl.Answer{Val: handle}, func(h *impl.Heap) { h.Weaks[handle] = impl.Weak{Used: true, Target: 9} })
	}
	// Of two that are free the first is taken, though the other one was free before.
	h, _ = impl.Apply(h, drop(6))
	h, _ = impl.Apply(h, drop(2))
	if _, a := impl.Apply(h, weak(8)); !sameTold(a, impl.Answer{Val: 2}) {
		t.Error("the first of two", a)
	}
}

func TestLoadAndDropOfEachHandle(t *testing.T) {
	h := baseHeap()
	h.Weaks[7] = impl.Weak{Used: true, Target: 27}
	none := func(*impl.Heap) {}
	holdDone(t, "live", h, load(0), impl.Answer{Val: 9}, none)
	holdDone(t, "not live", h, load(2), impl.Answer{Val: -1}, none)
	holdDone(t, "the last handle", h, load(7), impl.Answer{Val: 27}, none)
	holdDone(t, "the last handle, with other numbers", h, impl.Op{Kind: impl.OpLoad, A: 7, B: -1, C: 12, Site: longText(9)}, impl.Answer{Val: 27}, none)
	for _, handle := range []int{0, 2, 7} {
		left := holdDone(t, "drop", h, drop(handle), impl.Answer{}, func(h *impl.Heap) { h.Weaks[handle] = impl.Weak{} })
		holdRefused(t, "dropped", left, load(handle), impl.ErRange)
		holdRefused(t, "dropped", left, drop(handle), impl.ErRange)
	}
	for _, handle := range []int{1, 3, 4, 5, 6, 8, 9, -1, -2, 27, 1 << 32, math.MinInt, math.MaxInt} {
		holdRefused(t, "not used", h, load(handle), impl.ErRange)
		holdRefused(t, "not used", h, drop(handle), impl.ErRange)
	}
}

func TestCollectIsAnsweredAsCollect(t *testing.T) {
	h := heapWith([]string{"r"}, at(0, 0, 0, 1), at(1, 0, 0, 0, 2), at(2, 0, 0), at(3, 1, 0))
	holdDone(t, "a ring", purple(heapCopy(h), 1), collect(), impl.Answer{Freed: []int{8, 9, 10}}, func(left *impl.Heap) { *left = leftOver(h, []int{0, 1, 2}) })
	holdDone(t, "a ring that is not suspected", h, collect(), impl.Answer{}, func(*impl.Heap) {})
	holdDone(t, "no ring, but suspected", purple(heapCopy(h), 3), collect(), impl.Answer{}, func(left *impl.Heap) { *left = plain(h) })
	for name, h := range playedHeaps() {
		want, freed := impl.Collect(h)
		holdDone(t, name, h, impl.Op{Kind: impl.OpCollect, A: 8, B: 1, C: 2, Site: "s"}, impl.Answer{Freed: freed}, func(left *impl.Heap) { *left = want })
	}
}

// seen is what one knows of a play by its answers alone: what was ever made, what of it is not freed, and what handles were set to.
type seen struct {
	made, live map[int]bool
	gens       [8]int
	handles    map[int]int
}

// heed is promise 8 of one answer.
func (s *seen) heed(t *testing.T, what string, o impl.Op, a impl.Answer) {
	t.Helper()
	if a.Code != impl.ErOk {
		return
	}
	switch o.Kind {
	case impl.OpAlloc:
		slot := a.Val % 8
		if s.made[a.Val] || a.Val != slot+8*(s.gens[slot]+1) {
			t.Errorf("%s: %d is made, and was before, or is not of the next generation", what, a.Val)
		}
		for lower := range slot {
			if !s.live[lower+8*s.gens[lower]] {
				t.Errorf("%s: %d is made, and slot %d is free", what, a.Val, lower)
			}
		}
		s.made[a.Val], s.live[a.Val], s.gens[slot] = true, true, s.gens[slot]+1
	case impl.OpWeak:
		s.handles[a.Val] = o.A
	case impl.OpDrop:
		delete(s.handles, o.A)
	}
	for _, id := range a.Freed {
		if !s.live[id] {
			t.Errorf("%s: %d is freed, and was not live", what, id)
		}
		delete(s.live, id)
	}
}

// holdHandles: each handle leads to its own object as long as that is live, and to nothing then.
func (s *seen) holdHandles(t *testing.T, what string, h impl.Heap) {
	t.Helper()
	for handle := range 8 {
		want := impl.Answer{Code: impl.ErRange}
		if id, ok := s.handles[handle]; ok {
			want = impl.Answer{Val: -1}
			if s.live[id] {
				want.Val = id
			}
		}
		if _, a := impl.Apply(h, load(handle)); !sameTold(a, want) {
			t.Errorf("%s: handle %d is answered %+v, want %+v", what, handle, a, want)
		}
	}
}

func TestWhatIsMadeNeverWas(t *testing.T) {
	for seed := range 120 {
		r := rand.New(rand.NewSource(int64(seed)))
		s := seen{made: map[int]bool{}, live: map[int]bool{}, handles: map[int]int{}}
		h := impl.HeapNew()
		for step := range 200 {
			what := fmt.Sprintf("play %d, step %d", seed, step)
			o := someOperation(r, h)
			after, a := impl.Apply(h, o)
			h = after
			s.heed(t, what, o, a)
			s.holdHandles(t, what, h)
			if live := slices.Sorted(maps.Keys(s.live)); !slices.Equal(live, slices.Sorted(slices.Values(impl.LiveIds(h)))) {
				t.Errorf("%s: %v are live, and %v were made and not freed", what, impl.LiveIds(h), live)
			}
			if t.Failed() {
				return
			}
		}
	}
}

// One handle to each that was ever in a slot, as many as there are handles: only the last one leads anywhere.
func TestHandlesToASlotThatIsUsedAgain(t *testing.T) {
	h := impl.HeapNew()
	for gen := 1; gen <= 8; gen++ {
		for _, o := range []impl.Op{alloc("a"), weak(8 * gen)} {
			h, _ = impl.Apply(h, o)
		}
		for handle := range gen {
			want := -1
			if handle == gen-1 {
				want = 8 * gen
			}
			if _, a := impl.Apply(h, load(handle)); !sameTold(a, impl.Answer{Val: want}) {
				t.Errorf("generation %d, handle %d: %+v, want %d", gen, handle, a, want)
			}
		}
		h, _ = impl.Apply(h, release(8*gen))
		if _, a := impl.Apply(h, load(gen-1)); !sameTold(a, impl.Answer{Val: -1}) {
			t.Errorf("generation %d is gone: %+v", gen, a)
		}
	}
	// A right heap may have a handle to what there never was: that is not live.
	h = impl.HeapNew()
	h.Weaks[4] = impl.Weak{Used: true, Target: 7999}
	if _, a := impl.Apply(h, load(4)); !sameTold(a, impl.Answer{Val: -1}) {
		t.Error("never was", a)
	}
}

// A handle holds nothing: what only handles lead to goes.
func TestHandlesHoldNothing(t *testing.T) {
	l := []impl.Op{alloc("a")}
	for range 8 {
		l = append(l, weak(8))
	}
	h, answers := impl.Play(append(l, release(8), load(7)))
	if !slices.Equal(answers[9].Freed, []int{8}) || answers[10].Val != -1 || !impl.HeapOk(h) {
		t.Error("handles hold", answers)
	}
}

// Promise 19: what a play goes on from is all that it hangs on.
func TestPlaysInTwoParts(t *testing.T) {
	for seed := range 20 {
		r := rand.New(rand.NewSource(int64(seed)))
		h := impl.HeapNew()
		var l []impl.Op
		for range 60 {
			l = append(l, someOperation(r, h))
			h, _ = impl.Apply(h, l[len(l)-1])
		}
		whole, answers := impl.Play(l)
		for cut := range len(l) + 1 {
			part, told := impl.Play(l[:cut])
			for _, o := range l[cut:] {
				after, a := impl.Apply(part, o)
				part, told = after, append(told, a)
			}
			if !alike(part, whole) || !slices.EqualFunc(told, answers, sameTold) {
				t.Fatalf("play %d, cut at %d: %v, want %v", seed, cut, part, whole)
			}
		}
	}
}

// lettingGo lets go of all that is held and rooted, one by one, in an order of its own; every step is accepted.
func lettingGo(t *testing.T, what string, h impl.Heap, r *rand.Rand) impl.Heap {
	t.Helper()
	for {
		var l []impl.Op
		for slot, o := range h.Objs {
			id := slot + 8*o.Gen
			if o.Holds > 0 {
				l = append(l, release(id))
			}
			if o.Roots > 0 {
				l = append(l, unroot(id))
			}
		}
		if len(l) == 0 || t.Failed() {
			return h
		}
		h = holdStep(t, what, h, l[r.Intn(len(l))])
	}
}

func TestWhoLetsGoOfAllHasNothingLeft(t *testing.T) {
	rings := 0
	for seed := range 150 {
		r := rand.New(rand.NewSource(int64(seed)))
		h := impl.HeapNew()
		for step := range 100 {
			h, _ = impl.Apply(h, someOperation(r, h))
			if step%20 != 19 {
				continue
			}
			what := fmt.Sprintf("play %d, step %d", seed, step)
			left := lettingGo(t, what, h, r)
			rings += len(impl.LiveIds(left))
			after, a := impl.Apply(left, collect())
			if a.Code != impl.ErOk || !slices.Equal(a.Freed, impl.LiveIds(left)) || len(impl.LiveIds(after)) != 0 || len(after.Buffer) != 0 {
				t.Fatalf("%s: %+v is left\n%v", what, a, after)
			}
		}
	}
	if rings < 100 {
		t.Errorf("only %d were left to collect", rings)
	}
}

// Where rings are not suspected yet, as in a heap that no play made, it is enough that each is suspected once.
func TestWhoLetsGoOfRightHeapsHasNothingLeft(t *testing.T) {
	r := rand.New(rand.NewSource(3))
	for name, h := range rightHeaps() {
		_, leaked := keptAndLeaked(h)
		for _, slot := range leaked {
			if !h.Objs[slot].Purple {
				h = purple(h, slot)
			}
		}
		after, a := impl.Apply(lettingGo(t, name, h, r), collect())
		if a.Code != impl.ErOk || len(impl.LiveIds(after)) != 0 {
			t.Errorf("%s: %+v is left\n%v", name, a, after)
		}
	}
}

func TestPlayStopsAtMaxFrames(t *testing.T) {
	l := slices.Repeat([]impl.Op{collect()}, 399)
	l = append(l, alloc("a"), alloc("b"), alloc("c"))
	for n, live := range map[int]int{399: 0, 400: 1, 401: 1, 402: 1} {
		h, a := impl.Play(l[:n])
		if len(a) != min(n, 400) || len(impl.LiveIds(h)) != live {
			t.Errorf("%d operations: %d answers, %v are live", n, len(a), impl.LiveIds(h))
		}
	}
}

func TestWords(t *testing.T) {
	codes := map[int]string{0: "ok", 1: "dead", 2: "range", 3: "full", 4: "count", 5: "none", 6: "site"}
	kinds := map[int]string{1: "alloc", 2: "retain", 3: "release", 4: "store", 5: "root", 6: "unroot", 7: "weak", 8: "load", 9: "drop", 10: "collect"}
	for _, n := range append(edgeNumbers(), -2, -1, 0, 1, 2, 3, 4, 5, 6, 7, 8, 9, 10, 11, 12, 1<<32, 1+1<<32, 10+1<<32) {
		if impl.CodeWord(n) != codes[n] || impl.OpWord(n) != kinds[n] {
			t.Errorf("words of %d: %q and %q, want %q and %q", n, impl.CodeWord(n), impl.OpWord(n), codes[n], kinds[n])
		}
	}
}

func TestSameAnswer(t *testing.T) {
	l := []impl.Answer{
		{},
		{Code: 1}, {Code: -1}, {Code: math.MaxInt}, {Code: 1 << 32},
		{Val: 1}, {Val: -1}, {Val: math.MinInt}, {Val: 1 << 32},
		{Freed: []int{0}}, {Freed: []int{8}}, {Freed: []int{8, 9}}, {Freed: []int{9, 8}}, {Freed: []int{8, 9, 10}}, {Freed: []int{8, 8}}, {Freed: make([]int, 2)}, {Freed: make([]int, 1000)},
		{Code: 1, Val: 1}, {Code: 1, Val: 1, Freed: []int{1}}, {Code: 1, Freed: []int{1}}, {Val: 1, Freed: []int{1}},
	}
	for i, a := range l {
		for j, b := range l {
			given, other := impl.Answer{Code: a.Code, Val: a.Val, Freed: roomy(a.Freed, 77)}, impl.Answer{Code: b.Code, Val: b.Val, Freed: roomy(b.Freed, 78)}
			wholes := [][]int{whole(given.Freed), whole(other.Freed)}
			if impl.SameAnswer(given, other) != (i == j) {
				t.Errorf("SameAnswer of %+v and %+v is %v", a, b, i != j)
			}
			if !slices.Equal(wholes[0], whole(given.Freed)) || !slices.Equal(wholes[1], whole(other.Freed)) {
				t.Error("SameAnswer writes into what it is given")
			}
		}
	}
	if !impl.SameAnswer(impl.Answer{Freed: []int{}}, impl.Answer{}) || !impl.SameAnswer(impl.Answer{}, impl.Answer{Freed: []int{}}) {
		t.Error("an empty list and nil are the same")
	}
}
