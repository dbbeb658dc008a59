package tests

import (
	"fmt"
	"math"
	"math/rand"
	"slices"
	"strings"
	"testing"

	"loop.example/g01412/impl"
)

var (
	_ func(impl.Heap, impl.Op) (impl.Heap, impl.Answer) = impl.Apply
	_ func([]impl.Op) (impl.Heap, []impl.Answer)        = impl.Play
)

func alloc(site string) impl.Op { return impl.Op{Kind: impl.OpAlloc, Site: site} }
func release(id int) impl.Op    { return impl.Op{Kind: impl.OpRelease, A: id} }
func store(id int, field int, to int) impl.Op {
	return impl.Op{Kind: impl.OpStore, A: id, B: field, C: to}
}

func TestOperationConstants(t *testing.T) {
	kinds := []int{impl.OpAlloc, impl.OpRetain, impl.OpRelease, impl.OpStore, impl.OpRoot, impl.OpUnroot, impl.OpWeak, impl.OpLoad, impl.OpDrop, impl.OpCollect}
	codes := []int{impl.ErOk, impl.ErDead, impl.ErRange, impl.ErFull, impl.ErCount, impl.ErNone, impl.ErSite}
	if !slices.Equal(kinds, []int{1, 2, 3, 4, 5, 6, 7, 8, 9, 10}) || !slices.Equal(codes, []int{0, 1, 2, 3, 4, 5, 6}) {
		t.Error("constants", kinds, codes)
	}
}

// liveSlot: where what has the id is live, by going through all of them.
func liveSlot(h impl.Heap, id int) int {
	for slot, o := range h.Objs {
		if o.Live && id == slot+8*o.Gen {
			return slot
		}
	}
	return -1
}

// wantCode: what an operation on a right heap is answered, by chapter 8's words; -1 for a kind that is not looked at here.
func wantCode(h impl.Heap, o impl.Op) int {
	at := liveSlot(h, o.A)
	switch o.Kind {
	case impl.OpAlloc:
		room := slices.ContainsFunc(h.Objs, func(o impl.Obj) bool { return !o.Live && o.Gen < 999 })
		switch {
		case len(o.Site) < 1 || len(o.Site) > 8:
			return impl.ErRange
		case !room:
			return impl.ErFull
		case len(h.Sites) == 6 && !slices.Contains(h.Sites, o.Site):
			return impl.ErSite
		}
	case impl.OpRelease:
		if at < 0 {
			return impl.ErDead
		}
		if h.Objs[at].Holds == 0 {
			return impl.ErNone
		}
	case impl.OpStore:
		if at < 0 || o.C != -1 && liveSlot(h, o.C) < 0 {
			return impl.ErDead
		}
		if o.B < 0 || o.B > 2 {
			return impl.ErRange
		}
	default:
		return -1
	}
	return impl.ErOk
}

// meaning does an accepted operation to the heap without any counts: what nothing holds, roots or leads to is freed, again and again.
func meaning(h impl.Heap, o impl.Op) (impl.Heap, int, []int) {
	h = plain(h)
	val := 0
	switch o.Kind {
	case impl.OpAlloc:
		slot := slices.IndexFunc(h.Objs, func(o impl.Obj) bool { return !o.Live && o.Gen < 999 })
		if !slices.Contains(h.Sites, o.Site) {
			h.Sites = append(h.Sites, o.Site)
		}
		h.Objs[slot] = impl.Obj{Live: true, Gen: h.Objs[slot].Gen + 1, Site: slices.Index(h.Sites, o.Site), Holds: 1, Field: []int{-1, -1, -1}}
		val = slot + 8*h.Objs[slot].Gen
	case impl.OpRelease:
		h.Objs[liveSlot(h, o.A)].Holds--
	case impl.OpStore:
		h.Objs[liveSlot(h, o.A)].Field[o.B] = o.C
	}
	var freed []int
	for again := true; again; {
		again = false
		for slot, x := range h.Objs {
			if id := slot + 8*x.Gen; x.Live && x.Holds == 0 && x.Roots == 0 && edgesTo(h, id) == 0 {
				freedSlot(&h, slot)
				freed = append(freed, id)
				again = true
			}
		}
	}
	return h, val, freed
}

// uncounted is a heap without what is counted: of a right one that follows from the rest.
func uncounted(h impl.Heap) impl.Heap {
	h = plain(h)
	for slot := range h.Objs {
		h.Objs[slot].Count, h.Objs[slot].Purple = 0, false
	}
	h.Buffer = nil
	return h
}

// holdStep is promise 5 of one operation on a right heap: what is left is right; what is refused changes nothing; what is done is what the chapter says.
func holdStep(t *testing.T, what string, h impl.Heap, o impl.Op) impl.Heap {
	t.Helper()
	after, a := impl.Apply(h, o)
	if fault := rightFault(after); fault != "" || !impl.HeapOk(after) {
		t.Errorf("%s: %+v answered %+v leaves a heap that is not right (%s):\n%v\n%v", what, o, a, fault, h, after)
	}
	if a.Code != impl.ErOk && (a.Val != 0 || len(a.Freed) != 0 || !alike(after, h)) {
		t.Errorf("%s: %+v is refused with %+v and changes something:\n%v\n%v", what, o, a, h, after)
	}
	code := wantCode(h, o)
	if code < 0 {
		return after
	}
	if a.Code != code {
		t.Errorf("%s: %+v is answered %+v, want code %d", what, o, a, code)
	}
	if code == impl.ErOk && a.Code == code {
		want, val, freed := meaning(h, o)
		told := slices.Sorted(slices.Values(a.Freed))
		if a.Val != val || !slices.Equal(told, slices.Sorted(slices.Values(freed))) || !alike(uncounted(after), uncounted(want)) {
			t.Errorf("%s: %+v is answered %+v, want %d and %v, and leaves\n%v, want\n%v", what, o, a, val, freed, after, want)
		}
	}
	return after
}

// idsAround: what is live in a heap, what was and will be, and what never was an id.
func idsAround(h impl.Heap) []int {
	l := []int{math.MinInt, -2, -1, 0, 7, 8, 7999, 8000, math.MaxInt}
	for slot, o := range h.Objs {
		if o.Gen > 0 {
			l = append(l, slot+8*o.Gen)
		}
	}
	return append(l, 16, 24, 27+1<<32)
}

// operationsFor: each kind there is and some that there are not, with arguments at and behind all edges.
func operationsFor(h impl.Heap) []impl.Op {
	var l []impl.Op
	ids := idsAround(h)
	for kind := -1; kind <= 11; kind++ {
		for _, a := range ids {
			l = append(l, impl.Op{Kind: kind, A: a})
			for b := -1; b <= 3 && kind == impl.OpStore; b++ {
				for _, c := range ids {
					l = append(l, store(a, b, c))
				}
			}
		}
		for _, a := range []int{1, 2, 3, 9} {
			l = append(l, impl.Op{Kind: kind, A: a, B: a, C: a, Site: "new"})
		}
	}
	for _, s := range append([]string{"", "a", "new", "12345678", "123456789", "\u20ac\u20ac\u20ac", "\xff", longText(300)}, h.Sites...) {
		l = append(l, alloc(s), impl.Op{Kind: impl.OpAlloc, A: 8, B: -1, C: 9, Site: s})
	}
	return append(l, impl.Op{Kind: math.MaxInt, A: 8}, impl.Op{Kind: math.MinInt, A: 8}, impl.Op{Kind: 1 + 1<<32, Site: "a"})
}

func TestRightHeapStaysRight(t *testing.T) {
	for name, h := range rightHeaps() {
		for _, o := range operationsFor(h) {
			holdStep(t, name, h, o)
		}
		if t.Failed() {
			return
		}
	}
	for _, row := range rightAtTheLimits() {
		h := baseHeap()
		row.change(&h)
		for _, o := range operationsFor(h) {
			holdStep(t, row.name, h, o)
		}
		if t.Failed() {
			return
		}
	}
}

// someOperation is mostly one that is accepted, sometimes any other.
func someOperation(r *rand.Rand, h impl.Heap) impl.Op {
	ids := idsAround(h)
	if live := impl.LiveIds(h); len(live) > 0 && r.Intn(12) > 0 {
		ids = live
	}
	some := func() int { return ids[r.Intn(len(ids))] }
	switch n := r.Intn(20); {
	case n < 5:
		return alloc(string(rune('a' + r.Intn(7))))
	case n < 8:
		return release(some())
	case n < 10:
		return store(some(), r.Intn(3), -1)
	case n < 17:
		return store(some(), r.Intn(3), some())
	}
	return impl.Op{Kind: r.Intn(14) - 1, A: some(), B: r.Intn(5) - 1, C: some(), Site: "b"}
}

func TestRightHeapStaysRightInLongPlays(t *testing.T) {
	seen := map[int]int{}
	for seed := range 150 {
		r := rand.New(rand.NewSource(int64(seed)))
		h := impl.HeapNew()
		for step := range 150 {
			o := someOperation(r, h)
			_, a := impl.Apply(h, o)
			seen[len(a.Freed)]++
			h = holdStep(t, fmt.Sprintf("play %d, step %d", seed, step), h, o)
			if t.Failed() {
				return
			}
		}
	}
	for freed := 1; freed <= 3; freed++ {
		if seen[freed] == 0 {
			t.Errorf("no play frees %d at once", freed)
		}
	}
}

// Each way to make and lead three objects, short enough to try them all.
func TestRightHeapStaysRightInAllShortPlays(t *testing.T) {
	first, _ := impl.Play([]impl.Op{alloc("a"), alloc("b"), store(8, 0, 9), store(9, 0, 8)})
	ops := []impl.Op{alloc("a"), release(8), release(9), release(10), store(8, 0, -1), store(8, 0, 8), store(8, 1, 9), store(9, 0, 10), store(9, 0, 9), store(10, 0, 8), store(10, 0, -1)}
	var goOn func(h impl.Heap, left int)
	goOn = func(h impl.Heap, left int) {
		for _, o := range ops {
			after := holdStep(t, "short", h, o)
			if left > 1 && !t.Failed() {
				goOn(after, left-1)
			}
		}
	}
	goOn(first, 4)
}

func TestApplyOfHeapsThatAreNotRight(t *testing.T) {
	refuse := func(name string, h impl.Heap) {
		for _, o := range []impl.Op{alloc("a"), alloc(""), release(8), release(27), store(8, 0, 9), store(8, 9, 9), {Kind: impl.OpCollect}, {}} {
			after, a := impl.Apply(h, o)
			if a.Code != impl.ErRange || a.Val != 0 || len(a.Freed) != 0 || !alike(after, h) {
				t.Errorf("%s: %+v is answered %+v and leaves\n%v", name, o, a, after)
			}
		}
	}
	for name, h := range wrongHeaps() {
		refuse(name, h)
	}
	for _, row := range wrongInOneThing() {
		h := baseHeap()
		row.change(&h)
		refuse(row.name, h)
	}
}

func TestApplyOfKindsThatThereAreNot(t *testing.T) {
	for _, kind := range []int{math.MinInt, -3, -1, 0, 11, 12, 1 << 32, 1 + 1<<32, 3 + 1<<32, math.MaxInt} {
		for name, h := range rightHeaps() {
			after, a := impl.Apply(h, impl.Op{Kind: kind, A: 8, C: 8, Site: "a"})
			if a.Code != impl.ErRange || a.Val != 0 || len(a.Freed) != 0 || !alike(after, h) {
				t.Errorf("%s: kind %d is answered %+v", name, kind, a)
			}
		}
	}
}

func TestApplySharesNothing(t *testing.T) {
	for name, h := range allHeaps() {
		for _, o := range []impl.Op{alloc("new"), alloc("a"), alloc(""), release(8), release(16), release(27), store(8, 0, 9), store(8, 2, -1), store(8, 5, 9), store(16, 1, 17), {Kind: 12}} {
			holdUnwritten(t, name, h, func(g impl.Heap) {
				first, a := impl.Apply(g, o)
				second, b := impl.Apply(g, o)
				l := append(heapSpans(g), append(heapSpans(first), append(heapSpans(second), spanOf(a.Freed), spanOf(b.Freed))...)...)
				holdApart(t, fmt.Sprintf("%s, %+v", name, o), l)
			})
		}
	}
}

func TestStoreOfWhatIsThereAlready(t *testing.T) {
	want := purple(baseHeap(), 1)
	got, a := impl.Apply(baseHeap(), store(8, 0, 9))
	if a.Code != impl.ErOk || len(a.Freed) != 0 || !alike(got, want) {
		t.Errorf("the same once more: %+v\n%v, want\n%v", a, got, want)
	}
	// One that only leads to itself is not freed by storing itself where it is, but by anything else there.
	self := heapWith([]string{"a"}, thing{slot: 2, gen: 3, field: [3]int{-1, 26, -1}})
	got, a = impl.Apply(self, store(26, 1, 26))
	if a.Code != impl.ErOk || len(a.Freed) != 0 || !alike(got, purple(heapCopy(self), 2)) {
		t.Errorf("itself: %+v\n%v", a, got)
	}
	got, a = impl.Apply(purple(heapCopy(self), 2), store(26, 1, -1))
	freedSlot(&self, 2)
	if a.Code != impl.ErOk || !slices.Equal(a.Freed, []int{26}) || !alike(got, self) {
		t.Errorf("nothing: %+v\n%v", a, got)
	}
}

func TestReleaseTellsWhatIsFreedInOrder(t *testing.T) {
	h, a := impl.Apply(chainHeap(), release(8))
	if a.Code != impl.ErOk || a.Val != 0 || !slices.Equal(a.Freed, []int{8, 9, 10, 11, 12, 13}) || !slices.Equal(h.Buffer, []int{14}) {
		t.Error("release of a chain", a, h.Buffer)
	}
	h, a = impl.Apply(chainHeap(), store(8, 0, 10))
	if a.Code != impl.ErOk || a.Val != 0 || !slices.Equal(a.Freed, []int{9, 11, 12}) || !slices.Equal(h.Buffer, []int{13}) || h.Objs[2].Count != 2 {
		t.Error("store into a chain", a, h.Buffer)
	}
}

// A slot is used again till its generations are spent; then the next one is.
func TestSlotsAreSpentOneByOne(t *testing.T) {
	h := impl.HeapNew()
	h.Weaks[0] = impl.Weak{Used: true, Target: 8}
	for slot := range 8 {
		for gen := 1; gen <= 999; gen++ {
			made, a := impl.Apply(h, alloc("s"))
			if a.Code != impl.ErOk || a.Val != slot+8*gen || !impl.HeapOk(made) {
				t.Fatalf("slot %d, generation %d: %+v", slot, gen, a)
			}
			h, a = impl.Apply(made, release(a.Val))
			if a.Code != impl.ErOk || !slices.Equal(a.Freed, []int{slot + 8*gen}) {
				t.Fatalf("slot %d, generation %d: released %+v", slot, gen, a)
			}
		}
	}
	after, a := impl.Apply(h, alloc("s"))
	if a.Code != impl.ErFull || !alike(after, h) || !impl.HeapOk(h) {
		t.Error("all spent", a)
	}
	if _, a := impl.Apply(h, alloc("")); a.Code != impl.ErRange {
		t.Error("all spent, an empty name", a)
	}
}

func TestAllocOfNames(t *testing.T) {
	l := []impl.Op{alloc("a"), alloc("b"), alloc("a"), alloc("12345678"), alloc("d"), alloc("e"), alloc("f"), alloc("g"), alloc("b"), alloc("f"), alloc("g")}
	h, answers := impl.Play(l)
	var codes, sites []int
	for _, a := range answers {
		codes = append(codes, a.Code)
	}
	for _, o := range h.Objs {
		sites = append(sites, o.Site)
	}
	if !slices.Equal(codes, []int{0, 0, 0, 0, 0, 0, 0, impl.ErSite, 0, impl.ErFull, impl.ErFull}) || !slices.Equal(sites, []int{0, 1, 0, 2, 3, 4, 5, 1}) {
		t.Error("names", codes, sites)
	}
	if strings.Join(h.Sites, " ") != "a b 12345678 d e f" || !impl.HeapOk(h) {
		t.Error("names", h.Sites)
	}
}

func TestPlayIsApplyOneByOne(t *testing.T) {
	if h, a := impl.Play(nil); !alike(h, emptyHeap()) || len(a) != 0 {
		t.Error("Play of nothing", h, a)
	}
	r := rand.New(rand.NewSource(7))
	h := impl.HeapNew()
	var l []impl.Op
	var heaps []impl.Heap
	var answers []impl.Answer
	for range 402 {
		o := someOperation(r, h)
		next, a := impl.Apply(h, o)
		l, heaps, answers = append(l, o), append(heaps, next), append(answers, a)
		h = next
	}
	for _, n := range []int{1, 2, 50, 399, 400, 401, 402} {
		got, told := impl.Play(l[:n])
		n = min(n, 400)
		if !alike(got, heaps[n-1]) || fmt.Sprint(told) != fmt.Sprint(answers[:n]) {
			t.Errorf("Play of %d operations tells %d answers, or leaves another heap", n, len(told))
		}
	}
	var long []impl.Op
	for gen := 1; gen <= 1000; gen++ {
		long = append(long, alloc("a"), release(8*gen))
	}
	if got, told := impl.Play(long); len(told) != 400 || got.Objs[0].Gen != 200 || told[399].Freed[0] != 1600 {
		t.Error("Play of 2000 operations", len(told), got.Objs[0].Gen)
	}
}

func TestPlaySharesNothing(t *testing.T) {
	l := roomy([]impl.Op{alloc("a"), alloc("b"), store(8, 1, 9), release(9), release(8), alloc("c")}, alloc("behind"))
	before := whole(l)
	h, a := impl.Play(l)
	spans := append(heapSpans(h), spanOf(l), spanOf(a))
	for _, x := range a {
		spans = append(spans, spanOf(x.Freed))
	}
	holdApart(t, "Play", spans)
	if !slices.Equal(whole(l), before) {
		t.Error("Play writes into its operations")
	}
}
