package tests

import (
	"reflect"
	"slices"
	"testing"
	"unsafe"

	"loop.example/g01412/impl"
)

// What the tests of heaps stand on: heaps that are right, what a right heap is (told once more, apart from the program), and whose memory is whose.

// thing is one live object; its counts are worked out when all of a heap are known.
type thing struct {
	slot, gen, site, holds, roots int
	field                         [3]int
}

// emptyHeap is a heap as the document's chapter gives it, made without the program.
func emptyHeap() impl.Heap {
	h := impl.Heap{Objs: make([]impl.Obj, 8), Weaks: make([]impl.Weak, 8)}
	for slot := range h.Objs {
		h.Objs[slot].Field = []int{-1, -1, -1}
	}
	return h
}

func heapWith(sites []string, things ...thing) impl.Heap {
	h := emptyHeap()
	h.Sites = slices.Clone(sites)
	for _, x := range things {
		h.Objs[x.slot] = impl.Obj{Live: true, Gen: x.gen, Site: x.site, Holds: x.holds, Roots: x.roots, Field: slices.Clone(x.field[:])}
	}
	for slot := range h.Objs {
		recount(&h, slot)
	}
	return h
}

func recount(h *impl.Heap, slot int) {
	if o := &h.Objs[slot]; o.Live {
		o.Count = o.Holds + o.Roots + edgesTo(*h, slot+8*o.Gen)
	}
}

func edgesTo(h impl.Heap, id int) int {
	n := 0
	for _, o := range h.Objs {
		for _, f := range o.Field {
			if o.Live && f == id {
				n++
			}
		}
	}
	return n
}

// purple puts what is in these slots into the buffer, in this order.
func purple(h impl.Heap, slots ...int) impl.Heap {
	for _, slot := range slots {
		h.Objs[slot].Purple = true
		h.Buffer = append(h.Buffer, slot+8*h.Objs[slot].Gen)
	}
	return h
}

// rightFault: what keeps a heap from being right, in the words of the chapter; empty where it is right.
func rightFault(h impl.Heap) string {
	if len(h.Objs) != 8 || len(h.Weaks) != 8 || len(h.Sites) > 6 {
		return "how many"
	}
	names := map[string]int{}
	for _, s := range h.Sites {
		names[s]++
		if len(s) == 0 || len(s) > 8 || names[s] > 1 {
			return "names"
		}
	}
	live := map[int]int{}
	for slot, o := range h.Objs {
		if o.Live {
			live[slot+8*o.Gen]++
		}
	}
	waits := map[int]int{}
	for _, id := range h.Buffer {
		waits[id]++
		if live[id] != 1 || waits[id] > 1 {
			return "buffer"
		}
	}
	for slot, o := range h.Objs {
		if o.Gen < 0 || o.Gen > 999 || len(o.Field) != 3 {
			return "object"
		}
		if o.Live && liveFault(h, slot, live, waits) || !o.Live && deadFault(o) {
			return "object"
		}
	}
	for _, w := range h.Weaks {
		if w.Used && (w.Target < 8 || w.Target > 7999) || !w.Used && w.Target != 0 {
			return "handles"
		}
	}
	return ""
}

func deadFault(o impl.Obj) bool {
	return o.Site != 0 || o.Holds != 0 || o.Roots != 0 || o.Count != 0 || o.Purple || !slices.Equal(o.Field, []int{-1, -1, -1})
}

func liveFault(h impl.Heap, slot int, live map[int]int, waits map[int]int) bool {
	o := h.Objs[slot]
	for _, f := range o.Field {
		if f != -1 && live[f] == 0 {
			return true
		}
	}
	id := slot + 8*o.Gen
	return o.Gen < 1 || o.Site < 0 || o.Site >= len(h.Sites) || o.Holds < 0 || o.Holds > 20 || o.Roots < 0 || o.Roots > 20 ||
		o.Count < 1 || o.Count != o.Holds+o.Roots+edgesTo(h, id) || o.Purple != (waits[id] > 0)
}

// baseHeap has something of each kind; it is the one that is made wrong in one thing alone.
func baseHeap() impl.Heap {
	h := emptyHeap()
	h.Sites = []string{"a", "bb"}
	h.Objs[0] = impl.Obj{Live: true, Gen: 1, Site: 0, Holds: 1, Roots: 0, Count: 4, Field: []int{9, -1, 8}}
	h.Objs[1] = impl.Obj{Live: true, Gen: 1, Site: 1, Holds: 0, Roots: 1, Count: 2, Field: []int{8, 8, 27}}
	h.Objs[2].Gen = 5
	h.Objs[3] = impl.Obj{Live: true, Gen: 3, Site: 0, Holds: 2, Roots: 0, Count: 3, Field: []int{-1, -1, -1}, Purple: true}
	h.Objs[7].Gen = 999
	h.Weaks[0] = impl.Weak{Used: true, Target: 9}
	h.Weaks[2] = impl.Weak{Used: true, Target: 42}
	h.Buffer = []int{27}
	return h
}

// fullHeap: all slots live, each of another generation, and each leads to the next two and to itself.
func fullHeap() impl.Heap {
	var l []thing
	for slot := range 8 {
		next, second := (slot+1)%8, (slot+2)%8
		l = append(l, thing{slot: slot, gen: slot + 1, site: slot % 3, holds: slot % 2, field: [3]int{next + 8*(next+1), second + 8*(second+1), slot + 8*(slot+1)}})
	}
	return heapWith([]string{"x", "y", "z"}, l...)
}

// spentHeap: nothing live, and no slot that can be used again.
func spentHeap() impl.Heap {
	h := emptyHeap()
	for slot := range h.Objs {
		h.Objs[slot].Gen = 999
	}
	return h
}

// starHeap: each field there is leads to the one in slot 0.
func starHeap() impl.Heap {
	var l []thing
	for slot := range 8 {
		l = append(l, thing{slot: slot, gen: 2, holds: 1, field: [3]int{16, 16, 16}})
	}
	return heapWith([]string{"star"}, l...)
}

// chainHeap: 8 leads to 9 and 10, and so on; 8 alone is held.
func chainHeap() impl.Heap {
	return heapWith([]string{"c"},
		thing{slot: 0, gen: 1, holds: 1, field: [3]int{9, 10, -1}},
		thing{slot: 1, gen: 1, field: [3]int{11, -1, 12}},
		thing{slot: 2, gen: 1, field: [3]int{-1, 13, -1}},
		thing{slot: 3, gen: 1, field: [3]int{-1, -1, 13}},
		thing{slot: 4, gen: 1, field: [3]int{-1, -1, -1}},
		thing{slot: 5, gen: 1, field: [3]int{14, -1, -1}},
		thing{slot: 6, gen: 1, roots: 1, field: [3]int{-1, -1, -1}})
}

// edgeHeap: all that has a limit stands at it.
func edgeHeap() impl.Heap {
	h := heapWith([]string{"12345678", "\xff\x00\xff\x00\xff\x00\xff\x00", "n", "\x00", " ", "\u20ac\u20ac"},
		thing{slot: 0, gen: 999, site: 5, holds: 20, roots: 20, field: [3]int{7992, 7992, 7992}},
		thing{slot: 7, gen: 999, site: 0, roots: 20, field: [3]int{-1, 7992, -1}},
		thing{slot: 6, gen: 1, site: 4, holds: 20, field: [3]int{7999, -1, 14}})
	h.Objs[3].Gen = 998
	h.Objs[4].Gen = 999
	for i := range h.Weaks {
		h.Weaks[i] = impl.Weak{Used: true, Target: []int{8, 7999, 7992, 14, 22, 8, 7998, 9}[i]}
	}
	return h
}

// leakHeap: what nothing holds, and counts cannot free: a ring of two, one that leads to itself, and one that hangs on them.
func leakHeap() impl.Heap {
	return heapWith([]string{"l"},
		thing{slot: 0, gen: 4, field: [3]int{33, -1, -1}},
		thing{slot: 1, gen: 4, field: [3]int{-1, 32, 35}},
		thing{slot: 2, gen: 1, field: [3]int{10, 10, 10}},
		thing{slot: 3, gen: 4, field: [3]int{-1, -1, -1}})
}

// oneListHeap: the fields of all objects and the buffer are one list.
func oneListHeap() impl.Heap {
	h := fullHeap()
	for slot := range h.Objs {
		h.Objs[slot].Field = h.Objs[0].Field
	}
	h.Buffer = h.Objs[0].Field
	return h
}

func rightHeaps() map[string]impl.Heap {
	again := heapWith([]string{"a"}, thing{slot: 0, gen: 2, holds: 1, field: [3]int{-1, -1, -1}})
	again.Weaks[0] = impl.Weak{Used: true, Target: 8}
	again.Weaks[1] = impl.Weak{Used: true, Target: 16}
	names := emptyHeap()
	names.Sites = []string{"a", "b", "c", "d", "e", "f"}
	return map[string]impl.Heap{
		"new":         emptyHeap(),
		"base":        baseHeap(),
		"full":        fullHeap(),
		"all purple":  purple(fullHeap(), 6, 1, 0, 7, 2, 5, 3, 4),
		"spent":       spentHeap(),
		"star":        starHeap(),
		"chain":       chainHeap(),
		"edge":        edgeHeap(),
		"leak":        leakHeap(),
		"purple leak": purple(leakHeap(), 1, 2),
		"used again":  again,
		"six names":   names,
	}
}

// wrongHeaps: whatever is handed in, a function answers; so these stand beside the right ones.
func wrongHeaps() map[string]impl.Heap {
	few := baseHeap()
	few.Objs = few.Objs[:4]
	many := baseHeap()
	many.Objs = append(many.Objs, many.Objs...)
	odd := baseHeap()
	odd.Objs[0].Field = nil
	odd.Objs[1].Field = []int{8, 8, 8, 8, 27, 1 << 62, -1 << 63}
	odd.Objs[2].Field = []int{8}
	odd.Objs[3].Gen = 1 << 60
	odd.Objs[4] = impl.Obj{Live: true, Gen: -3, Count: -1 << 63}
	odd.Objs[5] = impl.Obj{Live: true, Gen: 0, Count: 1<<63 - 1}
	odd.Buffer = []int{27, 27, -1, 1 << 40, 0, 8, 8, 8, 8, 8, 8}
	odd.Weaks = odd.Weaks[:3]
	odd.Sites = []string{"", "", longText(300)}
	return map[string]impl.Heap{"zero": {}, "few": few, "many": many, "odd": odd, "names alone": {Sites: []string{"a"}}, "objects alone": {Objs: make([]impl.Obj, 8)}}
}

func allHeaps() map[string]impl.Heap {
	all := rightHeaps()
	for name, h := range wrongHeaps() {
		all["wrong: "+name] = h
	}
	return all
}

// heapCopy is the heap in memory of its own, each list with room for some more behind it, in which something stands.
func heapCopy(h impl.Heap) impl.Heap {
	c := impl.Heap{Objs: roomy(h.Objs, impl.Obj{Gen: 77}), Weaks: roomy(h.Weaks, impl.Weak{Target: 77}), Buffer: roomy(h.Buffer, 77), Sites: roomy(h.Sites, "behind")}
	whole := c.Objs[:cap(c.Objs)]
	for i := range whole {
		whole[i].Field = roomy(whole[i].Field, 77)
	}
	return c
}

func roomy[T any](l []T, behind T) []T {
	room := slices.Grow(slices.Clone(l), 3)
	whole := room[:cap(room)]
	for i := len(l); i < len(whole); i++ {
		whole[i] = behind
	}
	return room
}

// wholeHeap is all that the lists of a heap have, what stands behind them too, in new memory.
func wholeHeap(h impl.Heap) impl.Heap {
	w := impl.Heap{Objs: whole(h.Objs), Weaks: whole(h.Weaks), Buffer: whole(h.Buffer), Sites: whole(h.Sites)}
	for i := range w.Objs {
		w.Objs[i].Field = whole(w.Objs[i].Field)
	}
	return w
}

func whole[T any](l []T) []T {
	return append([]T{}, l[:cap(l)]...)
}

// alike is asked of heaps in which an empty list and nil are the same.
func alike(a impl.Heap, b impl.Heap) bool {
	return reflect.DeepEqual(plain(a), plain(b))
}

func plain(h impl.Heap) impl.Heap {
	p := impl.Heap{Objs: append([]impl.Obj{}, h.Objs...), Weaks: append([]impl.Weak{}, h.Weaks...), Buffer: append([]int{}, h.Buffer...), Sites: append([]string{}, h.Sites...)}
	for i := range p.Objs {
		p.Objs[i].Field = append([]int{}, p.Objs[i].Field...)
	}
	return p
}

// span is the memory of one list, what is spare in it too.
type span struct{ from, to uintptr }

func spanOf[T any](l []T) span {
	var one T
	from := uintptr(unsafe.Pointer(unsafe.SliceData(l)))
	return span{from, from + uintptr(cap(l))*unsafe.Sizeof(one)}
}

func heapSpans(h impl.Heap) []span {
	l := []span{spanOf(h.Objs), spanOf(h.Weaks), spanOf(h.Buffer), spanOf(h.Sites)}
	for _, o := range h.Objs[:cap(h.Objs)] {
		l = append(l, spanOf(o.Field))
	}
	return l
}

// holdApart: no two of these lists share memory.
func holdApart(t *testing.T, what string, l []span) {
	t.Helper()
	l = slices.DeleteFunc(slices.Clone(l), func(s span) bool { return s.from == s.to })
	slices.SortFunc(l, func(a, b span) int {
		if a.from < b.from {
			return -1
		}
		return 1
	})
	for i := 1; i < len(l); i++ {
		if l[i].from < l[i-1].to {
			t.Errorf("%s: two lists share memory", what)
			return
		}
	}
}

// holdUnwritten runs do with a copy of the heap, and asks whether anything was written into it or behind it.
func holdUnwritten(t *testing.T, what string, h impl.Heap, do func(impl.Heap)) {
	t.Helper()
	given := heapCopy(h)
	before := wholeHeap(given)
	do(given)
	if !reflect.DeepEqual(before, wholeHeap(given)) {
		t.Errorf("%s: the heap that was handed in is written into", what)
	}
}
