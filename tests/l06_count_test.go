package tests

import (
	"fmt"
	"math"
	"reflect"
	"slices"
	"testing"

	"loop.example/g01412/impl"
)

var (
	_ func(impl.Heap, int) impl.Heap            = impl.Gain
	_ func(impl.Heap, []int) (impl.Heap, []int) = impl.Lose
)

func TestGainCountsOneMore(t *testing.T) {
	for name, h := range rightHeaps() {
		for slot, o := range h.Objs {
			id := slot + 8*o.Gen
			want := heapCopy(h)
			if o.Live {
				want.Objs[slot].Count++
			}
			if got := impl.Gain(h, id); !alike(got, want) {
				t.Errorf("%s: Gain(%d) = %v", name, id, got)
			}
			for _, none := range []int{slot, slot - 8, id + 8, id + 1<<32, -id, math.MaxInt, math.MinInt} {
				if got := impl.Gain(h, none); !alike(got, h) {
					t.Errorf("%s: Gain(%d) = %v", name, none, got)
				}
			}
		}
	}
}

// freedSlot puts down what a heap has where this slot is freed.
func freedSlot(h *impl.Heap, slot int) {
	h.Objs[slot] = impl.Obj{Gen: h.Objs[slot].Gen, Field: []int{-1, -1, -1}}
}

func holdLose(t *testing.T, what string, h impl.Heap, ids []int, freed []int, change func(h *impl.Heap)) {
	t.Helper()
	want := heapCopy(h)
	change(&want)
	got, told := impl.Lose(h, ids)
	if !slices.Equal(told, freed) {
		t.Errorf("%s: Lose(%v) frees %v, want %v", what, ids, told, freed)
	}
	if !alike(got, want) {
		t.Errorf("%s: Lose(%v) leaves\n%v, want\n%v", what, ids, got, want)
	}
}

func TestLoseOfWhatIsStillCounted(t *testing.T) {
	h := fullHeap()
	holdLose(t, "nothing", h, nil, nil, func(h *impl.Heap) {})
	holdLose(t, "no id", h, []int{-1, 0, 7, 16, math.MaxInt, math.MinInt}, nil, func(h *impl.Heap) {})
	holdLose(t, "one", h, []int{17}, nil, func(h *impl.Heap) {
		h.Objs[1].Count--
		*h = purple(*h, 1)
	})
	holdLose(t, "three, one of them twice", h, []int{71, 8, 5, 71, 26}, nil, func(h *impl.Heap) {
		h.Objs[7].Count -= 2
		h.Objs[0].Count--
		h.Objs[2].Count--
		*h = purple(*h, 7, 0, 2)
	})
	holdLose(t, "one that is in the buffer", purple(fullHeap(), 3, 1), []int{17, 8}, nil, func(h *impl.Heap) {
		h.Objs[1].Count--
		h.Objs[0].Count--
		*h = purple(*h, 0)
	})
}

// What a freed one leads to waits behind all that wait: 12, which 9 leads to, goes behind 10.
func TestLoseInOrder(t *testing.T) {
	h := chainHeap()
	after := func(h *impl.Heap) {
		for slot := range 6 {
			freedSlot(h, slot)
		}
		h.Objs[6].Count--
		*h = purple(*h, 6)
	}
	holdLose(t, "a chain", h, []int{8}, []int{8, 9, 10, 11, 12, 13}, func(h *impl.Heap) { after(h); h.Buffer = []int{14} })
	h.Weaks[3] = impl.Weak{Used: true, Target: 8}
	holdLose(t, "a handle stays", h, []int{8, 8, 16}, []int{8, 9, 10, 11, 12, 13}, after)
	// 13 is still led to when 10 has gone: it is purple, but not behind its end.
	holdLose(t, "10 ahead", chainHeap(), []int{10, 8}, []int{10, 8, 9, 11, 12, 13}, func(h *impl.Heap) { after(h); h.Buffer = []int{14} })
	holdLose(t, "what waits and is handed in", chainHeap(), []int{10}, []int{10}, func(h *impl.Heap) {
		freedSlot(h, 2)
		h.Objs[5].Count--
		*h = purple(*h, 5)
	})
}

func TestLoseTakesOutOfTheBuffer(t *testing.T) {
	h := purple(chainHeap(), 5, 1, 6, 0, 4)
	holdLose(t, "a chain in the buffer", h, []int{8}, []int{8, 9, 10, 11, 12, 13}, func(h *impl.Heap) {
		for slot := range 6 {
			freedSlot(h, slot)
		}
		h.Objs[6].Count--
		h.Buffer = []int{14}
	})
	h = purple(heapWith([]string{"a"}, thing{slot: 0, gen: 999, holds: 1, field: [3]int{-1, -1, -1}}, thing{slot: 4, gen: 2, holds: 2, field: [3]int{-1, -1, -1}}), 4, 0)
	holdLose(t, "the last generation", h, []int{7992, 20}, []int{7992}, func(h *impl.Heap) {
		freedSlot(h, 0)
		h.Objs[4].Count--
		h.Buffer = []int{20}
	})
}

func TestLoseOfAllThatIsLive(t *testing.T) {
	var l []thing
	for slot := range 8 {
		next := slot + 9
		if slot == 7 {
			next = -1
		}
		l = append(l, thing{slot: slot, gen: 1, holds: 1 - min(slot, 1), field: [3]int{-1, next, -1}})
	}
	holdLose(t, "eight in a row", heapWith([]string{"a"}, l...), []int{8}, []int{8, 9, 10, 11, 12, 13, 14, 15}, func(h *impl.Heap) {
		for slot := range 8 {
			freedSlot(h, slot)
		}
	})
	ids := slices.Repeat([]int{15, 3, 8}, 2000)
	holdLose(t, "many ids", impl.HeapNew(), ids, nil, func(h *impl.Heap) {})
}

// Counts that do not fit what there is are taken as they stand.
func TestLoseInWrongHeaps(t *testing.T) {
	for _, count := range []int{1, 0, -1, -100, math.MinInt} {
		h := baseHeap()
		h.Objs[3].Count = count
		h.Objs[3].Field = []int{27, -5, 8, 9}
		holdLose(t, fmt.Sprint("count ", count), h, []int{27, 27}, []int{27}, func(h *impl.Heap) {
			freedSlot(h, 3)
			h.Objs[0].Count--
			h.Objs[1].Count--
			h.Buffer = nil
			*h = purple(*h, 0, 1)
		})
	}
	for _, n := range []int{0, 7, 9} {
		h := starHeap()
		h.Objs = append(h.Objs, h.Objs[0])[:n]
		holdLose(t, fmt.Sprint(n, " objects"), h, []int{16, 17, 8}, nil, func(h *impl.Heap) {})
		if got := impl.Gain(h, 16); !alike(got, h) {
			t.Errorf("%d objects: Gain changes something", n)
		}
	}
	h := baseHeap()
	h.Buffer = []int{9, 8, 9, 27, 9}
	h.Objs[1].Count = 1
	h.Objs[1].Field = nil
	holdLose(t, "twice in the buffer", h, []int{9}, []int{9}, func(h *impl.Heap) {
		freedSlot(h, 1)
		h.Buffer = []int{8, 27}
	})
}

func TestGainAndLoseShareNothing(t *testing.T) {
	for name, h := range allHeaps() {
		ids := roomy([]int{8, 9, 27, 16, 8, 32, -1}, 77)
		all := whole(ids)
		holdUnwritten(t, name, h, func(g impl.Heap) {
			more := impl.Gain(g, 8)
			less, freed := impl.Lose(g, ids)
			l := append(heapSpans(g), append(heapSpans(more), append(heapSpans(less), spanOf(ids), spanOf(freed))...)...)
			holdApart(t, name, l)
		})
		if !reflect.DeepEqual(whole(ids), all) {
			t.Errorf("%s: Lose writes into its ids", name)
		}
	}
}
