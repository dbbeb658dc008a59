package tests

import (
	"fmt"
	"math"
	"math/rand"
	"reflect"
	"slices"
	"testing"

	"loop.example/g01412/impl"
)

var (
	_ func(impl.Heap, int) impl.Heap            = impl.Gain
	_ func(impl.Heap, []int) (impl.Heap, []int) = impl.Lose
	_ func(impl.Heap) bool                      = impl.Counted
)

// playedHeaps are right heaps out of plays, besides those that are written down, and the ones at the limits.
func playedHeaps() map[string]impl.Heap {
	all := rightHeaps()
	for _, row := range rightAtTheLimits() {
		h := baseHeap()
		row.change(&h)
		all["limit: "+row.name] = h
	}
	for seed := range 40 {
		r := rand.New(rand.NewSource(int64(seed)))
		h := impl.HeapNew()
		for step := range 60 {
			h, _ = impl.Apply(h, someOperation(r, h))
			if step%10 == 9 {
				all[fmt.Sprintf("play %d, step %d", seed, step)] = h
			}
		}
	}
	return all
}

// Promise 6: to gain and to lose again leaves the count as it was; all else too, but that it is purple now.
func TestGainAndLoseAgain(t *testing.T) {
	asked := 0
	for name, h := range playedHeaps() {
		for slot, o := range h.Objs {
			if !o.Live {
				continue
			}
			asked++
			id := slot + 8*o.Gen
			want := heapCopy(h)
			if !o.Purple {
				want = purple(want, slot)
			}
			more := impl.Gain(h, id)
			got, freed := impl.Lose(more, []int{id})
			if got.Objs[slot].Count != o.Count || len(freed) != 0 || !alike(got, want) {
				t.Errorf("%s: %d gains and loses: %v\n%v, want\n%v", name, id, freed, got, want)
			}
			if impl.Counted(more) || !impl.Counted(got) || !impl.HeapOk(got) {
				t.Errorf("%s: %d: counted %v between, %v behind, right %v", name, id, impl.Counted(more), impl.Counted(got), impl.HeapOk(got))
			}
			for range 30 {
				more = impl.Gain(more, id)
			}
			got, freed = impl.Lose(more, slices.Repeat([]int{id}, 31))
			if len(freed) != 0 || !alike(got, want) {
				t.Errorf("%s: %d gains and loses 31 times: %v\n%v, want\n%v", name, id, freed, got, want)
			}
		}
	}
	if asked < 500 {
		t.Errorf("only %d live objects were asked", asked)
	}
}

// Promise 6, its second half.
func TestInEdgesIsWhatCountHasBesides(t *testing.T) {
	for name, h := range playedHeaps() {
		for slot, o := range h.Objs {
			if got := impl.InEdges(h, slot); o.Live && got != o.Count-o.Holds-o.Roots || !o.Live && got != 0 {
				t.Errorf("%s: InEdges(%d) = %d beside %+v", name, slot, got, o)
			}
		}
	}
}

func TestGainCountsOneMore(t *testing.T) {
	for name, h := range rightHeaps() {
		for slot, o := range h.Objs {
			id := slot + 8*o.Gen
			want := heapCopy(h)
			if o.Live {
				want.Objs[slot].Count++
			}
			if got := impl.Gain(h, id); !alike(got, want) {
				t.Errorf("%s: Gain(%d) = %v", name, id, got)
			}
			for _, none := range []int{slot, slot - 8, id - 8, id + 8, id + 1<<32, -id, math.MaxInt, math.MinInt} {
				if got := impl.Gain(h, none); !alike(got, h) {
					t.Errorf("%s: Gain(%d) = %v", name, none, got)
				}
			}
		}
	}
}

func TestGainAtAnyCount(t *testing.T) {
	for _, count := range []int{math.MinInt, -100, -2, -1, 0, 1, 20, 21, 64, math.MaxInt - 1, math.MaxInt} {
		h := baseHeap()
		h.Objs[3].Count = count
		want := heapCopy(h)
		want.Objs[3].Count = count + 1 // numbers are of 64 bits: behind the greatest stands the least
		if got := impl.Gain(h, 27); !alike(got, want) {
			t.Errorf("count %d: Gain leaves %d", count, got.Objs[3].Count)
		}
	}
}

func TestGainOfASlotThatIsUsedAgain(t *testing.T) {
	h, _ := impl.Play([]impl.Op{alloc("a"), release(8), alloc("a"), alloc("b"), release(9), alloc("c"), alloc("d"), release(10)})
	for id, slot := range map[int]int{16: 0, 17: 1, 8: -1, 9: -1, 10: -1, 18: -1, 24: -1} {
		want := heapCopy(h)
		if slot >= 0 {
			want.Objs[slot].Count++
		}
		if got := impl.Gain(h, id); !alike(got, want) {
			t.Errorf("Gain(%d) = %v", id, got)
		}
		if got, freed := impl.Lose(h, []int{id}); slot < 0 && (len(freed) != 0 || !alike(got, h)) || slot >= 0 && !slices.Equal(freed, []int{id}) {
			t.Errorf("Lose(%d) frees %v and leaves %v", id, freed, got)
		}
	}
}

// freedSlot puts down what a heap has where this slot is freed.
func freedSlot(h *impl.Heap, slot int) {
	h.Objs[slot] = impl.Obj{Gen: h.Objs[slot].Gen, Field: []int{-1, -1, -1}}
}

func holdLose(t *testing.T, what string, h impl.Heap, ids []int, freed []int, change func(h *impl.Heap)) {
	t.Helper()
	want := heapCopy(h)
	change(&want)
	got, told := impl.Lose(h, ids)
	if !slices.Equal(told, freed) {
		t.Errorf("%s: Lose(%v) frees %v, want %v", what, ids, told, freed)
	}
	if !alike(got, want) {
		t.Errorf("%s: Lose(%v) leaves\n%v, want\n%v", what, ids, got, want)
	}
}

func TestLoseOfWhatIsStillCounted(t *testing.T) {
	h := fullHeap()
	holdLose(t, "nothing", h, nil, nil, func(h *impl.Heap) {})
	holdLose(t, "no id", h, []int{-1, 0, 7, 16, math.MaxInt, math.MinInt}, nil, func(h *impl.Heap) {})
	holdLose(t, "one", h, []int{17}, nil, func(h *impl.Heap) {
		h.Objs[1].Count--
		*h = purple(*h, 1)
	})
	holdLose(t, "three, one of them twice", h, []int{71, 8, 5, 71, 26}, nil, func(h *impl.Heap) {
		h.Objs[7].Count -= 2
		h.Objs[0].Count--
		h.Objs[2].Count--
		*h = purple(*h, 7, 0, 2)
	})
	holdLose(t, "one that is in the buffer", purple(fullHeap(), 3, 1), []int{17, 8}, nil, func(h *impl.Heap) {
		h.Objs[1].Count--
		h.Objs[0].Count--
		*h = purple(*h, 0)
	})
}

// What a freed one leads to waits behind all that wait: 12, which 9 leads to, goes behind 10.
func TestLoseInOrder(t *testing.T) {
	h := chainHeap()
	after := func(h *impl.Heap) {
		for slot := range 6 {
			freedSlot(h, slot)
		}
		h.Objs[6].Count--
		*h = purple(*h, 6)
	}
	holdLose(t, "a chain", h, []int{8}, []int{8, 9, 10, 11, 12, 13}, func(h *impl.Heap) { after(h); h.Buffer = []int{14} })
	h.Weaks[3] = impl.Weak{Used: true, Target: 8}
	holdLose(t, "a handle stays", h, []int{8, 8, 16}, []int{8, 9, 10, 11, 12, 13}, after)
	// 13 is still led to when 10 has gone: it is purple, but not behind its end.
	holdLose(t, "10 ahead", chainHeap(), []int{10, 8}, []int{10, 8, 9, 11, 12, 13}, func(h *impl.Heap) { after(h); h.Buffer = []int{14} })
	holdLose(t, "what waits and is handed in", chainHeap(), []int{10}, []int{10}, func(h *impl.Heap) {
		freedSlot(h, 2)
		h.Objs[5].Count--
		*h = purple(*h, 5)
	})
}

func TestLoseTakesOutOfTheBuffer(t *testing.T) {
	h := purple(chainHeap(), 5, 1, 6, 0, 4)
	holdLose(t, "a chain in the buffer", h, []int{8}, []int{8, 9, 10, 11, 12, 13}, func(h *impl.Heap) {
		for slot := range 6 {
			freedSlot(h, slot)
		}
		h.Objs[6].Count--
		h.Buffer = []int{14}
	})
	h = purple(heapWith([]string{"a"}, thing{slot: 0, gen: 999, holds: 1, field: [3]int{-1, -1, -1}}, thing{slot: 4, gen: 2, holds: 2, field: [3]int{-1, -1, -1}}), 4, 0)
	holdLose(t, "the last generation", h, []int{7992, 20}, []int{7992}, func(h *impl.Heap) {
		freedSlot(h, 0)
		h.Objs[4].Count--
		h.Buffer = []int{20}
	})
}

func TestLoseOfAllThatIsLive(t *testing.T) {
	var l []thing
	for slot := range 8 {
		next := slot + 9
		if slot == 7 {
			next = -1
		}
		l = append(l, thing{slot: slot, gen: 1, holds: 1 - min(slot, 1), field: [3]int{-1, next, -1}})
	}
	holdLose(t, "eight in a row", heapWith([]string{"a"}, l...), []int{8}, []int{8, 9, 10, 11, 12, 13, 14, 15}, func(h *impl.Heap) {
		for slot := range 8 {
			freedSlot(h, slot)
		}
	})
	ids := slices.Repeat([]int{15, 3, 8}, 2000)
	holdLose(t, "many ids", impl.HeapNew(), ids, nil, func(h *impl.Heap) {})
}

// Counts that do not fit what there is are taken as they stand.
func TestLoseInWrongHeaps(t *testing.T) {
	for _, count := range []int{1, 0, -1, -100, math.MinInt + 1} {
		h := baseHeap()
		h.Objs[3].Count = count
		h.Objs[3].Field = []int{27, -5, 8, 9}
		holdLose(t, fmt.Sprint("count ", count), h, []int{27, 27}, []int{27}, func(h *impl.Heap) {
			freedSlot(h, 3)
			h.Objs[0].Count--
			h.Objs[1].Count--
			h.Buffer = nil
			*h = purple(*h, 0, 1)
		})
	}
	for _, n := range []int{0, 7, 9} {
		h := starHeap()
		h.Objs = append(h.Objs, h.Objs[0])[:n]
		holdLose(t, fmt.Sprint(n, " objects"), h, []int{16, 17, 8}, nil, func(h *impl.Heap) {})
		if got := impl.Gain(h, 16); !alike(got, h) {
			t.Errorf("%d objects: Gain changes something", n)
		}
	}
	h := baseHeap()
	h.Buffer = []int{9, 8, 9, 27, 9}
	h.Objs[1].Count = 1
	h.Objs[1].Field = nil
	holdLose(t, "twice in the buffer", h, []int{9}, []int{9}, func(h *impl.Heap) {
		freedSlot(h, 1)
		h.Buffer = []int{8, 27}
	})
}

// Purple says whether the id is put into the buffer, whatever stands there.
func TestLoseOfPurpleAndBufferThatDoNotFit(t *testing.T) {
	h := baseHeap()
	h.Buffer = []int{8, 27, 8}
	holdLose(t, "in the buffer, and not purple", h, []int{8, 8}, nil, func(h *impl.Heap) {
		h.Objs[0].Count -= 2
		h.Objs[0].Purple = true
		h.Buffer = []int{8, 27, 8, 8}
	})
	h = baseHeap()
	h.Buffer = nil
	holdLose(t, "purple, and not in the buffer", h, []int{27}, nil, func(h *impl.Heap) { h.Objs[3].Count-- })
	// It is gone from the buffer once it is freed, though it was put there on the way.
	holdLose(t, "till it is freed", h, []int{9, 9}, []int{9}, func(h *impl.Heap) {
		freedSlot(h, 1)
		h.Objs[0].Count -= 2
		h.Objs[3].Count--
		h.Objs[0].Purple = true
		h.Buffer = []int{8}
	})
	h = baseHeap()
	h.Objs[3].Count = math.MinInt
	holdLose(t, "the least count", h, []int{27}, nil, func(h *impl.Heap) { h.Objs[3].Count = math.MaxInt })
}

// Two fields that lead to one: it loses once for each.
func TestLoseOfWhatTwoFieldsLeadTo(t *testing.T) {
	pair := func(count int) impl.Heap {
		return heapWith([]string{"a"}, thing{slot: 0, gen: 1, holds: 1, field: [3]int{9, -1, 9}}, thing{slot: 1, gen: 1, holds: count - 2, field: [3]int{-1, -1, -1}})
	}
	holdLose(t, "by both fields alone", pair(2), []int{8}, []int{8, 9}, func(h *impl.Heap) { freedSlot(h, 0); freedSlot(h, 1) })
	holdLose(t, "and held", pair(3), []int{8}, []int{8}, func(h *impl.Heap) {
		freedSlot(h, 0)
		h.Objs[1].Count = 1
		*h = purple(*h, 1)
	})
	holdLose(t, "by both, and purple", purple(pair(2), 1), []int{8}, []int{8, 9}, func(h *impl.Heap) {
		freedSlot(h, 0)
		freedSlot(h, 1)
		h.Buffer = nil
	})
	// What the second one leads to waits behind the second time that the first one's fields name it.
	h := heapWith([]string{"a"},
		thing{slot: 0, gen: 1, holds: 1, field: [3]int{9, 9, 10}},
		thing{slot: 1, gen: 1, field: [3]int{11, 11, 11}},
		thing{slot: 2, gen: 1, field: [3]int{11, -1, 12}},
		thing{slot: 3, gen: 1, field: [3]int{-1, 12, -1}},
		thing{slot: 4, gen: 1, field: [3]int{-1, -1, -1}})
	holdLose(t, "two, and three", h, []int{8}, []int{8, 9, 10, 11, 12}, func(h *impl.Heap) {
		for slot := range 5 {
			freedSlot(h, slot)
		}
	})
}

func TestLoseOfWhatLeadsToItself(t *testing.T) {
	self := heapWith([]string{"a"}, thing{slot: 2, gen: 1, holds: 1, field: [3]int{10, -1, 10}})
	holdLose(t, "held", self, []int{10}, nil, func(h *impl.Heap) {
		h.Objs[2].Count = 2
		*h = purple(*h, 2)
	})
	// Once its count is 0 it is freed, and then nobody has the id that still waits.
	holdLose(t, "as often as it is counted", self, []int{10, 10, 10, 10}, []int{10}, func(h *impl.Heap) { freedSlot(h, 2) })
	ring := heapWith([]string{"a"},
		thing{slot: 0, gen: 1, holds: 1, field: [3]int{9, -1, -1}},
		thing{slot: 1, gen: 1, field: [3]int{-1, 10, -1}},
		thing{slot: 2, gen: 1, field: [3]int{-1, -1, 8}})
	holdLose(t, "a ring", ring, []int{8}, nil, func(h *impl.Heap) {
		h.Objs[0].Count = 1
		*h = purple(*h, 0)
	})
	holdLose(t, "a ring that is lost at one place", ring, []int{9}, []int{9, 10}, func(h *impl.Heap) {
		freedSlot(h, 1)
		freedSlot(h, 2)
		h.Objs[0].Count = 1
		*h = purple(*h, 0)
	})
	holdLose(t, "a ring that is lost twice", ring, []int{8, 8}, []int{8, 9, 10}, func(h *impl.Heap) {
		for slot := range 3 {
			freedSlot(h, slot)
		}
	})
}

// All that is live can be freed, and no more: whatever is named then, nobody has it.
func TestLoseOfMoreThanThereIs(t *testing.T) {
	h := fullHeap()
	all := impl.LiveIds(h)
	for slot := range h.Objs {
		h.Objs[slot].Count = 1 - slot
		h.Objs[slot].Field = slices.Repeat(all, 3)
	}
	free := func(h *impl.Heap) {
		for slot := range h.Objs {
			freedSlot(h, slot)
		}
	}
	holdLose(t, "one leads to all", h, []int{35}, append([]int{35}, slices.DeleteFunc(slices.Clone(all), func(id int) bool { return id == 35 })...), free)
	holdLose(t, "all, three times", h, slices.Repeat(all, 3), all, free)
	holdLose(t, "all and those that will be", h, append(slices.Clone(all), 16, 25, 34, 43, 52, 61, 70, 79, 8), all, free)
}

// wornHeap is any heap: what it counts fits nothing, and it may have too few or too many of all.
func wornHeap(r *rand.Rand) impl.Heap {
	h := emptyHeap()
	for slot := range h.Objs {
		if r.Intn(5) > 0 {
			h.Objs[slot] = impl.Obj{Live: r.Intn(6) > 0, Gen: r.Intn(4), Holds: r.Intn(3), Roots: r.Intn(2), Count: r.Intn(5) - 1, Purple: r.Intn(3) == 0}
		}
	}
	for slot := range h.Objs {
		h.Objs[slot].Field = someIds(r, h, 5)
	}
	h.Buffer = someIds(r, h, 6)
	switch r.Intn(12) {
	case 0:
		h.Objs = h.Objs[:r.Intn(8)]
	case 1:
		h.Objs = append(h.Objs, h.Objs[r.Intn(8)])
	}
	return h
}

// someIds are mostly of what is in the slots, now and then anything else.
func someIds(r *rand.Rand, h impl.Heap, below int) []int {
	var ids []int
	for range r.Intn(below) {
		id := r.Intn(44) - 8
		if slot := r.Intn(8); r.Intn(4) > 0 && slot < len(h.Objs) {
			id = slot + 8*h.Objs[slot].Gen
		}
		ids = append(ids, id)
	}
	return ids
}

// placeOf is SlotOf, told once more.
func placeOf(h impl.Heap, id int) int {
	if len(h.Objs) != 8 || id < 8 || !h.Objs[id%8].Live || h.Objs[id%8].Gen != id/8 {
		return -1
	}
	return id % 8
}

// loseTold is Lose as the chapter tells it, once more: a list that grows while it is gone through.
func loseTold(h impl.Heap, ids []int) (impl.Heap, []int) {
	h = plain(h)
	var freed []int
	wait := slices.Clone(ids)
	for i := 0; i < len(wait) && len(freed) <= 8; i++ {
		slot := placeOf(h, wait[i])
		if slot < 0 {
			continue
		}
		was := h.Objs[slot]
		h.Objs[slot].Count--
		if h.Objs[slot].Count > 0 {
			h.Objs[slot].Purple = true
			if !was.Purple {
				h.Buffer = append(h.Buffer, wait[i])
			}
			continue
		}
		freed = append(freed, wait[i])
		h.Buffer = slices.DeleteFunc(h.Buffer, func(id int) bool { return id == wait[i] })
		freedSlot(&h, slot)
		for _, f := range was.Field {
			if f >= 0 {
				wait = append(wait, f)
			}
		}
	}
	return h, freed
}

// countedTold: what leads to an object is looked for from where it leads, not from where it comes.
func countedTold(h impl.Heap) bool {
	led := map[int]int{}
	for _, o := range h.Objs {
		for _, f := range o.Field {
			if o.Live {
				led[f]++
			}
		}
	}
	for slot, o := range h.Objs {
		made := o.Holds + o.Roots
		if slot < 8 {
			made += led[impl.IdOf(slot, o.Gen)]
		}
		if o.Live && o.Count != made {
			return false
		}
	}
	return true
}

func TestAnyHeapGainsAndLosesAsTold(t *testing.T) {
	seen := map[int]int{}
	for seed := range 3000 {
		r := rand.New(rand.NewSource(int64(seed)))
		h := wornHeap(r)
		ids := someIds(r, h, 9)
		want, freed := loseTold(h, ids)
		seen[len(freed)]++
		holdLose(t, fmt.Sprint("heap ", seed), h, ids, freed, func(h *impl.Heap) { *h = want })
		for id := -9; id < 50; id++ {
			more := heapCopy(h)
			if slot := placeOf(h, id); slot >= 0 {
				more.Objs[slot].Count++
			}
			if got := impl.Gain(h, id); !alike(got, more) {
				t.Errorf("heap %d: Gain(%d) of\n%v leaves\n%v", seed, id, h, got)
			}
		}
		if got := impl.Counted(h); got != countedTold(h) {
			t.Errorf("heap %d: Counted(%v) = %v", seed, h, got)
		}
		if t.Failed() {
			return
		}
	}
	for freed := range 7 {
		if seen[freed] == 0 {
			t.Errorf("no heap frees %d", freed)
		}
	}
}

func holdCounted(t *testing.T, what string, h impl.Heap, want bool) {
	t.Helper()
	if got := impl.Counted(h); got != want || countedTold(h) != want {
		t.Errorf("%s: Counted says %v, want %v", what, got, want)
	}
}

// A right heap is counted; where one count, hold, root or field alone is another one, it is not.
func TestCountedOfRightHeaps(t *testing.T) {
	for name, h := range playedHeaps() {
		holdCounted(t, name, h, true)
		for slot, o := range h.Objs {
			for _, n := range []int{-1, 1, -o.Count, 1 << 32, math.MinInt} {
				for which := range 3 {
					off := heapCopy(h)
					x := &off.Objs[slot]
					*[]*int{&x.Count, &x.Holds, &x.Roots}[which] += n
					// What is not live is not counted.
					holdCounted(t, fmt.Sprintf("%s, slot %d, number %d is off by %d", name, slot, which, n), off, n == 0 || !o.Live)
				}
			}
			for i, f := range o.Field {
				off := heapCopy(h)
				off.Objs[slot].Field[i] = -1
				holdCounted(t, fmt.Sprintf("%s, slot %d without field %d", name, slot, i), off, f == -1)
			}
			off := heapCopy(h)
			off.Objs[slot].Holds++
			off.Objs[slot].Count++
			holdCounted(t, fmt.Sprintf("%s, slot %d, one hold more that is counted", name, slot), off, true)
		}
	}
}

func TestCountedOfNothingLive(t *testing.T) {
	for name, h := range map[string]impl.Heap{"no objects": {}, "new": impl.HeapNew(), "spent": spentHeap(), "names alone": {Sites: []string{"a"}}, "zero objects": {Objs: make([]impl.Obj, 8)}, "twenty": {Objs: make([]impl.Obj, 20)}} {
		holdCounted(t, name, h, true)
	}
	h := baseHeap()
	for slot := range h.Objs {
		h.Objs[slot].Live = false
		h.Objs[slot].Count = 5
	}
	holdCounted(t, "what is not live has counts", h, true)
}

// What stands behind the eighth is live, and what it leads to is counted; but no slot has it, so InEdges is 0 for it.
func TestCountedBehindTheEighth(t *testing.T) {
	more := func(o impl.Obj) impl.Heap {
		h := baseHeap()
		h.Objs = append(h.Objs, o)
		return h
	}
	holdCounted(t, "not live", more(impl.Obj{Gen: 1, Count: 7, Field: []int{8, 8}}), true)
	holdCounted(t, "live, of holds and roots", more(impl.Obj{Live: true, Gen: 1, Holds: 2, Roots: 3, Count: 5}), true)
	holdCounted(t, "live, one more", more(impl.Obj{Live: true, Gen: 1, Holds: 2, Roots: 3, Count: 6}), false)
	holdCounted(t, "live, one less", more(impl.Obj{Live: true, Gen: 1, Holds: 2, Roots: 3, Count: 4}), false)
	holdCounted(t, "live, nothing counted", more(impl.Obj{Live: true, Gen: 1}), true)
	holdCounted(t, "leads to 27", more(impl.Obj{Live: true, Gen: 1, Field: []int{27}}), false)
	h := more(impl.Obj{Live: true, Gen: 1, Field: []int{27, 27, -1}})
	h.Objs[3].Count += 2
	holdCounted(t, "leads to 27, and is counted there", h, true)
	h = more(impl.Obj{Live: true, Gen: 1, Count: 1, Field: []int{16, -1, 8}})
	h.Objs[0].Count++
	holdCounted(t, "leads to what would be its id", h, false)
	h.Objs[8].Count = 0
	holdCounted(t, "leads to what would be its id, not counted", h, true)
}

func TestCountedOfWrongHeaps(t *testing.T) {
	for _, n := range []int{1, 3, 7} {
		h := fullHeap()
		h.Objs = h.Objs[:n]
		holdCounted(t, fmt.Sprint(n, " objects, counted as eight"), h, false)
		for slot := range h.Objs {
			recount(&h, slot)
		}
		holdCounted(t, fmt.Sprint(n, " objects"), h, true)
	}
	// It asks of counts alone: whatever else is wrong.
	for name, change := range map[string]func(h *impl.Heap){
		"a name too long":    func(h *impl.Heap) { h.Sites = []string{longText(20), "", ""} },
		"no names":           func(h *impl.Heap) { h.Sites = nil },
		"no handles":         func(h *impl.Heap) { h.Weaks = nil },
		"another buffer":     func(h *impl.Heap) { h.Buffer = []int{8, 8, -1, 5000} },
		"a field to nothing": func(h *impl.Heap) { h.Objs[3].Field[0] = 5000 },
		"many fields":        func(h *impl.Heap) { h.Objs[3].Field = []int{-1, -1, -1, -5, 44, 9}; h.Objs[1].Count++ },
		"no fields":          func(h *impl.Heap) { h.Objs[3].Field = nil },
		"great holds":        func(h *impl.Heap) { h.Objs[3].Holds, h.Objs[3].Count = 1<<40, 1<<40+1 },
		"holds below 0":      func(h *impl.Heap) { h.Objs[3].Holds, h.Objs[3].Count = -9, -8 },
		"nothing counts it":  func(h *impl.Heap) { h.Objs[5] = impl.Obj{Live: true, Gen: 1} },
		"free, with a count": func(h *impl.Heap) { h.Objs[5] = impl.Obj{Count: 3, Field: []int{8, 8, 8}} },
		"an id of its past":  func(h *impl.Heap) { h.Objs[3].Field[0] = 19 },
	} {
		h := baseHeap()
		change(&h)
		holdCounted(t, name, h, true)
		if impl.HeapOk(h) {
			t.Errorf("%s: the test's own heap is right", name)
		}
		h.Objs[1].Count++
		holdCounted(t, name+", and one count more", h, false)
	}
}

// Lists that are one in what is handed in are two in the answer.
func TestGainAndLoseOfListsThatAreShared(t *testing.T) {
	h := oneListHeap()
	before := wholeHeap(h)
	more := impl.Gain(h, 8)
	less, freed := impl.Lose(h, h.Buffer)
	holdApart(t, "shared fields", slices.Concat(heapSpans(more), heapSpans(less), []span{spanOf(freed), spanOf(h.Buffer)}))
	if !reflect.DeepEqual(before, wholeHeap(h)) {
		t.Error("shared fields are written into")
	}
}

func TestGainAndLoseShareNothing(t *testing.T) {
	for name, h := range allHeaps() {
		ids := roomy([]int{8, 9, 27, 16, 8, 32, -1}, 77)
		all := whole(ids)
		holdUnwritten(t, name, h, func(g impl.Heap) {
			more := impl.Gain(g, 8)
			less, freed := impl.Lose(g, ids)
			same, none := impl.Lose(impl.Gain(g, -1), nil)
			impl.Counted(g)
			l := slices.Concat(heapSpans(g), heapSpans(more), heapSpans(less), heapSpans(same), []span{spanOf(ids), spanOf(freed), spanOf(none)})
			holdApart(t, name, l)
		})
		if !reflect.DeepEqual(whole(ids), all) {
			t.Errorf("%s: Lose writes into its ids", name)
		}
	}
}
