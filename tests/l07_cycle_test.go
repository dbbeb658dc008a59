package tests

import (
	"fmt"
	"math"
	"math/rand"
	"reflect"
	"slices"
	"testing"

	"loop.example/g01412/impl"
)

var (
	_ func(impl.Heap) impl.Trial                  = impl.TrialNew
	_ func(impl.Heap, impl.Trial, int) impl.Trial = impl.MarkGray
	_ func(impl.Heap, impl.Trial, int) impl.Trial = impl.ScanFrom
	_ func(impl.Trial) []int                      = impl.Whites
	_ func(impl.Heap) (impl.Heap, []int)          = impl.Collect
	_                                             = impl.Trial{Counts: []int{1}, Colors: []int{2}}
)

const black, gray, white = impl.CoBlack, impl.CoGray, impl.CoWhite

func TestColors(t *testing.T) {
	if black != 0 || gray != 1 || white != 2 {
		t.Error("colors", black, gray, white)
	}
}

// What chapter 7 says, told once more: by sets and by what is reached, not by going from one to the next.

func ledFrom(h impl.Heap, slot int) []int {
	var l []int
	for _, id := range h.Objs[slot].Field {
		if to := placeOf(h, id); to >= 0 {
			l = append(l, to)
		}
	}
	return l
}

// reachTold: the slots that are reached from these, over none that is closed, by slots.
func reachTold(h impl.Heap, from []int, closed func(slot int) bool) []int {
	var in [8]bool
	for _, slot := range from {
		in[slot] = true
	}
	for range h.Objs {
		for slot := range h.Objs {
			for _, to := range ledFrom(h, slot) {
				in[to] = in[to] || in[slot] && !closed(to)
			}
		}
	}
	var l []int
	for slot := range in {
		if in[slot] {
			l = append(l, slot)
		}
	}
	return l
}

func never(int) bool { return false }

func trialCopy(t impl.Trial) impl.Trial {
	return impl.Trial{Counts: roomy(t.Counts, 77), Colors: roomy(t.Colors, 77)}
}

func paintTold(h impl.Heap, t impl.Trial, slot int, color int, more int) impl.Trial {
	reached := reachTold(h, []int{slot}, func(slot int) bool { return t.Colors[slot] == color })
	t = trialCopy(t)
	for _, slot := range reached {
		t.Colors[slot] = color
		for _, to := range ledFrom(h, slot) {
			t.Counts[to] += more
		}
	}
	return t
}

func cannotTry(h impl.Heap, t impl.Trial, slot int) bool {
	return len(h.Objs) != 8 || len(t.Counts) != 8 || len(t.Colors) != 8 || slot < 0 || slot > 7 || !h.Objs[slot].Live
}

func markTold(h impl.Heap, t impl.Trial, slot int) impl.Trial {
	if cannotTry(h, t, slot) || t.Colors[slot] == gray {
		return trialCopy(t)
	}
	return paintTold(h, t, slot, gray, -1)
}

// scanTold looks at what it was led to last first of all: in which order it does so must not show.
func scanTold(h impl.Heap, t impl.Trial, slot int) impl.Trial {
	t = trialCopy(t)
	if cannotTry(h, t, slot) {
		return t
	}
	for wait := []int{slot}; len(wait) > 0; {
		at := wait[len(wait)-1]
		wait = wait[:len(wait)-1]
		switch {
		case t.Colors[at] != gray:
		case t.Counts[at] > 0:
			t = paintTold(h, t, at, black, 1)
		default:
			t.Colors[at] = white
			wait = append(wait, ledFrom(h, at)...)
		}
	}
	return t
}

// collectTold is asked of heaps of eight objects: the slots that go, and what is left.
func collectTold(h impl.Heap) (impl.Heap, []int) {
	t := impl.Trial{Colors: make([]int, 8)}
	for _, o := range h.Objs {
		t.Counts = append(t.Counts, o.Count)
	}
	for _, id := range h.Buffer {
		t = markTold(h, t, placeOf(h, id))
	}
	for _, id := range h.Buffer {
		t = scanTold(h, t, placeOf(h, id))
	}
	var slots []int
	for slot, color := range t.Colors {
		if color == white {
			slots = append(slots, slot)
		}
	}
	return leftOver(h, slots), slots
}

// leftOver is the heap without what was in these slots, counted anew.
func leftOver(h impl.Heap, slots []int) impl.Heap {
	h = heapCopy(h)
	for _, slot := range slots {
		freedSlot(&h, slot)
	}
	h.Buffer = nil
	for slot := range h.Objs {
		h.Objs[slot].Purple = false
		if o := &h.Objs[slot]; o.Live {
			o.Count = o.Holds + o.Roots + impl.InEdges(h, slot)
		}
	}
	return h
}

func idsIn(h impl.Heap, slots []int) []int {
	var ids []int
	for _, slot := range slots {
		ids = append(ids, impl.IdOf(slot, h.Objs[slot].Gen))
	}
	return ids
}

// keptAndLeaked are the slots that are reached from what is held or rooted, and the other live ones.
func keptAndLeaked(h impl.Heap) ([]int, []int) {
	var external, leaked []int
	for slot, o := range h.Objs {
		if o.Live && o.Holds+o.Roots > 0 {
			external = append(external, slot)
		}
	}
	kept := reachTold(h, external, never)
	for slot, o := range h.Objs {
		if o.Live && !slices.Contains(kept, slot) {
			leaked = append(leaked, slot)
		}
	}
	return kept, leaked
}

// allSuspected: is each of these reached from one in the buffer?
func allSuspected(h impl.Heap, leaked []int) bool {
	var from []int
	for _, id := range h.Buffer {
		from = append(from, placeOf(h, id))
	}
	reached := reachTold(h, from, never)
	return !slices.ContainsFunc(leaked, func(slot int) bool { return !slices.Contains(reached, slot) })
}

// holdCollected is promise 7 of one right heap. It answers whether all that leaks was suspected, and how many went.
func holdCollected(t *testing.T, what string, h impl.Heap) (bool, int) {
	t.Helper()
	got, freed := impl.Collect(h)
	kept, leaked := keptAndLeaked(h)
	all := allSuspected(h, leaked)
	want, gone := collectTold(h)
	if all {
		want, gone = leftOver(h, leaked), leaked
	}
	if !slices.Equal(freed, idsIn(h, gone)) || !alike(got, want) {
		t.Errorf("%s: Collect frees %v, want %v, and leaves\n%v, want\n%v", what, freed, idsIn(h, gone), got, want)
	}
	if all && !slices.Equal(impl.LiveIds(got), idsIn(h, kept)) {
		t.Errorf("%s: behind Collect %v are live, and %v are reached", what, impl.LiveIds(got), idsIn(h, kept))
	}
	for _, id := range freed {
		if !slices.Contains(leaked, placeOf(h, id)) {
			t.Errorf("%s: Collect frees %d, which did not leak", what, id)
		}
	}
	if fault := rightFault(got); fault != "" || !impl.HeapOk(got) || !impl.Counted(got) {
		t.Errorf("%s: Collect leaves a heap that is not right (%s)", what, fault)
	}
	if again, more := impl.Collect(got); len(more) != 0 || !alike(again, got) {
		t.Errorf("%s: Collect once more frees %v", what, more)
	}
	return all, len(freed)
}

// rings: by their names, and each right with nothing suspected yet; gone are the slots that nothing keeps.
type ringRow struct {
	name   string
	gone   []int
	things []thing
}

func ringRows() []ringRow {
	return slices.Concat(ringsAlone(), ringsKept(), ringsHung(), ringsShared())
}

// at is an object of the first generation; what it leads to is told by slots, -1 for nothing.
func at(slot int, holds int, roots int, to ...int) thing {
	x := thing{slot: slot, gen: 1, holds: holds, roots: roots, field: [3]int{-1, -1, -1}}
	for i, n := range to {
		if n >= 0 {
			x.field[i] = 8 + n
		}
	}
	return x
}

func ringsAlone() []ringRow {
	var eight []thing
	for slot := range 8 {
		eight = append(eight, at(slot, 0, 0, -1, (slot+1)%8))
	}
	return []ringRow{
		{"two", []int{0, 1}, []thing{at(0, 0, 0, 1), at(1, 0, 0, -1, 0)}},
		{"three", []int{1, 4, 7}, []thing{at(1, 0, 0, 7), at(7, 0, 0, -1, 4), at(4, 0, 0, -1, -1, 1)}},
		{"eight", []int{0, 1, 2, 3, 4, 5, 6, 7}, eight},
		{"itself", []int{3}, []thing{at(3, 0, 0, -1, 3)}},
		{"itself by all fields", []int{0}, []thing{at(0, 0, 0, 0, 0, 0)}},
		{"two, by all fields", []int{2, 5}, []thing{at(2, 0, 0, 5, 5, 5), at(5, 0, 0, 2, 2, 2)}},
		{"two, and each leads to itself", []int{0, 1}, []thing{at(0, 0, 0, 0, 1), at(1, 0, 0, 1, 0)}},
		{"two that have nothing to do with each other", []int{0, 1, 5, 6}, []thing{at(0, 0, 0, 1), at(1, 0, 0, 0), at(5, 0, 0, 6), at(6, 0, 0, 5)}},
		{"beside what is held", []int{0, 2}, []thing{at(0, 0, 0, 2), at(2, 0, 0, 0), at(1, 1, 0), at(3, 0, 1, 1)}},
	}
}

func ringsKept() []ringRow {
	return []ringRow{
		{"held", nil, []thing{at(0, 1, 0, 1), at(1, 0, 0, 0)}},
		{"rooted", nil, []thing{at(0, 0, 0, 1), at(1, 0, 1, 0)}},
		{"held and rooted often", nil, []thing{at(0, 20, 0, 1), at(1, 0, 20, 2), at(2, 0, 0, 0)}},
		{"itself, held", nil, []thing{at(6, 1, 0, 6, 6)}},
		{"itself, rooted", nil, []thing{at(6, 0, 1, -1, 6, 6)}},
		{"led to by what is held", nil, []thing{at(0, 0, 0, 1), at(1, 0, 0, 0), at(2, 1, 0, 1)}},
		{"led to by what is rooted, over others", nil, []thing{at(0, 0, 0, 1), at(1, 0, 0, 0), at(2, 0, 0, 1), at(7, 0, 1, -1, -1, 2)}},
		{"led to by a ring that is held", nil, []thing{at(0, 0, 0, 1), at(1, 0, 0, 0), at(2, 0, 0, 3, 0), at(3, 1, 0, 2)}},
		{"led to by a ring that nothing holds, and held", []int{2, 3}, []thing{at(0, 0, 0, 1), at(1, 1, 0, 0), at(2, 0, 0, 3, 0), at(3, 0, 0, 2)}},
		{"leads to what is held", []int{0, 1}, []thing{at(0, 0, 0, 1), at(1, 0, 0, 0, 2), at(2, 1, 0)}},
		{"leads to what is rooted, by all fields", []int{0, 1}, []thing{at(0, 0, 0, 1, 2, 2), at(1, 0, 0, 0, 2, 2), at(2, 0, 1)}},
	}
}

func ringsHung() []ringRow {
	return []ringRow{
		{"one hangs on it", []int{0, 1, 2}, []thing{at(0, 0, 0, 1), at(1, 0, 0, 0, 2), at(2, 0, 0)}},
		{"a row hangs on it", []int{0, 1, 2, 3, 4}, []thing{at(0, 0, 0, 1), at(1, 0, 0, 0, 4), at(4, 0, 0, 3), at(3, 0, 0, -1, 2), at(2, 0, 0)}},
		{"one hangs on each", []int{0, 1, 2}, []thing{at(0, 0, 0, 1, 2), at(1, 0, 0, 0, 2, 2), at(2, 0, 0)}},
		{"a row hangs on it, the last is held", []int{0, 1, 3}, []thing{at(0, 0, 0, 1), at(1, 0, 0, 0, 3), at(3, 0, 0, 2), at(2, 1, 0)}},
		{"a row hangs on it, what is held leads to its middle", []int{0, 1, 2}, []thing{at(0, 0, 0, 1), at(1, 0, 0, 0, 2), at(2, 0, 0, 3), at(3, 0, 0, 4), at(4, 0, 0), at(5, 1, 0, 3)}},
		{"one hangs on a ring that is held", nil, []thing{at(0, 1, 0, 1), at(1, 0, 0, 0, 2), at(2, 0, 0)}},
		{"a ring hangs on it", []int{0, 1, 2, 3}, []thing{at(0, 0, 0, 1), at(1, 0, 0, 0, 2), at(2, 0, 0, 3), at(3, 0, 0, 2)}},
		{"a ring hangs on one that leads to itself", []int{4, 5, 6}, []thing{at(6, 0, 0, 6, 4), at(4, 0, 0, 5), at(5, 0, 0, 4)}},
	}
}

func ringsShared() []ringRow {
	two := func(holds [5]int) []thing {
		return []thing{at(0, holds[0], 0, 1, 3), at(1, holds[1], 0, 2), at(2, holds[2], 0, 0), at(3, holds[3], 0, 4), at(4, holds[4], 0, 0)}
	}
	return []ringRow{
		{"two share one", []int{0, 1, 2, 3, 4}, two([5]int{})},
		{"two share one, which is held", nil, two([5]int{1, 0, 0, 0, 0})},
		{"two share one, the first is held", nil, two([5]int{0, 0, 1, 0, 0})},
		{"two share one, the second is held", nil, two([5]int{0, 0, 0, 1, 0})},
		{"two share two", []int{0, 1, 2, 3}, []thing{at(0, 0, 0, 1), at(1, 0, 0, 2, 3), at(2, 0, 0, 0), at(3, 0, 0, 0)}},
		{"two share two, one besides is rooted", nil, []thing{at(0, 0, 0, 1), at(1, 0, 0, 2, 3), at(2, 0, 0, 0), at(3, 0, 1, 0)}},
		{"a short one in a long one", []int{0, 1, 2, 3, 5}, []thing{at(0, 0, 0, 1), at(1, 0, 0, 2, 0), at(2, 0, 0, 3), at(3, 0, 0, 5), at(5, 0, 0, 0, 5)}},
	}
}

func liveSlots(h impl.Heap) []int {
	var l []int
	for slot, o := range h.Objs {
		if o.Live {
			l = append(l, slot)
		}
	}
	return l
}

// suspicions are orders in which what is live may stand in the buffer: none, all, all backwards, and one alone.
func suspicions(h impl.Heap) [][]int {
	all := liveSlots(h)
	back := slices.Clone(all)
	slices.Reverse(back)
	l := [][]int{nil, all, back}
	for _, slot := range all {
		l = append(l, []int{slot})
	}
	return l
}

func TestCollectOfRings(t *testing.T) {
	for _, row := range ringRows() {
		h := heapWith([]string{"r"}, row.things...)
		for _, slots := range suspicions(h) {
			holdCollected(t, fmt.Sprintf("%s, suspected %v", row.name, slots), purple(heapCopy(h), slots...))
		}
		got, freed := impl.Collect(purple(heapCopy(h), liveSlots(h)...))
		if !slices.Equal(freed, idsIn(h, row.gone)) || !alike(got, leftOver(h, row.gone)) {
			t.Errorf("%s: all suspected, Collect frees %v, want the slots %v", row.name, freed, row.gone)
		}
	}
}

// In a ring that nothing holds it is enough that one is suspected, whichever it is.
func TestCollectFromAnyOfARing(t *testing.T) {
	for _, row := range ringsAlone() {
		h := heapWith([]string{"r"}, row.things...)
		for _, slot := range row.gone {
			reached := reachTold(h, []int{slot}, never)
			if _, freed := impl.Collect(purple(heapCopy(h), slot)); !slices.Equal(freed, idsIn(h, reached)) {
				t.Errorf("%s: suspected at %d, Collect frees %v, want the slots %v", row.name, slot, freed, reached)
			}
		}
	}
}

// What leaks, but is not reached from the buffer, stays, and keeps what it leads to.
func TestCollectOfWhatIsNotSuspected(t *testing.T) {
	h := heapWith([]string{"r"}, at(0, 0, 0, 1), at(1, 0, 0, 0, 2), at(2, 0, 0, 3), at(3, 0, 0, 2))
	got, freed := impl.Collect(purple(heapCopy(h), 3))
	if len(freed) != 0 || !alike(got, h) {
		t.Errorf("the ring that hangs alone: %v\n%v", freed, got)
	}
	got, freed = impl.Collect(purple(heapCopy(h), 3, 1))
	if !slices.Equal(freed, []int{8, 9, 10, 11}) || len(impl.LiveIds(got)) != 0 {
		t.Errorf("both: %v\n%v", freed, got)
	}
	apart := heapWith([]string{"r"}, at(0, 0, 0, 1), at(1, 0, 0, 0), at(2, 0, 0, 3), at(3, 0, 0, 2))
	got, freed = impl.Collect(purple(heapCopy(apart), 3))
	if !slices.Equal(freed, []int{10, 11}) || !alike(got, leftOver(apart, []int{2, 3})) {
		t.Errorf("one of two: %v\n%v", freed, got)
	}
}

func TestCollectOfPlayedHeaps(t *testing.T) {
	for name, h := range playedHeaps() {
		holdCollected(t, name, h)
		for _, slots := range suspicions(h) {
			other := heapCopy(h)
			other.Buffer = nil
			for slot := range other.Objs {
				other.Objs[slot].Purple = false
			}
			holdCollected(t, fmt.Sprintf("%s, suspected %v", name, slots), purple(other, slots...))
		}
		if t.Failed() {
			return
		}
	}
}

// Of what a play leaves all that leaks is suspected, also where it is collected now and then.
func TestCollectInPlays(t *testing.T) {
	seen := map[int]int{}
	for seed := range 150 {
		r := rand.New(rand.NewSource(int64(seed)))
		h := impl.HeapNew()
		for step := range 150 {
			h, _ = impl.Apply(h, someOperation(r, h))
			what := fmt.Sprintf("play %d, step %d", seed, step)
			all, freed := holdCollected(t, what, h)
			if seen[freed]++; !all {
				t.Errorf("%s: something leaks that is not suspected: %v", what, h)
			}
			if t.Failed() {
				return
			}
			if r.Intn(10) == 0 {
				h, _ = impl.Collect(h)
			}
		}
	}
	for freed := range 6 {
		if seen[freed] == 0 {
			t.Errorf("no collection frees %d", freed)
		}
	}
}

// eachThree asks of each right heap in which three objects lead to each other by two fields, and are held or not.
func eachThree(t *testing.T, ask func(what string, h impl.Heap)) {
	t.Helper()
	fields := func(n int) []int { return []int{n%4 - 1, n/4%4 - 1} }
	asked := 0
	for n := range 4096 * 8 {
		h := heapWith([]string{"r"}, at(0, n>>12&1, 0, fields(n)...), at(1, n>>13&1, 0, fields(n>>4)...), at(2, 0, n>>14&1, fields(n>>8)...))
		if h.Objs[0].Count == 0 || h.Objs[1].Count == 0 || h.Objs[2].Count == 0 {
			continue // nothing keeps it, so no right heap has it
		}
		asked++
		ask(fmt.Sprint("three, ", n), h)
		if t.Failed() {
			return
		}
	}
	if asked < 10000 {
		t.Errorf("only %d heaps were asked", asked)
	}
}

// All that leaks is suspected at one place or at all.
func TestCollectOfAllThatThreeCanBe(t *testing.T) {
	eachThree(t, func(what string, h impl.Heap) {
		for _, slots := range [][]int{{0}, {1, 2}, {2, 1, 0}} {
			holdCollected(t, fmt.Sprintf("%s, suspected %v", what, slots), purple(heapCopy(h), slots...))
		}
	})
}

func TestCollectOfAnEmptyBuffer(t *testing.T) {
	for name, h := range rightHeaps() {
		h.Buffer = nil
		for slot := range h.Objs {
			h.Objs[slot].Purple = false
		}
		if got, freed := impl.Collect(h); len(freed) != 0 || !alike(got, h) {
			t.Errorf("%s: nothing suspected, Collect frees %v and leaves\n%v", name, freed, got)
		}
	}
	// Counts are made anew and nothing is purple, whatever the buffer has.
	h := leakHeap()
	for slot := range h.Objs {
		h.Objs[slot].Purple = true
		h.Objs[slot].Count += 3 - slot
	}
	want := leakHeap()
	for slot := 4; slot < 8; slot++ {
		want.Objs[slot].Count += 3 - slot // what is not live is not counted
	}
	if got, freed := impl.Collect(h); len(freed) != 0 || !alike(got, want) {
		t.Errorf("nothing in the buffer, but purple: %v\n%v, want\n%v", freed, got, want)
	}
}

func TestCollectOfOddBuffers(t *testing.T) {
	ring := heapWith([]string{"r"}, at(0, 0, 0, 1), at(1, 0, 0, 0, 2), at(2, 0, 0), at(3, 1, 0))
	ring.Objs[4].Gen = 2
	gone, stay := leftOver(ring, []int{0, 1, 2}), leftOver(ring, nil)
	for _, row := range []struct {
		buffer []int
		want   impl.Heap
	}{
		{[]int{8, 8}, gone},
		{[]int{9, 8, 9, 8, 9}, gone},
		{[]int{11, 9}, gone},
		{[]int{-1, 0, 1, 7, 8}, gone},
		{[]int{8, 20, 28, 12, 16, 17, 8 + 1<<32, math.MaxInt, math.MinInt}, gone},
		{slices.Repeat([]int{3, 8}, 3000), gone},
		{[]int{10}, stay},
		{[]int{10, 10, 10, 11, 11}, stay},
		{[]int{-1, 0, 1, 2, 7}, stay},
		{[]int{12, 20, 28, 16, 17, 24, 8000, 8 + 1<<32, math.MaxInt, math.MinInt}, stay},
	} {
		h := heapCopy(ring)
		h.Buffer = row.buffer
		got, freed := impl.Collect(h)
		if !alike(got, row.want) || len(freed) != len(impl.LiveIds(ring))-len(impl.LiveIds(row.want)) {
			t.Errorf("buffer %v: Collect frees %v and leaves\n%v", row.buffer[:min(len(row.buffer), 10)], freed, got)
		}
	}
}

func TestCollectOfTooFewAndTooManyObjects(t *testing.T) {
	for _, n := range []int{0, 1, 2, 7, 9, 16} {
		h := purple(leakHeap(), 0, 1, 2, 3)
		h.Objs = append(h.Objs, h.Objs...)[:n]
		if got, freed := impl.Collect(h); len(freed) != 0 || !alike(got, h) {
			t.Errorf("%d objects: Collect frees %v and leaves\n%v", n, freed, got)
		}
	}
}

// What a heap has besides is not asked, and stays; counts that do not fit are taken as they stand.
func TestCollectOfWrongHeaps(t *testing.T) {
	for _, row := range wrongInOneThing() {
		h := baseHeap()
		row.change(&h)
		holdCollectTold(t, row.name, h)
	}
	for name, h := range wrongHeaps() {
		holdCollectTold(t, name, h)
	}
	h := purple(leakHeap(), 0, 2)
	h.Weaks, h.Sites = []impl.Weak{{Target: 5}, {Used: true, Target: 32}}, []string{"", longText(20), ""}
	holdCollectTold(t, "names and handles", h)
	h.Objs[0].Count++
	got, freed := impl.Collect(h)
	if !slices.Equal(freed, []int{10}) || got.Objs[0].Count != 1 {
		t.Errorf("one more than there is: %v\n%v", freed, got)
	}
	// One less than there is, and it goes, though it is held; what led to it leads there still.
	h = purple(heapWith([]string{"r"}, at(0, 1, 0, 1, 0), at(1, 1, 0), at(2, 1, 0, 0, 1)), 0)
	h.Objs[0].Count--
	h.Objs[0].Count--
	want := leftOver(h, []int{0})
	got, freed = impl.Collect(h)
	if !slices.Equal(freed, []int{8}) || !alike(got, want) || !slices.Equal(got.Objs[2].Field, []int{8, 9, -1}) {
		t.Errorf("less than there is: %v\n%v, want\n%v", freed, got, want)
	}
}

func holdCollectTold(t *testing.T, what string, h impl.Heap) {
	t.Helper()
	want, slots := heapCopy(h), []int(nil)
	if len(h.Objs) == 8 {
		want, slots = collectTold(h)
	}
	if got, freed := impl.Collect(h); !slices.Equal(freed, idsIn(h, slots)) || !alike(got, want) {
		t.Errorf("%s: Collect frees %v, want the slots %v, and leaves\n%v, want\n%v", what, freed, slots, got, want)
	}
}

func TestCollectOfTheLastGeneration(t *testing.T) {
	h := heapWith([]string{"r"}, thing{slot: 7, gen: 999, field: [3]int{-1, -1, 7998}}, thing{slot: 6, gen: 999, field: [3]int{7999, -1, -1}})
	h.Weaks[3] = impl.Weak{Used: true, Target: 7999}
	h = purple(h, 7)
	holdCollected(t, "the last generation", h)
	got, freed := impl.Collect(h)
	if !slices.Equal(freed, []int{7998, 7999}) || got.Objs[7].Gen != 999 || got.Objs[6].Gen != 999 || got.Weaks[3].Target != 7999 || len(got.Sites) != 1 {
		t.Errorf("the last generation: %v\n%v", freed, got)
	}
	// A generation that no id has: what has it is found by its number, and told as -1, as LiveIds tells it.
	h.Objs[7].Gen, h.Objs[6].Field[0], h.Buffer = 1000, 8007, []int{8007}
	if got, freed = impl.Collect(h); !slices.Equal(freed, []int{7998, -1}) || got.Objs[7].Gen != 1000 || got.Objs[7].Live {
		t.Errorf("behind the last generation: %v\n%v", freed, got)
	}
}

func sameTrial(a impl.Trial, b impl.Trial) bool {
	return slices.Equal(a.Counts, b.Counts) && slices.Equal(a.Colors, b.Colors)
}

func holdTrial(t *testing.T, what string, got impl.Trial, want impl.Trial) {
	t.Helper()
	if !sameTrial(got, want) {
		t.Errorf("%s: %v, want %v", what, got, want)
	}
}

func TestTrialNew(t *testing.T) {
	holdTrial(t, "base", impl.TrialNew(baseHeap()), impl.Trial{Counts: []int{4, 2, 0, 3, 0, 0, 0, 0}, Colors: make([]int, 8)})
	holdTrial(t, "new", impl.TrialNew(impl.HeapNew()), impl.Trial{Counts: make([]int, 8), Colors: make([]int, 8)})
	holdTrial(t, "edge", impl.TrialNew(edgeHeap()), impl.Trial{Counts: []int{44, 0, 0, 0, 0, 0, 21, 21}, Colors: make([]int, 8)})
	for name, h := range allHeaps() {
		want := impl.Trial{}
		for _, o := range h.Objs[:min(len(h.Objs), 8)] {
			want.Counts, want.Colors = append(want.Counts, o.Count), append(want.Colors, black)
		}
		holdTrial(t, name, impl.TrialNew(h), want)
	}
	// What is not live has a count too.
	h := starHeap()
	for slot := range h.Objs {
		h.Objs[slot].Live = false
		h.Objs[slot].Count = []int{math.MinInt, -1, 0, 1, 20, 21, 64, math.MaxInt}[slot]
	}
	holdTrial(t, "nothing live", impl.TrialNew(h), impl.Trial{Counts: []int{math.MinInt, -1, 0, 1, 20, 21, 64, math.MaxInt}, Colors: make([]int, 8)})
	for n := range 20 {
		some := impl.Heap{Objs: slices.Repeat(h.Objs, 3)[:n]}
		if got := impl.TrialNew(some); len(got.Counts) != min(n, 8) || len(got.Colors) != min(n, 8) {
			t.Errorf("%d objects: %v", n, got)
		}
	}
}

func colored(counts [8]int, colors [8]int) impl.Trial {
	return impl.Trial{Counts: counts[:], Colors: colors[:]}
}

type trialRow struct {
	what   string
	counts [8]int
	colors [8]int
	slot   int
	after  impl.Trial
}

// In the base heap 8 leads to 9 and to itself, 9 leads to 8 by two fields and to 27.
func TestMarkGrayOfTheBaseHeap(t *testing.T) {
	h := baseHeap()
	first := [8]int{4, 2, 0, 3}
	for _, row := range []trialRow{
		{"all of it", first, [8]int{}, 0, colored([8]int{1, 1, 0, 2}, [8]int{1, 1, 0, 1})},
		{"from the other", first, [8]int{}, 1, colored([8]int{1, 1, 0, 2}, [8]int{1, 1, 0, 1})},
		{"what leads nowhere", first, [8]int{}, 3, colored(first, [8]int{0, 0, 0, 1})},
		{"gray already", first, [8]int{1}, 0, colored(first, [8]int{1})},
		{"all gray already", first, [8]int{1, 1, 1, 1, 1, 1, 1, 1}, 1, colored(first, [8]int{1, 1, 1, 1, 1, 1, 1, 1})},
		{"through nothing gray", first, [8]int{0, 1}, 0, colored([8]int{3, 1, 0, 3}, [8]int{1, 1})},
		{"through nothing gray, from the other", first, [8]int{1}, 1, colored([8]int{2, 2, 0, 2}, [8]int{1, 1, 0, 1})},
		{"the last gray", first, [8]int{0, 0, 0, 1}, 0, colored([8]int{1, 1, 0, 2}, [8]int{1, 1, 0, 1})},
		{"white", first, [8]int{2, 2, 2, 2, 2}, 0, colored([8]int{1, 1, 0, 2}, [8]int{1, 1, 2, 1, 2})},
		{"white behind black", first, [8]int{0, 2, 0, 0}, 0, colored([8]int{1, 1, 0, 2}, [8]int{1, 1, 0, 1})},
		{"colors that there are not", first, [8]int{3, -1, 5, math.MaxInt}, 0, colored([8]int{1, 1, 0, 2}, [8]int{1, 1, 5, 1})},
		{"counts below 0", [8]int{-5, 0, 9, math.MinInt}, [8]int{}, 1, colored([8]int{-8, -1, 9, math.MaxInt}, [8]int{1, 1, 0, 1})},
		{"nothing live", first, [8]int{}, 2, colored(first, [8]int{})},
		{"nothing live, white", first, [8]int{0, 0, 0, 0, 2}, 4, colored(first, [8]int{0, 0, 0, 0, 2})},
	} {
		holdTrial(t, row.what, impl.MarkGray(h, colored(row.counts, row.colors), row.slot), row.after)
	}
}

func TestScanFromOfTheBaseHeap(t *testing.T) {
	h := baseHeap()
	all, none := [8]int{1, 1, 0, 1}, [8]int{}
	for _, row := range []trialRow{
		{"nothing from without", none, all, 0, colored(none, [8]int{2, 2, 0, 2})},
		{"nothing from without, below 0", [8]int{-1, math.MinInt, 0, -3}, all, 1, colored([8]int{-1, math.MinInt, 0, -3}, [8]int{2, 2, 0, 2})},
		{"given back", [8]int{1, 1, 0, 2}, all, 0, colored([8]int{4, 2, 0, 3}, none)},
		{"given back behind white", [8]int{0, 1, 0, 0}, all, 0, colored([8]int{3, 2, 0, 1}, none)},
		{"given back behind white, and ahead of it", [8]int{1, 0, 0, 0}, all, 1, colored([8]int{4, 1, 0, 1}, none)},
		{"the last alone", [8]int{0, 0, 0, 1}, all, 0, colored([8]int{0, 0, 0, 1}, [8]int{2, 2, 0, 0})},
		{"from the last", none, all, 3, colored(none, [8]int{1, 1, 0, 2})},
		{"from the last, given back", [8]int{1, 1, 0, 2}, all, 3, colored([8]int{1, 1, 0, 2}, [8]int{1, 1})},
		{"black", [8]int{1, 1, 0, 2}, [8]int{0, 1, 0, 1}, 0, colored([8]int{1, 1, 0, 2}, [8]int{0, 1, 0, 1})},
		{"white", [8]int{1, 1, 0, 2}, [8]int{2, 1, 0, 1}, 0, colored([8]int{1, 1, 0, 2}, [8]int{2, 1, 0, 1})},
		{"a color that there is not", none, [8]int{3, 1, 0, 1}, 0, colored(none, [8]int{3, 1, 0, 1})},
		{"what it leads to is black", none, [8]int{1, 0, 0, 1}, 0, colored(none, [8]int{2, 0, 0, 1})},
		{"what it leads to is white", none, [8]int{1, 2, 0, 1}, 0, colored(none, [8]int{2, 2, 0, 1})},
		{"given back over what is white", [8]int{1}, [8]int{1, 2, 0, 2}, 0, colored([8]int{4, 1, 0, 1}, none)},
		{"given back over nothing black", [8]int{1, 5, 0, 7}, [8]int{1, 0, 0, 1}, 0, colored([8]int{2, 6, 0, 7}, [8]int{0, 0, 0, 1})},
		{"given back over nothing black, from the other", [8]int{7, 1, 0, 0}, [8]int{0, 1, 0, 1}, 1, colored([8]int{9, 1, 0, 1}, none)},
		{"given back over any color", [8]int{1, 0, 0, 0}, [8]int{1, 9, 9, -1}, 0, colored([8]int{4, 1, 0, 1}, [8]int{0, 0, 9, 0})},
		{"the greatest count", [8]int{math.MaxInt, 0, 0, 0}, all, 0, colored([8]int{math.MinInt + 2, 1, 0, 1}, none)},
		{"nothing live", none, [8]int{1, 1, 1, 1, 1, 1, 1, 1}, 2, colored(none, [8]int{1, 1, 1, 1, 1, 1, 1, 1})},
	} {
		holdTrial(t, row.what, impl.ScanFrom(h, colored(row.counts, row.colors), row.slot), row.after)
	}
}

// Two fields that lead to one are two that are taken back, and two that are given back.
func TestTrialOfTwoFieldsThatLeadToOne(t *testing.T) {
	h := heapWith([]string{"r"}, at(0, 0, 0, 1, 1), at(1, 0, 0, 2, 0, 2), at(2, 0, 0, 0, 0, 0))
	marked := impl.MarkGray(h, impl.TrialNew(h), 0)
	holdTrial(t, "marked", marked, colored([8]int{}, [8]int{1, 1, 1}))
	holdTrial(t, "white", impl.ScanFrom(h, marked, 2), colored([8]int{}, [8]int{2, 2, 2}))
	marked.Counts[1] = 1
	holdTrial(t, "given back", impl.ScanFrom(h, marked, 0), colored([8]int{4, 3, 2}, [8]int{}))
	h = heapWith([]string{"r"}, at(0, 1, 0, 1, 1, 1), at(1, 0, 0))
	marked = impl.MarkGray(h, impl.TrialNew(h), 0)
	holdTrial(t, "three to one", marked, colored([8]int{1, 0}, [8]int{1, 1}))
	holdTrial(t, "three to one, given back", impl.ScanFrom(h, marked, 0), impl.TrialNew(h))
	holdTrial(t, "three to one, from there", impl.ScanFrom(h, marked, 1), colored([8]int{1, 0}, [8]int{1, 2}))
}

// Fields that lead to nothing live change nothing: the id of what was, of what will be, and what is no id.
func TestTrialOfFieldsThatLeadNowhere(t *testing.T) {
	h := baseHeap()
	h.Objs[1].Field = []int{42, 19, 35, 16, 0, 1, 3, 7, -1, -8, math.MinInt, math.MaxInt, 8 + 1<<32, 12}
	h.Objs[2].Field = []int{8, 8, 8}
	marked := impl.MarkGray(h, impl.TrialNew(h), 0)
	holdTrial(t, "marked", marked, colored([8]int{3, 1, 0, 3}, [8]int{1, 1}))
	holdTrial(t, "given back", impl.ScanFrom(h, marked, 1), colored([8]int{3, 1, 0, 3}, [8]int{1, 0}))
	holdTrial(t, "given back, the other", impl.ScanFrom(h, marked, 0), impl.TrialNew(h))
	h.Objs[1].Field = nil
	holdTrial(t, "no fields", impl.MarkGray(h, impl.TrialNew(h), 1), colored([8]int{4, 2, 0, 3}, [8]int{0, 1}))
	h.Objs[1].Field = []int{-1, -1, -1, 27, 27, 27, 27}
	holdTrial(t, "seven fields", impl.MarkGray(h, impl.TrialNew(h), 1), colored([8]int{4, 2, 0, -1}, [8]int{0, 1, 0, 1}))
}

func tooFewAndTooMany() []impl.Trial {
	var l []impl.Trial
	for _, n := range []int{0, 1, 7, 8, 9, 16} {
		for _, m := range []int{0, 1, 7, 8, 9, 16} {
			if n != 8 || m != 8 {
				l = append(l, impl.Trial{Counts: slices.Repeat([]int{n - m}, n), Colors: slices.Repeat([]int{m % 3}, m)})
			}
		}
	}
	return l
}

func TestTrialsThatStayAsTheyAre(t *testing.T) {
	some := []int{math.MinInt, -1 << 32, -9, -8, -1, 8, 9, 16, 1 << 32, 1 << 33, math.MaxInt}
	stays := func(what string, h impl.Heap, tr impl.Trial, slot int) {
		what = fmt.Sprintf("%s, slot %d", what, slot)
		holdTrial(t, what+" marked", impl.MarkGray(h, tr, slot), tr)
		holdTrial(t, what+" scanned", impl.ScanFrom(h, tr, slot), tr)
	}
	for name, h := range allHeaps() {
		for slot := range 8 {
			for i, tr := range tooFewAndTooMany() {
				stays(fmt.Sprint(name, ", trial ", i), h, tr, slot)
			}
			tr := colored([8]int{0, 1, 2, 3, 4, 5, 6, 7}, [8]int{0, 1, 2, 1, 0, 1, 2, 1})
			if len(h.Objs) != 8 || !h.Objs[slot].Live {
				stays(name, h, tr, slot)
			}
			tr.Colors[slot] = gray
			holdTrial(t, fmt.Sprint(name, ", gray already, slot ", slot), impl.MarkGray(h, tr, slot), tr)
			for _, color := range []int{black, white, 3, -1} {
				tr.Colors[slot] = color
				holdTrial(t, fmt.Sprint(name, ", not gray, slot ", slot), impl.ScanFrom(h, tr, slot), tr)
			}
		}
		for _, slot := range some {
			stays(name, h, colored([8]int{1, 0, 1}, [8]int{1, 1, 0, 2}), slot)
			stays(name, h, impl.Trial{}, slot)
		}
	}
	for _, n := range []int{0, 1, 7, 9, 16} {
		h := fullHeap()
		h.Objs = append(h.Objs, h.Objs...)[:n]
		for slot := -1; slot <= 16; slot++ {
			stays(fmt.Sprint(n, " objects"), h, impl.TrialNew(fullHeap()), slot)
			stays(fmt.Sprint(n, " objects, gray"), h, colored([8]int{}, [8]int{1, 1, 1, 1, 1, 1, 1, 1}), slot)
			stays(fmt.Sprint(n, " objects, as many in the trial"), h, impl.Trial{Counts: make([]int, n), Colors: slices.Repeat([]int{gray}, n)}, slot)
		}
	}
}

// In a right heap: to mark and to scan what something keeps leaves the trial as it was.
func TestMarkedAndGivenBack(t *testing.T) {
	for name, h := range playedHeaps() {
		kept, _ := keptAndLeaked(h)
		for slot, o := range h.Objs {
			if o.Live && o.Holds+o.Roots > 0 {
				before := impl.TrialNew(h)
				holdTrial(t, fmt.Sprint(name, ", slot ", slot), impl.ScanFrom(h, impl.MarkGray(h, before, slot), slot), before)
			}
			got := impl.ScanFrom(h, impl.MarkGray(h, impl.TrialNew(h), slot), slot)
			for _, w := range impl.Whites(got) {
				if slices.Contains(kept, w) {
					t.Errorf("%s: from slot %d, %d is white, though it is reached", name, slot, w)
				}
			}
		}
	}
}

func someTrial(r *rand.Rand) impl.Trial {
	var tr impl.Trial
	for range 8 {
		tr.Counts = append(tr.Counts, r.Intn(6)-2)
		tr.Colors = append(tr.Colors, r.Intn(13)%4)
	}
	if mostly := r.Intn(6); mostly < 3 {
		tr.Colors = slices.Repeat([]int{mostly}, 8)
	}
	switch r.Intn(20) {
	case 0:
		tr.Counts = tr.Counts[:r.Intn(8)]
	case 1:
		tr.Colors = append(tr.Colors, r.Intn(3))
	}
	return tr
}

func TestAnyTrialIsAsTold(t *testing.T) {
	whites := map[int]int{}
	for seed := range 3000 {
		r := rand.New(rand.NewSource(int64(seed)))
		h, tr := wornHeap(r), someTrial(r)
		for slot := -1; slot <= 8; slot++ {
			what := fmt.Sprintf("heap %d, slot %d, %v\n%v", seed, slot, tr, h)
			holdTrial(t, what+" marked", impl.MarkGray(h, tr, slot), markTold(h, tr, slot))
			scanned := impl.ScanFrom(h, tr, slot)
			holdTrial(t, what+" scanned", scanned, scanTold(h, tr, slot))
			whites[len(impl.Whites(scanned))-len(impl.Whites(tr))]++
		}
		holdCollectTold(t, fmt.Sprintf("heap %d", seed), h)
		if t.Failed() {
			return
		}
	}
	for n := -2; n <= 4; n++ {
		if whites[n] == 0 {
			t.Errorf("no scan has %d more that are white", n)
		}
	}
}

func TestWhites(t *testing.T) {
	for _, row := range []struct{ colors, want []int }{
		{nil, nil},
		{[]int{0, 0, 0, 0, 0, 0, 0, 0}, nil},
		{[]int{1, 1, 1, 1, 1, 1, 1, 1}, nil},
		{[]int{2, 2, 2, 2, 2, 2, 2, 2}, []int{0, 1, 2, 3, 4, 5, 6, 7}},
		{[]int{2, 0, 1, 2, 0, 0, 1, 2}, []int{0, 3, 7}},
		{[]int{0, 2, 0, 0, 0, 0, 2, 0}, []int{1, 6}},
		{[]int{-2, 3, 2 + 1<<32, math.MinInt, math.MaxInt, -1, 2, 4}, []int{6}},
		{[]int{2}, []int{0}},
		{[]int{0, 1, 2}, []int{2}},
		{[]int{2, 2, 2, 2, 2, 2, 2}, []int{0, 1, 2, 3, 4, 5, 6}},
		{[]int{0, 0, 0, 0, 0, 0, 0, 2, 0, 2}, []int{7, 9}},
		{slices.Repeat([]int{1}, 30), nil},
	} {
		// Counts say nothing of it, nor how many there are.
		for _, counts := range [][]int{nil, make([]int, 8), {2, 2, 2}, slices.Repeat([]int{2}, 12)} {
			if got := impl.Whites(impl.Trial{Counts: counts, Colors: row.colors}); !slices.Equal(got, row.want) {
				t.Errorf("Whites(%v, %v) = %v, want %v", counts, row.colors, got, row.want)
			}
		}
	}
}

func trialSpans(t impl.Trial) []span { return []span{spanOf(t.Counts), spanOf(t.Colors)} }

func TestTrialsShareNothing(t *testing.T) {
	given := append(tooFewAndTooMany(), impl.Trial{}, colored([8]int{4, 2, 1, 3}, [8]int{}), colored([8]int{0, 1, 0}, [8]int{1, 1, 1, 1, 1, 1, 1, 1}), colored([8]int{}, [8]int{1, 2, 1, 2, 1, 1, 1, 1}))
	for name, h := range allHeaps() {
		for i, tr := range given {
			tr = trialCopy(tr)
			before := impl.Trial{Counts: whole(tr.Counts), Colors: whole(tr.Colors)}
			holdUnwritten(t, name, h, func(g impl.Heap) {
				l := slices.Concat(heapSpans(g), trialSpans(tr), trialSpans(impl.TrialNew(g)), []span{spanOf(impl.Whites(tr)), spanOf(impl.Whites(tr))})
				for _, slot := range []int{-1, 0, 1, 3, 4, 7, 8} {
					l = slices.Concat(l, trialSpans(impl.MarkGray(g, tr, slot)), trialSpans(impl.ScanFrom(g, tr, slot)))
				}
				holdApart(t, fmt.Sprint(name, ", trial ", i), l)
			})
			if !reflect.DeepEqual(before, impl.Trial{Counts: whole(tr.Counts), Colors: whole(tr.Colors)}) {
				t.Errorf("%s, trial %d: the trial that was handed in is written into", name, i)
			}
		}
	}
	// One list twice is two lists in the answer.
	l := []int{1, 1, 1, 1, 1, 1, 1, 1}
	one := impl.Trial{Counts: l, Colors: l}
	for _, slot := range []int{-1, 0, 3} {
		holdApart(t, "one list twice", slices.Concat(trialSpans(impl.MarkGray(fullHeap(), one, slot)), trialSpans(impl.ScanFrom(fullHeap(), one, slot)), []span{spanOf(l)}))
	}
	if !slices.Equal(l, []int{1, 1, 1, 1, 1, 1, 1, 1}) {
		t.Error("one list twice is written into:", l)
	}
}

func TestCollectSharesNothing(t *testing.T) {
	all := allHeaps()
	for _, row := range ringRows() {
		h := heapWith([]string{"r"}, row.things...)
		for _, slots := range suspicions(h) {
			all[fmt.Sprint(row.name, " ", slots)] = purple(heapCopy(h), slots...)
		}
	}
	for name, h := range all {
		holdUnwritten(t, name, h, func(g impl.Heap) {
			first, freed := impl.Collect(g)
			second, more := impl.Collect(g)
			holdApart(t, name, slices.Concat(heapSpans(g), heapSpans(first), heapSpans(second), []span{spanOf(freed), spanOf(more)}))
		})
	}
	h := oneListHeap()
	before := wholeHeap(h)
	after, freed := impl.Collect(h)
	holdApart(t, "shared fields", slices.Concat(heapSpans(after), []span{spanOf(freed), spanOf(h.Buffer)}))
	if !reflect.DeepEqual(before, wholeHeap(h)) {
		t.Error("shared fields are written into")
	}
}
