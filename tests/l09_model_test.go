package tests

import (
	"fmt"
	"math"
	"math/rand"
	"reflect"
	"slices"
	"strings"
	"testing"

	"loop.example/g01412/impl"
)

var (
	_ func() impl.Graph                                   = impl.GraphNew
	_ func(impl.Graph) bool                               = impl.GraphOk
	_ func(impl.Heap) impl.Graph                          = impl.GraphOf
	_ func(impl.Graph, int) int                           = impl.GraphCount
	_ func(impl.Graph) []int                              = impl.GraphReach
	_ func(impl.Graph, impl.Op) (impl.Graph, impl.Answer) = impl.GraphStep
	_ func([]impl.Op) (impl.Graph, []impl.Answer)         = impl.GraphPlay
	_ func(impl.Graph, impl.Graph) bool                   = impl.SameGraph
	_                                                     = impl.Node{Live: true, Gen: 1, Site: 2, Holds: 3, Roots: 4, Field: []int{5}}
	_                                                     = impl.Graph{Nodes: []impl.Node{{}}, Weaks: []impl.Weak{{}}, Sites: []string{"s"}}
)

// Graphs, whose memory is whose, and what chapter 9 says of them, told once more: by going through all, without maps.

// graphTold is GraphOf, field by field.
func graphTold(h impl.Heap) impl.Graph {
	g := impl.Graph{Weaks: append([]impl.Weak{}, h.Weaks...), Sites: append([]string{}, h.Sites...)}
	for _, o := range h.Objs {
		var n impl.Node
		n.Live, n.Gen, n.Site, n.Holds, n.Roots = o.Live, o.Gen, o.Site, o.Holds, o.Roots
		n.Field = append([]int{}, o.Field...)
		g.Nodes = append(g.Nodes, n)
	}
	return g
}

// heapLike is the graph as a heap, without counts.
func heapLike(g impl.Graph) impl.Heap {
	h := impl.Heap{Weaks: slices.Clone(g.Weaks), Sites: slices.Clone(g.Sites)}
	for _, n := range g.Nodes {
		h.Objs = append(h.Objs, impl.Obj{Live: n.Live, Gen: n.Gen, Site: n.Site, Holds: n.Holds, Roots: n.Roots, Field: slices.Clone(n.Field)})
	}
	return h
}

// graphCopy is the graph in memory of its own, each list with room for some more behind it, in which something stands.
func graphCopy(g impl.Graph) impl.Graph {
	c := impl.Graph{Nodes: roomy(g.Nodes, impl.Node{Gen: 77}), Weaks: roomy(g.Weaks, impl.Weak{Target: 77}), Sites: roomy(g.Sites, "behind")}
	all := c.Nodes[:cap(c.Nodes)]
	for i := range all {
		all[i].Field = roomy(all[i].Field, 77)
	}
	return c
}

func wholeGraph(g impl.Graph) impl.Graph {
	w := impl.Graph{Nodes: whole(g.Nodes), Weaks: whole(g.Weaks), Sites: whole(g.Sites)}
	for i := range w.Nodes {
		w.Nodes[i].Field = whole(w.Nodes[i].Field)
	}
	return w
}

func graphSpans(g impl.Graph) []span {
	l := []span{spanOf(g.Nodes), spanOf(g.Weaks), spanOf(g.Sites)}
	for _, n := range g.Nodes[:cap(g.Nodes)] {
		l = append(l, spanOf(n.Field))
	}
	return l
}

// alikeGraph is asked of graphs in which an empty list and nil are the same.
func alikeGraph(a impl.Graph, b impl.Graph) bool {
	return reflect.DeepEqual(graphTold(heapLike(a)), graphTold(heapLike(b)))
}

// holdGraphUnwritten runs do with a copy of the graph, and asks whether anything was written into it or behind it.
func holdGraphUnwritten(t *testing.T, what string, g impl.Graph, do func(impl.Graph)) {
	t.Helper()
	given := graphCopy(g)
	before := wholeGraph(given)
	do(given)
	if !reflect.DeepEqual(before, wholeGraph(given)) {
		t.Errorf("%s: the graph that was handed in is written into", what)
	}
}

func graphRightTold(g impl.Graph) bool {
	if len(g.Nodes) != 8 || len(g.Weaks) != 8 || len(g.Sites) > 6 {
		return false
	}
	for _, n := range g.Nodes {
		if n.Gen < 0 || n.Gen > 999 || n.Holds < 0 || n.Holds > 20 || n.Roots < 0 || n.Roots > 20 || len(n.Field) != 3 {
			return false
		}
	}
	return true
}

// graphCountTold: what stands behind the eighth is in no slot; what is of no generation that an id has has the id -1.
func graphCountTold(g impl.Graph, slot int) int {
	if slot < 0 || slot > 7 || slot >= len(g.Nodes) || !g.Nodes[slot].Live {
		return 0
	}
	n := g.Nodes[slot]
	id := slot + 8*n.Gen
	if n.Gen < 1 || n.Gen > 999 {
		id = -1
	}
	count := n.Holds + n.Roots
	for _, from := range g.Nodes {
		for _, f := range from.Field {
			if from.Live && f == id {
				count++
			}
		}
	}
	return count
}

// graphReachTold: in as many rounds as there are nodes, all that is in takes in what it leads to.
func graphReachTold(g impl.Graph) []int {
	h := heapLike(g)
	in := make([]bool, len(g.Nodes))
	for slot, n := range g.Nodes {
		in[slot] = n.Live && n.Holds+n.Roots > 0
	}
	for range g.Nodes {
		for slot, n := range g.Nodes {
			for _, f := range n.Field {
				if to := placeOf(h, f); to >= 0 && in[slot] {
					in[to] = true
				}
			}
		}
	}
	var l []int
	for slot := range in {
		if in[slot] {
			l = append(l, slot)
		}
	}
	return l
}

// goneTold frees all at once of which it is said that they go, and answers how many these were.
func goneTold(g *impl.Graph, ids *[]int, goes func(slot int) bool) int {
	var gone []int
	for slot, n := range g.Nodes {
		if n.Live && goes(slot) {
			gone = append(gone, slot)
		}
	}
	for _, slot := range gone {
		gen := g.Nodes[slot].Gen
		*ids = append(*ids, impl.IdOf(slot, gen))
		g.Nodes[slot] = impl.Node{Gen: gen, Field: []int{-1, -1, -1}}
	}
	return len(gone)
}

// graphStepTold is GraphStep by the chapter's words.
func graphStepTold(g impl.Graph, o impl.Op) (impl.Graph, impl.Answer) {
	h := heapLike(g)
	if !graphRightTold(g) {
		return g, impl.Answer{Code: impl.ErRange}
	}
	if code := wantCode(h, o); code != impl.ErOk {
		return g, impl.Answer{Code: code}
	}
	made, val := changed(h, o)
	after := graphTold(made)
	var freed []int
	switch o.Kind {
	case impl.OpRetain, impl.OpRelease, impl.OpRoot, impl.OpUnroot, impl.OpStore:
		for goneTold(&after, &freed, func(slot int) bool { return graphCountTold(after, slot) == 0 }) > 0 {
		}
	case impl.OpCollect:
		reached := graphReachTold(after)
		goneTold(&after, &freed, func(slot int) bool { return !slices.Contains(reached, slot) })
	}
	slices.Sort(freed)
	return after, impl.Answer{Val: val, Freed: slices.Compact(freed)}
}

// holdGraphStep holds one step against what is told, and answers what it leaves.
func holdGraphStep(t *testing.T, what string, g impl.Graph, o impl.Op) (impl.Graph, impl.Answer) {
	t.Helper()
	after, a := impl.GraphStep(g, o)
	want, told := graphStepTold(g, o)
	if !sameTold(a, told) || !alikeGraph(after, want) {
		t.Errorf("%s: %+v is answered %+v, want %+v, and leaves\n%v, want\n%v, of\n%v", what, o, a, told, after, want, g)
	}
	return after, a
}

func rises(l []int) bool {
	for i := 1; i < len(l); i++ {
		if l[i-1] >= l[i] {
			return false
		}
	}
	return true
}

// holdSameMeaning: the answer of a heap is that of its graph, but for the order of what is freed, and that of the graph rises.
func holdSameMeaning(t *testing.T, what string, o impl.Op, a impl.Answer, b impl.Answer) {
	t.Helper()
	freed := slices.Sorted(slices.Values(a.Freed))
	if a.Code != b.Code || a.Val != b.Val || !slices.Equal(freed, b.Freed) || !rises(b.Freed) {
		t.Errorf("%s: %+v is answered %+v, and by the graph %+v", what, o, a, b)
	}
}

// holdMeaning is promise 9 of one operation behind a play: of the heap that this left, and of its graph.
func holdMeaning(t *testing.T, what string, h impl.Heap, g impl.Graph, o impl.Op) (impl.Heap, impl.Graph, impl.Answer) {
	t.Helper()
	left, a := impl.Apply(h, o)
	after, b := impl.GraphStep(g, o)
	holdSameMeaning(t, what, o, a, b)
	if !alikeGraph(impl.GraphOf(left), after) || !alikeGraph(graphTold(left), after) || !impl.SameGraph(impl.GraphOf(left), after) {
		t.Errorf("%s: behind %+v there is\n%v, and by the graph\n%v", what, o, left, after)
	}
	return left, after, a
}

func TestMeaningOfLongPlays(t *testing.T) {
	freed, answered := map[int]int{}, map[[2]int]int{}
	for seed := range 150 {
		r := rand.New(rand.NewSource(int64(seed)))
		h, g := impl.HeapNew(), impl.GraphNew()
		var l []impl.Op
		var answers []impl.Answer
		for step := range 200 {
			o := someOperation(r, h)
			left, after, a := holdMeaning(t, fmt.Sprintf("play %d, step %d", seed, step), h, g, o)
			if t.Failed() {
				return
			}
			h, g, l, answers = left, after, append(l, o), append(answers, a)
			freed[len(a.Freed)]++
			answered[[2]int{o.Kind, a.Code}]++
		}
		whole, told := impl.GraphPlay(l)
		if len(told) != len(l) || !alikeGraph(whole, graphTold(h)) {
			t.Fatalf("play %d: GraphPlay has %d answers, and leaves\n%v, want\n%v", seed, len(told), whole, g)
		}
		for i, a := range answers {
			holdSameMeaning(t, fmt.Sprintf("play %d as a whole, step %d", seed, i), l[i], a, told[i])
		}
	}
	holdManifold(t, freed, answered)
}

// Play and GraphPlay of each beginning of a play, by themselves.
func TestMeaningOfEachBeginning(t *testing.T) {
	for seed := range 12 {
		r := rand.New(rand.NewSource(int64(1000 + seed)))
		h := impl.HeapNew()
		var l []impl.Op
		for range 60 {
			l = append(l, someOperation(r, h))
			h, _ = impl.Apply(h, l[len(l)-1])
		}
		for k := range len(l) + 1 {
			left, answers := impl.Play(l[:k])
			g, told := impl.GraphPlay(l[:k])
			if len(told) != k || !impl.SameGraph(impl.GraphOf(left), g) || !alikeGraph(graphTold(left), g) {
				t.Fatalf("play %d, the first %d: %d answers\n%v, and by the graph\n%v", seed, k, len(told), left, g)
			}
			for i := range told {
				holdSameMeaning(t, fmt.Sprintf("play %d, %d of the first %d", seed, i, k), l[i], answers[i], told[i])
			}
		}
	}
}

func holdMeaningOfAll(t *testing.T, h impl.Heap, g impl.Graph, ops []impl.Op, left int) {
	t.Helper()
	for _, o := range ops {
		after, graph, _ := holdMeaning(t, "short", h, g, o)
		if left > 1 && !t.Failed() {
			holdMeaningOfAll(t, after, graph, ops, left-1)
		}
	}
}

// Each way to go on from two that lead to each other, short enough to try them all.
func TestMeaningOfAllShortPlays(t *testing.T) {
	for _, row := range []struct {
		first, ops []impl.Op
	}{
		{
			[]impl.Op{alloc("a"), alloc("b"), store(8, 0, 9), store(9, 0, 8)},
			[]impl.Op{alloc("a"), release(8), release(9), store(8, 0, -1), store(8, 1, 9), store(9, 0, 10), store(9, 0, 9), store(10, 0, 8), collect()},
		},
		{
			[]impl.Op{alloc("a"), alloc("b"), store(8, 0, 9), release(9), weak(9), root(8)},
			[]impl.Op{alloc("c"), retain(9), release(8), release(9), unroot(8), weak(16), load(0), load(1), drop(0)},
		},
	} {
		h, _ := impl.Play(row.first)
		g, _ := impl.GraphPlay(row.first)
		holdMeaningOfAll(t, h, g, row.ops, 4)
	}
}

// Each code of each kind, taken at its limits, in one play each.
func TestMeaningAtTheLimits(t *testing.T) {
	var full, names, handles, holds []impl.Op
	for i := range 9 {
		full = append(full, alloc("a"))
		names = append(names, alloc(string(rune('a'+i))), release(8*(i+1)))
		handles = append(handles, weak(8))
	}
	for range 21 {
		holds = append(holds, retain(8), root(8))
	}
	for range 22 {
		holds = append(holds, release(8), unroot(8))
	}
	one := []impl.Op{alloc("a")}
	for name, l := range map[string][]impl.Op{
		"slots":   slices.Concat(full, []impl.Op{alloc(""), release(11), alloc("123456789"), alloc("12345678"), alloc("b")}),
		"names":   slices.Concat(names, []impl.Op{alloc("b")}),
		"handles": slices.Concat(one, handles, []impl.Op{weak(9), drop(8), drop(-1), drop(4), load(4), weak(8), load(7), release(8), load(7), drop(7), load(7)}),
		"holds":   slices.Concat(one, holds),
		"fields":  slices.Concat(one, []impl.Op{store(8, -1, 8), store(8, 3, 8), store(8, 3, 9), store(8, 2, 9), store(8, 2, -2), store(9, 2, 8), store(8, 2, 8), store(8, 0, 8), release(8), store(8, 2, -1), store(8, 0, -1)}),
		"kinds":   slices.Concat(one, []impl.Op{{}, {Kind: 11, A: 8}, {Kind: -1, A: 8}, {Kind: math.MaxInt, A: 8}, {Kind: 3 + 1<<32, A: 8}}),
	} {
		h, g := impl.HeapNew(), impl.GraphNew()
		for i, o := range l {
			h, g, _ = holdMeaning(t, fmt.Sprintf("%s, step %d", name, i), h, g, o)
		}
	}
}

// chainPlay makes eight, one in each slot, of which each leads to the next one in this order, and only the first is held; the slots with higher numbers are of lower generations.
func chainPlay(order []int) ([]impl.Op, []int) {
	var l []impl.Op
	ids := make([]int, 8)
	for gen := 1; gen <= 8; gen++ {
		for slot := range 9 - gen {
			l = append(l, alloc("c"))
			ids[slot] = slot + 8*gen
		}
		for slot := range 8 - gen {
			l = append(l, release(slot+8*gen))
		}
	}
	for i := range 7 {
		l = append(l, store(ids[order[i]], i%3, ids[order[i+1]]), release(ids[order[i+1]]))
	}
	return l, ids
}

func TestChainGoesAllAtOnce(t *testing.T) {
	orders := [][]int{{0, 1, 2, 3, 4, 5, 6, 7}, {7, 6, 5, 4, 3, 2, 1, 0}}
	r := rand.New(rand.NewSource(9))
	for range 60 {
		orders = append(orders, r.Perm(8))
	}
	for _, order := range orders {
		what := fmt.Sprint("chain ", order)
		l, ids := chainPlay(order)
		h, _ := impl.Play(l)
		g, _ := impl.GraphPlay(l)
		if len(impl.LiveIds(h)) != 8 || len(impl.GraphReach(g)) != 8 {
			t.Fatal(what, "is not made", h)
		}
		_, _, a := holdMeaning(t, what, h, g, release(ids[order[0]]))
		inOrder := make([]int, 8)
		for i, slot := range order {
			inOrder[i] = ids[slot]
		}
		after, b := impl.GraphStep(g, release(ids[order[0]]))
		if !slices.Equal(a.Freed, inOrder) || !slices.Equal(b.Freed, slices.Sorted(slices.Values(ids))) || b.Code != impl.ErOk || b.Val != 0 {
			t.Errorf("%s: freed %v, and by the graph %v", what, a.Freed, b.Freed)
		}
		for slot, n := range after.Nodes {
			if n.Live || n.Gen != ids[slot]/8 || n.Site != 0 || n.Holds != 0 || n.Roots != 0 || !slices.Equal(n.Field, []int{-1, -1, -1}) {
				t.Errorf("%s: slot %d has %+v", what, slot, n)
			}
		}
		// Cut behind the first, all others go.
		_, b = impl.GraphStep(g, store(ids[order[0]], 0, -1))
		rest := slices.DeleteFunc(slices.Sorted(slices.Values(ids)), func(id int) bool { return id == ids[order[0]] })
		if !slices.Equal(b.Freed, rest) {
			t.Errorf("%s, cut: freed by the graph %v, want %v", what, b.Freed, rest)
		}
		// Held in the middle, what is behind stays.
		held, _ := impl.GraphStep(g, root(ids[order[4]]))
		_, b = impl.GraphStep(held, release(ids[order[0]]))
		if len(b.Freed) != 4 || slices.Contains(b.Freed, ids[order[4]]) || !rises(b.Freed) {
			t.Errorf("%s, held in the middle: freed by the graph %v", what, b.Freed)
		}
	}
}

func TestRingThatIsLetGo(t *testing.T) {
	// 8, 9 and 10 lead to each other in a ring, 10 to 11 too; nothing but 8 is held.
	l := []impl.Op{alloc("a"), alloc("a"), alloc("a"), alloc("a"), store(8, 0, 9), store(9, 1, 10), store(10, 2, 8), store(10, 0, 11), release(9), release(10), release(11)}
	g, _ := impl.GraphPlay(l)
	left, a := holdGraphStep(t, "let go", g, release(8))
	if len(a.Freed) != 0 || len(impl.GraphReach(left)) != 0 || impl.GraphCount(left, 0) != 1 {
		t.Error("a ring that is let go stays", a, left)
	}
	_, a = holdGraphStep(t, "collected", left, collect())
	if !slices.Equal(a.Freed, []int{8, 9, 10, 11}) {
		t.Error("a ring that is let go is collected", a)
	}
	_, a = holdGraphStep(t, "cut", left, store(9, 1, -1))
	if !slices.Equal(a.Freed, []int{8, 9, 10, 11}) {
		t.Error("a ring that is cut goes", a)
	}
	// Nothing that still is held goes with it.
	kept, _ := impl.GraphStep(left, root(11))
	kept, a = holdGraphStep(t, "11 is rooted", kept, collect())
	if !slices.Equal(a.Freed, []int{8, 9, 10}) || !slices.Equal(impl.GraphReach(kept), []int{3}) {
		t.Error("what a ring led to stays", a)
	}
	again, a := holdGraphStep(t, "once more", kept, collect())
	if a.Code != impl.ErOk || len(a.Freed) != 0 || !alikeGraph(again, kept) {
		t.Error("nothing is left to collect", a)
	}
}

func TestGraphNewIsOfHeapNew(t *testing.T) {
	want := impl.Graph{Weaks: make([]impl.Weak, 8)}
	for range 8 {
		want.Nodes = append(want.Nodes, impl.Node{Field: []int{-1, -1, -1}})
	}
	first := impl.GraphNew()
	if !alikeGraph(first, want) || !alikeGraph(first, impl.GraphOf(impl.HeapNew())) || !impl.SameGraph(first, impl.GraphOf(impl.HeapNew())) || !impl.GraphOk(first) {
		t.Error("GraphNew", first)
	}
	holdApart(t, "GraphNew", append(graphSpans(first), graphSpans(impl.GraphNew())...))
	for slot := range first.Nodes {
		first.Nodes[slot].Field[0] = 8
		first.Weaks[slot].Used = true
	}
	if !alikeGraph(impl.GraphNew(), want) {
		t.Error("GraphNew is not new", impl.GraphNew())
	}
}

func TestGraphOfAnyHeap(t *testing.T) {
	all := playedHeaps()
	for name, h := range wrongHeaps() {
		all["wrong: "+name] = h
	}
	all["one list"] = oneListHeap()
	for _, row := range wrongInOneThing() {
		h := baseHeap()
		row.change(&h)
		all["wrong: "+row.name] = h
	}
	for name, h := range all {
		holdUnwritten(t, name, h, func(given impl.Heap) {
			g := impl.GraphOf(given)
			if !alikeGraph(g, graphTold(h)) {
				t.Errorf("%s: GraphOf is\n%v of\n%v", name, g, h)
			}
			spans := append(graphSpans(g), graphSpans(impl.GraphOf(given))...)
			if name != "one list" {
				spans = append(spans, heapSpans(given)...)
			}
			holdApart(t, name, spans)
		})
	}
	g := impl.GraphOf(baseHeap())
	if !g.Nodes[1].Live || g.Nodes[3].Gen != 3 || g.Nodes[1].Site != 1 || g.Nodes[3].Holds != 2 || g.Nodes[1].Roots != 1 || !slices.Equal(g.Nodes[0].Field, []int{9, -1, 8}) || g.Weaks[2].Target != 42 || strings.Join(g.Sites, " ") != "a bb" {
		t.Error("GraphOf", g)
	}
}

type graphRow struct {
	name   string
	change func(g *impl.Graph)
}

func baseGraph() impl.Graph { return graphTold(baseHeap()) }

// rightGraphs: a graph is asked for less than a heap is.
func rightGraphs() []graphRow {
	l := []graphRow{
		{"as it is", func(g *impl.Graph) {}},
		{"new", func(g *impl.Graph) { *g = impl.GraphNew() }},
		{"no names", func(g *impl.Graph) { g.Sites = nil }},
		{"six names", func(g *impl.Graph) { g.Sites = append(g.Sites, "c", "d", "e", "f") }},
		{"names that no heap has", func(g *impl.Graph) { g.Sites = []string{"", "", longText(300), "a", "a"} }},
		{"a name that there is not", func(g *impl.Graph) { g.Nodes[0].Site, g.Nodes[1].Site = -5, 99 }},
		{"handles that no heap has", func(g *impl.Graph) {
			g.Weaks[0] = impl.Weak{Used: true, Target: -7}
			g.Weaks[1] = impl.Weak{Target: 9}
			g.Weaks[3] = impl.Weak{Used: true, Target: 8000}
		}},
		{"nothing keeps it", func(g *impl.Graph) { g.Nodes[5] = impl.Node{Live: true, Gen: 2, Field: []int{9, -1, -1}} }},
		{"live of generation 0", func(g *impl.Graph) { g.Nodes[5] = impl.Node{Live: true, Holds: 1, Field: []int{9, -1, -1}} }},
		{"fields to nothing live", func(g *impl.Graph) { g.Nodes[3].Field = []int{math.MinInt, 42, math.MaxInt} }},
		{"not live, with all else", func(g *impl.Graph) {
			g.Nodes[4] = impl.Node{Gen: 3, Site: 7, Holds: 20, Roots: 20, Field: []int{8, 9, 27}}
		}},
	}
	for _, n := range []int{0, 1, 19, 20} {
		for _, slot := range []int{0, 4, 7} {
			l = append(l, graphRow{fmt.Sprintf("slot %d holds %d", slot, n), func(g *impl.Graph) { g.Nodes[slot].Holds = n }},
				graphRow{fmt.Sprintf("slot %d, roots %d", slot, n), func(g *impl.Graph) { g.Nodes[slot].Roots = n }})
		}
	}
	for _, n := range []int{0, 1, 998, 999} {
		for _, slot := range []int{0, 4, 7} {
			l = append(l, graphRow{fmt.Sprintf("slot %d, generation %d", slot, n), func(g *impl.Graph) { g.Nodes[slot].Gen = n }})
		}
	}
	return l
}

func wrongGraphs() []graphRow {
	l := []graphRow{
		{"zero", func(g *impl.Graph) { *g = impl.Graph{} }},
		{"nodes alone", func(g *impl.Graph) { *g = impl.Graph{Nodes: g.Nodes} }},
		{"no nodes", func(g *impl.Graph) { g.Nodes = nil }},
		{"seven nodes", func(g *impl.Graph) { g.Nodes = g.Nodes[:7] }},
		{"nine nodes", func(g *impl.Graph) { g.Nodes = append(g.Nodes, impl.Node{Field: []int{-1, -1, -1}}) }},
		{"sixteen nodes", func(g *impl.Graph) { g.Nodes = append(g.Nodes, impl.GraphNew().Nodes...) }},
		{"no handles", func(g *impl.Graph) { g.Weaks = nil }},
		{"seven handles", func(g *impl.Graph) { g.Weaks = g.Weaks[:7] }},
		{"nine handles", func(g *impl.Graph) { g.Weaks = append(g.Weaks, impl.Weak{}) }},
		{"seven names", func(g *impl.Graph) { g.Sites = append(g.Sites, "c", "d", "e", "f", "g") }},
		{"many names", func(g *impl.Graph) { g.Sites = make([]string, 100) }},
	}
	for _, slot := range []int{0, 2, 7} {
		node := func(what string, change func(n *impl.Node)) {
			l = append(l, graphRow{fmt.Sprintf("slot %d: %s", slot, what), func(g *impl.Graph) { change(&g.Nodes[slot]) }})
		}
		for _, n := range []int{-1, -2, 21, 1 << 32, math.MinInt, math.MaxInt} {
			node(fmt.Sprint("holds ", n), func(x *impl.Node) { x.Holds = n })
			node(fmt.Sprint("roots ", n), func(x *impl.Node) { x.Roots = n })
		}
		for _, n := range []int{-1, -2, 1000, 1001, 1 << 32, math.MinInt, math.MaxInt} {
			node(fmt.Sprint("generation ", n), func(x *impl.Node) { x.Gen = n })
		}
		node("no fields", func(x *impl.Node) { x.Field = nil })
		node("two fields", func(x *impl.Node) { x.Field = x.Field[:2] })
		node("four fields", func(x *impl.Node) { x.Field = append(x.Field, -1) })
		node("many fields", func(x *impl.Node) { x.Field = slices.Repeat([]int{8}, 50) })
	}
	return l
}

func TestGraphOk(t *testing.T) {
	for _, row := range rightGraphs() {
		g := baseGraph()
		row.change(&g)
		if !graphRightTold(g) || !impl.GraphOk(g) {
			t.Errorf("%s: GraphOk says false", row.name)
		}
	}
	for _, row := range wrongGraphs() {
		g := baseGraph()
		row.change(&g)
		if graphRightTold(g) || impl.GraphOk(g) {
			t.Errorf("%s: GraphOk says true", row.name)
		}
	}
	for name, h := range rightHeaps() {
		if !impl.GraphOk(graphTold(h)) {
			t.Errorf("%s: GraphOk of a right heap's graph says false", name)
		}
	}
}

func holdGraphCounts(t *testing.T, what string, g impl.Graph, counts ...int) {
	t.Helper()
	for slot, want := range counts {
		if got := impl.GraphCount(g, slot); got != want {
			t.Errorf("%s: GraphCount of slot %d is %d, want %d", what, slot, got, want)
		}
	}
	for _, slot := range append(edgeNumbers(), -1, -2, -8, 8, 9, 15, 16, 1<<32) {
		if slot < 0 || slot > 7 {
			if got := impl.GraphCount(g, slot); got != 0 {
				t.Errorf("%s: GraphCount of slot %d is %d", what, slot, got)
			}
		}
	}
}

func TestGraphCount(t *testing.T) {
	holdGraphCounts(t, "base", baseGraph(), 4, 2, 0, 3, 0, 0, 0, 0)
	holdGraphCounts(t, "full", graphTold(fullHeap()), 3, 4, 3, 4, 3, 4, 3, 4)
	holdGraphCounts(t, "star", graphTold(starHeap()), 25, 1, 1, 1, 1, 1, 1, 1)
	holdGraphCounts(t, "edge", graphTold(edgeHeap()), 44, 0, 0, 0, 0, 0, 21, 21)
	// 10 leads to itself by all its fields; 8 leads to 9 by two of them.
	g := graphTold(heapWith([]string{"a"}, at(0, 1, 0, 1, 1), at(1, 0, 0, -1, 3), at(2, 0, 0, 2, 2, 2), at(3, 2, 3)))
	holdGraphCounts(t, "itself", g, 1, 2, 3, 6, 0, 0, 0, 0)
	for name, h := range playedHeaps() {
		g := graphTold(h)
		for slot, o := range h.Objs {
			if got := impl.GraphCount(g, slot); got != o.Count {
				t.Errorf("%s: GraphCount of slot %d is %d, and Count of it %d", name, slot, got, o.Count)
			}
		}
	}
}

func TestGraphCountOfWhatNothingLiveLeadsTo(t *testing.T) {
	g := baseGraph()
	g.Nodes[2].Field = []int{27, 27, 27}
	g.Nodes[4] = impl.Node{Gen: 1, Holds: 3, Roots: 4, Field: []int{8, 9, 27}}
	holdGraphCounts(t, "fields of what is not live", g, 4, 2, 0, 3, 0, 0, 0, 0)
	g.Nodes[0].Field = []int{19, 42, 50}
	g.Nodes[1].Field = []int{12, 0, 1}
	holdGraphCounts(t, "other generations, and what is not live", g, 1, 1, 0, 2, 0, 0, 0, 0)
}

func TestGraphCountOfWrongGraphs(t *testing.T) {
	g := baseGraph()
	g.Nodes[0].Field = nil
	g.Nodes[1].Field = []int{8}
	g.Nodes[3].Field = []int{8, 9, 27, 8, 8, 9, -1}
	g.Nodes[3].Holds = -9
	holdGraphCounts(t, "too few and too many fields", g, 5, 3, 0, -8, 0, 0, 0, 0)
	few := baseGraph()
	few.Nodes = few.Nodes[:2]
	holdGraphCounts(t, "two nodes", few, 4, 2, 0, 0, 0, 0, 0, 0)
	many := baseGraph()
	many.Nodes = append(many.Nodes, impl.Node{Live: true, Gen: 1, Holds: 2, Field: []int{-1, 16, 27}}, impl.Node{Holds: 1, Field: []int{27}})
	holdGraphCounts(t, "ten nodes", many, 4, 2, 0, 4, 0, 0, 0, 0)
	holdGraphCounts(t, "zero", impl.Graph{})
	// What is live of a generation that no id has has the id -1, as in InEdges.
	for _, gen := range []int{0, -1, 1000} {
		g := baseGraph()
		g.Nodes[5] = impl.Node{Live: true, Gen: gen, Roots: 7, Field: []int{-1, 5 + 8*gen, 8}}
		h := heapLike(g)
		holdGraphCounts(t, fmt.Sprint("generation ", gen), g, 5, 2, 0, 3, 0, 7+impl.InEdges(h, 5), 0, 0)
	}
}

func holdReach(t *testing.T, what string, g impl.Graph, want ...int) {
	t.Helper()
	if got := impl.GraphReach(g); !slices.Equal(got, want) {
		t.Errorf("%s: GraphReach is %v, want %v", what, got, want)
	}
}

func TestGraphReach(t *testing.T) {
	holdReach(t, "new", impl.GraphNew())
	holdReach(t, "base", baseGraph(), 0, 1, 3)
	holdReach(t, "full", graphTold(fullHeap()), 0, 1, 2, 3, 4, 5, 6, 7)
	holdReach(t, "chain", graphTold(chainHeap()), 0, 1, 2, 3, 4, 5, 6)
	holdReach(t, "leak", graphTold(leakHeap()))
	ring := func(things ...thing) impl.Graph {
		return graphTold(heapWith([]string{"a"}, append(things, at(4, 0, 0, 5), at(5, 0, 0, 4))...))
	}
	holdReach(t, "rings that are not held", ring(at(0, 0, 0, 1), at(1, 0, 0, 0), at(2, 0, 0, 2)))
	holdReach(t, "a ring that is held", ring(at(0, 0, 0, 1), at(1, 1, 0, 0)), 0, 1)
	holdReach(t, "a ring that is rooted", ring(at(0, 0, 2, 1), at(1, 0, 0, -1, -1, 0)), 0, 1)
	holdReach(t, "a ring that is held from without", ring(at(0, 0, 0, 1), at(1, 0, 0, 2), at(2, 0, 0, 0), at(7, 1, 0, -1, 2)), 0, 1, 2, 7)
	holdReach(t, "a ring that leads to what is held", ring(at(0, 0, 0, 1, 3), at(1, 0, 0, 0), at(3, 1, 0)), 3)
	holdReach(t, "held against the order of slots", ring(at(7, 1, 0, 6), at(6, 0, 0, 3), at(3, 0, 0, 2), at(2, 0, 0, 1), at(1, 0, 0, 0), at(0, 0, 0)), 0, 1, 2, 3, 6, 7)
	for name, h := range playedHeaps() {
		kept, _ := keptAndLeaked(h)
		holdReach(t, name, graphTold(h), kept...)
	}
}

func TestGraphReachOverWhatIsNotLive(t *testing.T) {
	g := graphTold(heapWith([]string{"a"}, at(0, 1, 0, 1), at(1, 0, 0, 2), at(2, 0, 0)))
	g.Nodes[1].Live = false
	holdReach(t, "what is between is not live", g, 0)
	g.Nodes[1].Holds = 5
	holdReach(t, "and is held", g, 0)
	g = graphTold(heapWith([]string{"a"}, at(0, 1, 0), at(1, 0, 0), at(2, 0, 0)))
	for _, id := range []int{1, 2, -7, -1, 17, 25, 33, 3, 11, 9 + 1<<32, math.MinInt, math.MaxInt} {
		g.Nodes[0].Field = []int{id, id, id}
		holdReach(t, fmt.Sprint("a field to ", id), g, 0)
	}
	g.Nodes[0].Field = []int{17, 33, 10}
	holdReach(t, "only the last field leads", g, 0, 2)
	g.Nodes[0].Holds, g.Nodes[0].Roots = 0, 1
	holdReach(t, "rooted", g, 0, 2)
	g.Nodes[0].Roots = 0
	holdReach(t, "neither", g)
}

func TestGraphReachOfWrongGraphs(t *testing.T) {
	g := graphTold(heapWith([]string{"a"}, at(0, 1, 0, 1), at(1, 0, 0, 2), at(2, 0, 0), at(3, 0, 1, 3)))
	holdReach(t, "eight nodes", g, 0, 1, 2, 3)
	for n := range 8 {
		few := graphCopy(g)
		few.Nodes = few.Nodes[:n]
		holdReach(t, fmt.Sprint(n, " nodes"), few, [][]int{nil, {0}, {0}, {0}, {0, 3}, {0, 3}, {0, 3}, {0, 3}}[n]...)
	}
	many := graphCopy(g)
	many.Nodes = append(many.Nodes, impl.Node{Gen: 1, Holds: 1, Field: []int{8, 9, 10}})
	holdReach(t, "nine nodes", many, 0, 3)
	// What stands behind the eighth is a live node as any other.
	many.Nodes = append(many.Nodes, impl.Node{Live: true, Gen: 1, Holds: 1, Field: []int{9}}, impl.Node{Live: true, Gen: 1})
	holdReach(t, "eleven nodes", many, 0, 3, 9)
	odd := graphCopy(g)
	odd.Nodes[0].Field = append(slices.Repeat([]int{-1}, 40), 9)
	odd.Nodes[1].Field = nil
	odd.Weaks, odd.Sites = nil, make([]string, 99)
	holdReach(t, "many fields and none", odd, 0, 1, 3)
	for _, row := range []struct {
		holds, roots int
		kept         bool
	}{{-1, 1, false}, {1, -1, false}, {-1, 2, true}, {3, -2, true}, {-3, 2, false}, {math.MaxInt, 1, true}, {math.MaxInt, math.MaxInt, true}, {math.MinInt, -1, false}, {math.MinInt, math.MinInt, false}, {math.MinInt, math.MaxInt, false}, {0, -5, false}, {1 << 62, 1 << 62, true}} {
		odd := graphCopy(g)
		odd.Nodes[3].Holds, odd.Nodes[3].Roots = row.holds, row.roots
		want := []int{0, 1, 2}
		if row.kept {
			want = append(want, 3)
		}
		holdReach(t, fmt.Sprintf("holds %d, roots %d", row.holds, row.roots), odd, want...)
	}
}

// Each kind with each argument, on graphs that a play leaves, and on others that are right.
func TestGraphStepOfEachKind(t *testing.T) {
	codes := map[[2]int]int{}
	try := func(what string, g impl.Graph) {
		for _, o := range operationsFor(heapLike(g)) {
			_, a := holdGraphStep(t, what, g, o)
			codes[[2]int{o.Kind, a.Code}]++
			if t.Failed() {
				return
			}
		}
	}
	for name, h := range rightHeaps() {
		try(name, graphTold(h))
	}
	for _, row := range rightGraphs() {
		g := baseGraph()
		row.change(&g)
		try(row.name, g)
	}
	for _, row := range [][2]int{
		{impl.OpAlloc, impl.ErOk}, {impl.OpAlloc, impl.ErRange}, {impl.OpAlloc, impl.ErFull}, {impl.OpAlloc, impl.ErSite},
		{impl.OpRetain, impl.ErOk}, {impl.OpRetain, impl.ErDead}, {impl.OpRetain, impl.ErCount},
		{impl.OpRelease, impl.ErOk}, {impl.OpRelease, impl.ErDead}, {impl.OpRelease, impl.ErNone},
		{impl.OpRoot, impl.ErOk}, {impl.OpRoot, impl.ErDead}, {impl.OpRoot, impl.ErCount},
		{impl.OpUnroot, impl.ErOk}, {impl.OpUnroot, impl.ErDead}, {impl.OpUnroot, impl.ErNone},
		{impl.OpStore, impl.ErOk}, {impl.OpStore, impl.ErDead}, {impl.OpStore, impl.ErRange},
		{impl.OpWeak, impl.ErOk}, {impl.OpWeak, impl.ErDead}, {impl.OpWeak, impl.ErFull},
		{impl.OpLoad, impl.ErOk}, {impl.OpLoad, impl.ErRange}, {impl.OpDrop, impl.ErOk}, {impl.OpDrop, impl.ErRange},
		{impl.OpCollect, impl.ErOk}, {0, impl.ErRange}, {11, impl.ErRange},
	} {
		if codes[row] == 0 {
			t.Errorf("kind %d is never answered %d", row[0], row[1])
		}
	}
}

// looseGraph is right, but mostly none that a heap has: nothing need keep what is live, and what is not live has anything.
func looseGraph(r *rand.Rand) impl.Graph {
	g := impl.GraphNew()
	for slot := range g.Nodes {
		n := &g.Nodes[slot]
		n.Live, n.Gen, n.Site = r.Intn(4) > 0, 1+r.Intn(3), r.Intn(9)-1
		if r.Intn(12) == 0 {
			n.Gen = []int{0, 998, 999}[r.Intn(3)]
		}
		if r.Intn(3) == 0 {
			n.Holds, n.Roots = r.Intn(2)*r.Intn(21), r.Intn(2)*r.Intn(21)
		}
	}
	for slot := range g.Nodes {
		for i := range 3 {
			to := r.Intn(8)
			g.Nodes[slot].Field[i] = []int{-1, to + 8*g.Nodes[to].Gen, to + 8*g.Nodes[to].Gen, r.Intn(40) - 8}[r.Intn(4)]
		}
		g.Weaks[slot] = impl.Weak{Used: r.Intn(3) > 0, Target: r.Intn(40) - 4}
	}
	for range r.Intn(7) {
		g.Sites = append(g.Sites, []string{"", "a", "b", "c", "long enough"}[r.Intn(5)])
	}
	return g
}

func TestAnyRightGraphStepsAsTold(t *testing.T) {
	freed := map[[2]int]int{}
	for seed := range 1500 {
		r := rand.New(rand.NewSource(int64(seed)))
		g := looseGraph(r)
		for step := range 12 {
			what := fmt.Sprintf("graph %d, step %d", seed, step)
			if !graphRightTold(g) || !impl.GraphOk(g) {
				t.Fatal(what, "is not right", g)
			}
			holdReach(t, what, g, graphReachTold(g)...)
			for slot := range 8 {
				if got, want := impl.GraphCount(g, slot), graphCountTold(g, slot); got != want {
					t.Errorf("%s: GraphCount of slot %d is %d, want %d", what, slot, got, want)
				}
			}
			o := someOperation(r, heapLike(g))
			after, a := holdGraphStep(t, what, g, o)
			freed[[2]int{o.Kind, len(a.Freed)}]++
			if !rises(a.Freed) {
				t.Errorf("%s: %v does not rise", what, a.Freed)
			}
			if t.Failed() {
				return
			}
			g = after
		}
	}
	for _, kind := range []int{impl.OpRetain, impl.OpRelease, impl.OpRoot, impl.OpUnroot, impl.OpStore, impl.OpCollect} {
		if freed[[2]int{kind, 1}]+freed[[2]int{kind, 2}]+freed[[2]int{kind, 3}] == 0 {
			t.Errorf("kind %d never frees anything", kind)
		}
	}
}

// What nothing keeps goes behind the five kinds alone, and not where these are refused. Here nothing keeps 22, and 22 alone 29.
func TestWhatGoesBehindWhich(t *testing.T) {
	g := graphTold(heapWith([]string{"a"}, at(0, 1, 1, 1), at(1, 0, 0)))
	g.Nodes[6] = impl.Node{Live: true, Gen: 2, Field: []int{29, -1, -1}}
	g.Nodes[5] = impl.Node{Live: true, Gen: 3, Field: []int{-1, -1, 45}}
	g.Weaks[1] = impl.Weak{Used: true, Target: 22}
	for _, o := range []impl.Op{retain(8), release(8), root(8), unroot(8), store(8, 1, -1), store(8, 0, 9), store(9, 2, 9)} {
		after, a := holdGraphStep(t, "done", g, o)
		if a.Code != impl.ErOk || !slices.Equal(a.Freed, []int{22, 29}) {
			t.Errorf("%+v is answered %+v, and leaves %v", o, a, after)
		}
	}
	for _, o := range []impl.Op{alloc("a"), alloc("b"), weak(8), load(1), load(0), drop(1), drop(7), alloc(""), retain(16), release(9), unroot(9), root(17), store(8, 3, 9), store(8, 0, 7), {Kind: 12, A: 8}} {
		_, a := holdGraphStep(t, "nothing goes", g, o)
		if len(a.Freed) != 0 {
			t.Errorf("%+v is answered %+v", o, a)
		}
	}
	_, a := holdGraphStep(t, "collect", g, collect())
	if !slices.Equal(a.Freed, []int{22, 29}) {
		t.Error("collect", a)
	}
}

// Behind a step a slot that was freed is used again as in a heap: the lowest one, in the next generation.
func TestGraphStepMakesInTheLowestFreeSlot(t *testing.T) {
	g, a := impl.GraphPlay([]impl.Op{alloc("a"), alloc("b"), alloc("a"), weak(9), release(9), release(8), alloc("c"), load(0), alloc("b"), load(0), alloc("")})
	var vals, codes []int
	for _, x := range a {
		vals, codes = append(vals, x.Val), append(codes, x.Code)
	}
	if !slices.Equal(vals, []int{8, 9, 10, 0, 0, 0, 16, -1, 17, -1, 0}) || !slices.Equal(codes, []int{0, 0, 0, 0, 0, 0, 0, 0, 0, 0, impl.ErRange}) {
		t.Error("answers", vals, codes)
	}
	if want := (impl.Node{Live: true, Gen: 2, Site: 2, Holds: 1, Field: []int{-1, -1, -1}}); !reflect.DeepEqual(g.Nodes[0], want) || strings.Join(g.Sites, " ") != "a b c" {
		t.Error("graph", g)
	}
	// What a slot that is not live had besides its generation is gone when it is used again.
	g = impl.GraphNew()
	g.Nodes[0] = impl.Node{Gen: 4, Site: 3, Holds: 7, Roots: 5, Field: []int{8, 9, 10}}
	after, x := impl.GraphStep(g, alloc("new"))
	if want := (impl.Node{Live: true, Gen: 5, Holds: 1, Field: []int{-1, -1, -1}}); x.Val != 40 || !reflect.DeepEqual(after.Nodes[0], want) {
		t.Error("used again", x, after)
	}
}

func TestGraphStepOfGraphsThatAreNotRight(t *testing.T) {
	for _, row := range wrongGraphs() {
		g := baseGraph()
		row.change(&g)
		for _, o := range []impl.Op{alloc("a"), alloc(""), retain(8), release(8), release(27), store(8, 0, 9), store(8, 9, 9), root(8), unroot(9), weak(8), weak(5), load(0), load(9), drop(0), collect(), {}, {Kind: 11}} {
			after, a := impl.GraphStep(g, o)
			if !sameTold(a, impl.Answer{Code: impl.ErRange}) || !alikeGraph(after, g) {
				t.Errorf("%s: %+v is answered %+v, and leaves\n%v of\n%v", row.name, o, a, after, g)
			}
		}
	}
}

// Two of generation 0 have the id -1, and a list that rises has no two alike.
func TestGraphStepOfWhatHasNoId(t *testing.T) {
	g := impl.GraphNew()
	for slot := range g.Nodes {
		g.Nodes[slot] = impl.Node{Live: true, Field: []int{50, 50, 50}}
	}
	g.Nodes[3] = impl.Node{Live: true, Gen: 2, Holds: 1, Field: []int{50, 50, 50}}
	after, a := holdGraphStep(t, "no ids", g, collect())
	if !slices.Equal(a.Freed, []int{-1}) || !slices.Equal(impl.GraphReach(after), []int{3}) || after.Nodes[0].Live {
		t.Error("collected", a, after)
	}
	after, a = holdGraphStep(t, "no ids", g, release(19))
	if !slices.Equal(a.Freed, []int{-1, 19}) || after.Nodes[7].Live {
		t.Error("let go", a, after)
	}
}

func TestGraphPlayStopsAtMaxFrames(t *testing.T) {
	if g, a := impl.GraphPlay(nil); !alikeGraph(g, graphTold(emptyHeap())) || len(a) != 0 {
		t.Error("GraphPlay of nothing", g, a)
	}
	r := rand.New(rand.NewSource(7))
	g := impl.GraphNew()
	var l []impl.Op
	var graphs []impl.Graph
	var answers []impl.Answer
	for range 402 {
		o := someOperation(r, heapLike(g))
		next, a := impl.GraphStep(g, o)
		l, graphs, answers = append(l, o), append(graphs, next), append(answers, a)
		g = next
	}
	for _, n := range []int{1, 2, 50, 399, 400, 401, 402} {
		got, told := impl.GraphPlay(l[:n])
		n = min(n, 400)
		if !alikeGraph(got, graphs[n-1]) || !slices.EqualFunc(told, answers[:n], sameTold) {
			t.Errorf("GraphPlay of %d operations tells %d answers, or leaves another graph", n, len(told))
		}
	}
	edge := append(slices.Repeat([]impl.Op{collect()}, 399), alloc("a"), alloc("b"), alloc("c"))
	for n, live := range map[int]int{399: 0, 400: 1, 401: 1, 402: 1} {
		if g, a := impl.GraphPlay(edge[:n]); len(a) != min(n, 400) || len(impl.GraphReach(g)) != live {
			t.Errorf("%d operations: %d answers, %v are live", n, len(a), impl.GraphReach(g))
		}
	}
}

// graphDifferences: each changes one thing of the base graph that SameGraph must see.
func graphDifferences() []graphRow {
	l := []graphRow{
		{"no nodes", func(g *impl.Graph) { g.Nodes = nil }},
		{"a node less", func(g *impl.Graph) { g.Nodes = g.Nodes[:7] }},
		{"a node more", func(g *impl.Graph) { g.Nodes = append(g.Nodes, impl.Node{}) }},
		{"two nodes exchanged", func(g *impl.Graph) { g.Nodes[0], g.Nodes[1] = g.Nodes[1], g.Nodes[0] }},
		{"no handles", func(g *impl.Graph) { g.Weaks = nil }},
		{"a handle less", func(g *impl.Graph) { g.Weaks = g.Weaks[:7] }},
		{"a handle more", func(g *impl.Graph) { g.Weaks = append(g.Weaks, impl.Weak{}) }},
		{"a handle's Used", func(g *impl.Graph) { g.Weaks[7].Used = true }},
		{"a handle's Target", func(g *impl.Graph) { g.Weaks[2].Target++ }},
		{"a free handle's Target", func(g *impl.Graph) { g.Weaks[1].Target++ }},
		{"two handles exchanged", func(g *impl.Graph) { g.Weaks[0], g.Weaks[2] = g.Weaks[2], g.Weaks[0] }},
		{"no names", func(g *impl.Graph) { g.Sites = nil }},
		{"a name less", func(g *impl.Graph) { g.Sites = g.Sites[:1] }},
		{"a name more", func(g *impl.Graph) { g.Sites = append(g.Sites, "") }},
		{"another name", func(g *impl.Graph) { g.Sites[1] = "bB" }},
		{"two names exchanged", func(g *impl.Graph) { g.Sites[0], g.Sites[1] = g.Sites[1], g.Sites[0] }},
	}
	for _, slot := range []int{0, 3, 4, 7} {
		node := func(name string, change func(n *impl.Node)) {
			l = append(l, graphRow{fmt.Sprintf("slot %d: %s", slot, name), func(g *impl.Graph) { change(&g.Nodes[slot]) }})
		}
		node("Live", func(n *impl.Node) { n.Live = !n.Live })
		for _, more := range []int{-1, 1, 1 << 32, math.MinInt} {
			node("Gen", func(n *impl.Node) { n.Gen += more })
			node("Site", func(n *impl.Node) { n.Site += more })
			node("Holds", func(n *impl.Node) { n.Holds += more })
			node("Roots", func(n *impl.Node) { n.Roots += more })
			for i := range 3 {
				node(fmt.Sprint("field ", i), func(n *impl.Node) { n.Field[i] += more })
			}
		}
		node("no fields", func(n *impl.Node) { n.Field = nil })
		node("a field less", func(n *impl.Node) { n.Field = n.Field[:2] })
		node("a field more", func(n *impl.Node) { n.Field = append(n.Field, -1) })
	}
	return l
}

func TestSameGraphOfOneDifference(t *testing.T) {
	for _, row := range graphDifferences() {
		a, b := baseGraph(), baseGraph()
		row.change(&b)
		if impl.SameGraph(a, b) || impl.SameGraph(b, a) {
			t.Errorf("%s: SameGraph says true", row.name)
		}
		row.change(&a)
		if !impl.SameGraph(a, b) {
			t.Errorf("%s in both: SameGraph says false", row.name)
		}
	}
}

func TestSameGraphOfAnyTwo(t *testing.T) {
	for first, a := range allHeaps() {
		for second, b := range allHeaps() {
			one, other := graphTold(a), graphCopy(graphTold(b))
			if got, want := impl.SameGraph(one, other), alikeGraph(one, other); got != want {
				t.Errorf("%s, %s: SameGraph says %v", first, second, got)
			}
		}
	}
	a := impl.Graph{Nodes: make([]impl.Node, 2)}
	b := impl.Graph{Nodes: []impl.Node{{Field: []int{}}, {}}, Weaks: []impl.Weak{}, Sites: make([]string, 0, 9)}
	if !impl.SameGraph(a, b) || !impl.SameGraph(b, a) || !impl.SameGraph(impl.Graph{}, impl.Graph{Nodes: []impl.Node{}}) {
		t.Error("nil and empty lists: SameGraph says false")
	}
	// Names of the same bytes are the same, wherever they stand.
	a, b = baseGraph(), baseGraph()
	b.Sites[1] = strings.Repeat("b", 2)
	if !impl.SameGraph(a, b) {
		t.Error("names of the same bytes: SameGraph says false")
	}
}

func TestGraphsAreOnlyLookedAt(t *testing.T) {
	rows := append(rightGraphs(), wrongGraphs()...)
	for _, row := range rows {
		g := baseGraph()
		row.change(&g)
		holdGraphUnwritten(t, row.name, g, func(given impl.Graph) {
			impl.GraphOk(given)
			impl.SameGraph(given, given)
			for slot := -2; slot < 12; slot++ {
				impl.GraphCount(given, slot)
			}
			holdApart(t, row.name, append(graphSpans(given), spanOf(impl.GraphReach(given)), spanOf(impl.GraphReach(given))))
			for _, o := range []impl.Op{alloc("new"), alloc("a"), alloc(""), release(8), release(27), store(8, 0, -1), store(8, 2, -1), store(8, 5, 9), store(9, 1, 27), retain(8), retain(9), root(8), unroot(9), weak(8), weak(7), load(0), load(2), load(5), drop(0), drop(5), collect(), {Kind: 12}} {
				first, a := impl.GraphStep(given, o)
				second, b := impl.GraphStep(given, o)
				l := slices.Concat(graphSpans(given), graphSpans(first), graphSpans(second), []span{spanOf(a.Freed), spanOf(b.Freed)})
				holdApart(t, fmt.Sprintf("%s, %+v", row.name, o), l)
			}
		})
	}
}

// Lists that are one in what is handed in are two in the answer.
func TestGraphStepOfListsThatAreShared(t *testing.T) {
	g := graphTold(fullHeap())
	for slot := range g.Nodes {
		g.Nodes[slot].Field = g.Nodes[0].Field
	}
	apart := graphTold(heapLike(g))
	for _, o := range []impl.Op{store(8, 1, -1), store(8, 0, 17), release(17), collect(), alloc("x"), load(3), {}} {
		after, a := impl.GraphStep(g, o)
		want, told := graphStepTold(apart, o)
		if !sameTold(a, told) || !alikeGraph(after, want) || !alikeGraph(g, apart) {
			t.Errorf("%+v is answered %+v, want %+v, and leaves\n%v, want\n%v", o, a, told, after, want)
		}
		holdApart(t, fmt.Sprint("shared ", o), append(graphSpans(after), spanOf(g.Nodes[0].Field)))
	}
}

func TestGraphPlaySharesNothing(t *testing.T) {
	l := roomy([]impl.Op{alloc("a"), alloc("b"), store(8, 1, 9), release(9), weak(8), root(9), unroot(9), release(8), alloc("c"), store(16, 0, 16), release(16), collect(), load(0)}, alloc("behind"))
	before := whole(l)
	g, a := impl.GraphPlay(l)
	spans := append(graphSpans(g), spanOf(l), spanOf(a))
	for _, x := range a {
		spans = append(spans, spanOf(x.Freed))
	}
	other, b := impl.GraphPlay(l)
	spans = append(append(spans, graphSpans(other)...), spanOf(b))
	holdApart(t, "GraphPlay", spans)
	if !slices.Equal(whole(l), before) || !alikeGraph(g, other) {
		t.Error("GraphPlay writes into its operations, or tells another graph the second time")
	}
}
