package tests

import (
	"encoding/binary"
	"fmt"
	"math"
	"math/rand"
	"slices"
	"strings"
	"testing"
	"unsafe"

	"loop.example/g01412/impl"
)

var (
	_ func(impl.Op) bool                                            = impl.Speakable
	_ func(impl.Pen, impl.Op, impl.Answer) (string, impl.Pen)       = impl.ShowEvent
	_ func(impl.Pen, string) (impl.Op, impl.Answer, impl.Pen, bool) = impl.ReadEvent
	_ func(impl.Pen, impl.Pen) bool                                 = impl.SamePen
	_                                                               = impl.Pen{Last: 1, Sites: []string{"s"}}
)

// argEnd is the greatest number of an event, and minus it the least.
const argEnd = 1000000000

func TestEventConstants(t *testing.T) {
	if impl.MaxArg != argEnd {
		t.Errorf("MaxArg = %d", impl.MaxArg)
	}
}

// Events, told once more: the bytes of anything, whether it may be written or not; and apart from that, what may.

// signed is ShowInt of any number, without its limits.
func signed(n int) string {
	if n < 0 {
		return leastFirst(-2*n - 1)
	}
	return leastFirst(2 * n)
}

func nameBytes(p impl.Pen, name string) string {
	for i, s := range p.Sites {
		if s == name {
			return leastFirst(i + 1)
		}
	}
	return "\x00" + leastFirst(len(name)) + name
}

func eventBytes(p impl.Pen, o impl.Op, a impl.Answer) string {
	s := signed(o.Kind) + signed(o.A-p.Last) + signed(o.B) + signed(o.C-o.A) + nameBytes(p, o.Site)
	s += leastFirst(a.Code) + signed(a.Val-o.A) + leastFirst(len(a.Freed))
	for i, id := range a.Freed {
		if i == 0 {
			s += signed(id - o.A)
		} else {
			s += signed(id - a.Freed[i-1])
		}
	}
	return s
}

func tellable(n int) bool { return n >= -argEnd && n <= argEnd }

func speakableTold(o impl.Op) bool {
	return tellable(o.Kind) && tellable(o.A) && tellable(o.B) && tellable(o.C) && len(o.Site) <= 8
}

func answerTellable(a impl.Answer) bool {
	for _, id := range a.Freed {
		if !tellable(id) {
			return false
		}
	}
	return a.Code >= 0 && a.Code <= 6 && tellable(a.Val) && len(a.Freed) <= 8
}

func penRight(p impl.Pen) bool {
	times := map[string]int{}
	for _, s := range p.Sites {
		times[s]++
		if len(s) > 8 || times[s] > 1 {
			return false
		}
	}
	return tellable(p.Last) && len(p.Sites) <= 400
}

func penBehind(p impl.Pen, o impl.Op) impl.Pen {
	q := impl.Pen{Last: o.A, Sites: append([]string{}, p.Sites...)}
	if !slices.Contains(q.Sites, o.Site) {
		q.Sites = append(q.Sites, o.Site)
	}
	return q
}

// eventTold is ShowEvent by the chapter's words.
func eventTold(p impl.Pen, o impl.Op, a impl.Answer) (string, impl.Pen) {
	if !penRight(p) || !speakableTold(o) || !answerTellable(a) {
		return "", p
	}
	return eventBytes(p, o, a), penBehind(p, o)
}

// pieces takes numbers off a text, whatever they are; cut says that there was none.
type pieces struct {
	rest string
	cut  bool
}

func (c *pieces) number() int {
	n, used := binary.Uvarint([]byte(c.rest))
	if used <= 0 {
		c.cut, c.rest = true, ""
		return 0
	}
	c.rest = c.rest[used:]
	return int(n)
}

func (c *pieces) signed() int {
	n := c.number()
	if n%2 == 0 {
		return n / 2
	}
	return -(n / 2) - 1
}

func (c *pieces) name(p impl.Pen) string {
	if place := c.number(); place > 0 {
		if place > len(p.Sites) {
			c.cut = true
			return ""
		}
		return p.Sites[place-1]
	}
	size := c.number()
	if size < 0 || size > len(c.rest) {
		c.cut = true
		return ""
	}
	name := c.rest[:size]
	c.rest = c.rest[size:]
	return name
}

// readTold is ReadEvent by the chapter's words: what the pieces tell, if it is that of which the text is made.
func readTold(p impl.Pen, s string) (impl.Op, impl.Answer, impl.Pen, bool) {
	c := pieces{rest: s}
	var o impl.Op
	var a impl.Answer
	o.Kind = c.signed()
	o.A = p.Last + c.signed()
	o.B = c.signed()
	o.C = o.A + c.signed()
	o.Site = c.name(p)
	a.Code = c.number()
	a.Val = o.A + c.signed()
	ahead := o.A
	for n := c.number(); n > 0 && n <= 8 && len(a.Freed) < n; {
		ahead += c.signed()
		a.Freed = append(a.Freed, ahead)
	}
	told, q := eventTold(p, o, a)
	if c.cut || told == "" || told != s {
		return impl.Op{}, impl.Answer{}, p, false
	}
	return o, a, q, true
}

func samePenTold(a impl.Pen, b impl.Pen) bool {
	if a.Last != b.Last || len(a.Sites) != len(b.Sites) {
		return false
	}
	for i := range a.Sites {
		if a.Sites[i] != b.Sites[i] {
			return false
		}
	}
	return true
}

// penCopy is the pen in memory of its own, with room behind its names, in which something stands.
func penCopy(p impl.Pen) impl.Pen {
	return impl.Pen{Last: p.Last, Sites: roomy(p.Sites, "behind")}
}

// brief keeps what a fault tells readable: a pen may have hundreds of names.
func brief(p impl.Pen) string {
	n := len(p.Sites)
	return fmt.Sprintf("{%d, %d names, %.60q .. %.60q}", p.Last, n, p.Sites[:min(n, 4)], p.Sites[max(0, n-4):])
}

// holdShown holds ShowEvent against what is told, and whether it only looked at what it was given; it answers what it makes.
func holdShown(t *testing.T, what string, p impl.Pen, o impl.Op, a impl.Answer) (string, impl.Pen) {
	t.Helper()
	given := penCopy(p)
	answer := impl.Answer{Code: a.Code, Val: a.Val, Freed: roomy(a.Freed, 77)}
	sites, freed := whole(given.Sites), whole(answer.Freed)
	s, q := impl.ShowEvent(given, o, answer)
	want, behind := eventTold(p, o, a)
	if s != want || !samePenTold(q, behind) {
		t.Errorf("%s: ShowEvent(%s, %+v, %+v) = %q, %s, want %q, %s", what, brief(p), o, a, s, brief(q), want, brief(behind))
	}
	if given.Last != p.Last || !slices.Equal(sites, whole(given.Sites)) || !slices.Equal(freed, whole(answer.Freed)) {
		t.Errorf("%s: ShowEvent writes into what it is given", what)
	}
	holdApart(t, what, []span{spanOf(given.Sites), spanOf(answer.Freed), spanOf(q.Sites)})
	return s, q
}

// holdRead is holdShown for ReadEvent.
func holdRead(t *testing.T, what string, p impl.Pen, s string) (impl.Op, impl.Answer, impl.Pen, bool) {
	t.Helper()
	given := penCopy(p)
	sites := whole(given.Sites)
	o, a, q, ok := impl.ReadEvent(given, s)
	wantO, wantA, behind, there := readTold(p, s)
	if o != wantO || !sameTold(a, wantA) || !samePenTold(q, behind) || ok != there {
		t.Errorf("%s: ReadEvent(%s, %.80q) = %+v, %+v, %s, %v, want %+v, %+v, %s, %v", what, brief(p), s, o, a, brief(q), ok, wantO, wantA, brief(behind), there)
	}
	if given.Last != p.Last || !slices.Equal(sites, whole(given.Sites)) {
		t.Errorf("%s: ReadEvent writes into what it is given", what)
	}
	holdApart(t, what, []span{spanOf(given.Sites), spanOf(a.Freed), spanOf(q.Sites)})
	return o, a, q, ok
}

// holdEvent is promise 10 of one event: written by one pen, and read by one like it. It answers both pens behind.
func holdEvent(t *testing.T, what string, w impl.Pen, r impl.Pen, o impl.Op, a impl.Answer) (impl.Pen, impl.Pen) {
	t.Helper()
	s, behind := holdShown(t, what, w, o, a)
	x, b, after, ok := holdRead(t, what, r, s)
	if s != "" && (!ok || x != o || !sameTold(a, b)) {
		t.Errorf("%s: %+v, %+v is read as %+v, %+v, %v", what, o, a, x, b, ok)
	}
	if s == "" && (ok || x != impl.Op{} || !sameTold(b, impl.Answer{})) {
		t.Errorf("%s: the empty text is read as %+v, %+v, %v", what, x, b, ok)
	}
	if !samePenTold(behind, after) || !impl.SamePen(behind, after) {
		t.Errorf("%s: the pens behind are %s and %s", what, brief(behind), brief(after))
	}
	return behind, after
}

func holdNoEvent(t *testing.T, what string, p impl.Pen, s string) {
	t.Helper()
	if o, a, q, ok := holdRead(t, what, p, s); ok || (o != impl.Op{}) || !sameTold(a, impl.Answer{}) || !samePenTold(p, q) {
		t.Errorf("%s: %.80q is read as %+v, %+v, %s, %v", what, s, o, a, brief(q), ok)
	}
}

// The bytes of some events, written out.
func TestEventsByTheirBytes(t *testing.T) {
	none := impl.Pen{}
	one := impl.Pen{Last: 8, Sites: []string{"a"}}
	for _, x := range []struct {
		p impl.Pen
		o impl.Op
		a impl.Answer
		s string
	}{
		{none, impl.Op{}, impl.Answer{}, "\x00\x00\x00\x00" + "\x00\x00" + "\x00\x00\x00"},
		{none, alloc("new"), impl.Answer{Val: 8}, "\x02\x00\x00\x00" + "\x00\x03new" + "\x00\x10\x00"},
		{one, alloc("a"), impl.Answer{Val: 9}, "\x02\x0f\x00\x00" + "\x01" + "\x00\x12\x00"},
		{one, alloc("b"), impl.Answer{Code: 3}, "\x02\x0f\x00\x00" + "\x00\x01b" + "\x03\x00\x00"},
		{one, alloc(""), impl.Answer{Code: 2}, "\x02\x0f\x00\x00" + "\x00\x00" + "\x02\x00\x00"},
		{one, impl.Op{Kind: impl.OpStore, A: 9, B: 1, C: 8, Site: "a"}, impl.Answer{Freed: []int{10, 9}}, "\x08\x02\x02\x01" + "\x01" + "\x00\x11\x02\x02\x01"},
		{one, impl.Op{Kind: impl.OpStore, A: 9, B: -1, C: -1, Site: "a"}, impl.Answer{Code: 6, Val: -1}, "\x08\x02\x01\x13" + "\x01" + "\x06\x13\x00"},
		{one, impl.Op{Kind: -1, A: 72, B: 64, C: 136, Site: "a"}, impl.Answer{Val: 7, Freed: []int{72}}, "\x01\x80\x01\x80\x01\x80\x01" + "\x01" + "\x00\x81\x01\x01\x00"},
		{impl.Pen{Last: -argEnd, Sites: []string{"b", "", "a"}}, impl.Op{A: argEnd, C: -argEnd}, impl.Answer{Val: -argEnd, Freed: []int{-argEnd, argEnd}},
			"\x00\x80\xd0\xac\xf3\x0e\x00\xff\xcf\xac\xf3\x0e" + "\x02" + "\x00\xff\xcf\xac\xf3\x0e\x02\xff\xcf\xac\xf3\x0e\x80\xd0\xac\xf3\x0e"},
	} {
		if got, _ := impl.ShowEvent(x.p, x.o, x.a); got != x.s {
			t.Errorf("ShowEvent(%s, %+v, %+v) = %q, want %q", brief(x.p), x.o, x.a, got, x.s)
		}
		holdEvent(t, "by its bytes", x.p, x.p, x.o, x.a)
	}
}

// toldEvents counts what plays have, so that none of it is left out.
type toldEvents struct {
	freed            map[int]int
	answered         map[[2]int]int
	fresh, again, no int
}

func (l *toldEvents) heed(p impl.Pen, o impl.Op, a impl.Answer) {
	l.freed[len(a.Freed)]++
	l.answered[[2]int{o.Kind, a.Code}]++
	switch {
	case !speakableTold(o):
		l.no++
	case slices.Contains(p.Sites, o.Site):
		l.again++
	default:
		l.fresh++
	}
}

func (l *toldEvents) holdAll(t *testing.T) {
	t.Helper()
	holdManifold(t, l.freed, l.answered)
	if l.fresh < 100 || l.again < 100 || l.no < 100 {
		t.Errorf("names written out %d, by their place %d; not to be written down %d", l.fresh, l.again, l.no)
	}
}

// withName: names are written down whatever the operation does with them.
func withName(r *rand.Rand, o impl.Op) impl.Op {
	if r.Intn(3) == 0 {
		o.Site = []string{"", "a", "b", "zz", "12345678", "\x00", "\xff\xfe", "\u20ac\u20ac", "new", "123456789"}[r.Intn(10)]
	}
	return o
}

// Promise 10, over plays: both pens are handed on.
func TestEventsOfLongPlays(t *testing.T) {
	all := toldEvents{freed: map[int]int{}, answered: map[[2]int]int{}}
	for seed := range 120 {
		r := rand.New(rand.NewSource(int64(seed)))
		h := impl.HeapNew()
		var w, back impl.Pen
		var texts []string
		var ops []impl.Op
		var answers []impl.Answer
		for step := range 150 {
			o := withName(r, someOperation(r, h))
			after, a := impl.Apply(h, o)
			all.heed(w, o, a)
			if s, _ := impl.ShowEvent(w, o, a); s != "" {
				texts, ops, answers = append(texts, s), append(ops, o), append(answers, a)
			}
			w, back = holdEvent(t, fmt.Sprintf("play %d, step %d", seed, step), w, back, o, a)
			h = after
			if t.Failed() {
				return
			}
		}
		holdReadAgain(t, texts, ops, answers, w)
	}
	all.holdAll(t)
}

// holdReadAgain: all texts of a play, read when it is over, one behind the other.
func holdReadAgain(t *testing.T, texts []string, ops []impl.Op, answers []impl.Answer, end impl.Pen) {
	t.Helper()
	var p impl.Pen
	for i, s := range texts {
		o, a, q, ok := impl.ReadEvent(p, s)
		if !ok || o != ops[i] || !sameTold(a, answers[i]) {
			t.Fatalf("event %d is read as %+v, %+v, %v, want %+v, %+v", i, o, a, ok, ops[i], answers[i])
		}
		p = q
	}
	if !samePenTold(p, end) {
		t.Fatalf("behind all: %s, want %s", brief(p), brief(end))
	}
}

// Each kind of operation there is on each right heap, by some pens.
func TestEventsOfRightHeaps(t *testing.T) {
	pens := []impl.Pen{{}, {Last: 9, Sites: []string{"new", "", "a"}}, {Last: -argEnd, Sites: []string{"12345678"}}}
	for name, h := range rightHeaps() {
		for i, o := range operationsFor(h) {
			_, a := impl.Apply(h, o)
			p := pens[i%len(pens)]
			holdEvent(t, name, p, p, o, a)
		}
		if t.Failed() {
			return
		}
	}
}

// argsAround: just at the bounds of a number, just past them, and far from both.
func argsAround() []int {
	return []int{0, 1, -1, 7, argEnd - 1, argEnd, argEnd + 1, -argEnd + 1, -argEnd, -argEnd - 1, 2 * argEnd, -2 * argEnd,
		wireEnd - 1, wireEnd, wireEnd + 1, -wireEnd, -wireEnd - 1, 1 << 32, math.MaxInt, math.MinInt, math.MaxInt - 1, math.MinInt + 1}
}

// opsAround: one field at a time is at its bounds or past them, and all at once.
func opsAround() []impl.Op {
	var l []impl.Op
	for _, n := range argsAround() {
		l = append(l, impl.Op{Kind: n}, impl.Op{A: n}, impl.Op{B: n}, impl.Op{C: n},
			impl.Op{A: n, C: n}, impl.Op{A: n, C: -n}, impl.Op{A: argEnd, C: n}, impl.Op{A: -argEnd, C: n}, impl.Op{Kind: n, A: n, B: n, C: n, Site: "a"})
	}
	for n := range 12 {
		l = append(l, impl.Op{Kind: n, Site: strings.Repeat("x", n)}, impl.Op{A: n, Site: longText(n)}, impl.Op{A: -n, Site: strings.Repeat("\u20ac", n)})
	}
	return append(l, alloc(longText(128)), alloc(longText(70000)))
}

func TestSpeakable(t *testing.T) {
	for _, o := range opsAround() {
		if got := impl.Speakable(o); got != speakableTold(o) {
			t.Errorf("Speakable(%+v) = %v", o, got)
		}
	}
	for _, x := range []struct {
		o    impl.Op
		want bool
	}{
		{impl.Op{}, true},
		{impl.Op{Kind: argEnd, A: argEnd, B: argEnd, C: argEnd, Site: "12345678"}, true},
		{impl.Op{Kind: -argEnd, A: -argEnd, B: -argEnd, C: -argEnd, Site: "\xff\xff\xff\xff\xff\xff\xff\xff"}, true},
		{impl.Op{Kind: argEnd + 1}, false}, {impl.Op{Kind: -argEnd - 1}, false},
		{impl.Op{A: argEnd + 1}, false}, {impl.Op{A: -argEnd - 1}, false},
		{impl.Op{B: argEnd + 1}, false}, {impl.Op{B: -argEnd - 1}, false},
		{impl.Op{C: argEnd + 1}, false}, {impl.Op{C: -argEnd - 1}, false},
		{impl.Op{A: argEnd + 1, C: argEnd + 1}, false}, {impl.Op{A: math.MinInt, C: math.MinInt}, false},
		{alloc("12345678"), true}, {alloc("123456789"), false},
		{alloc("\u20ac\u20ac"), true}, {alloc("\u20ac\u20ac\u20ac"), false}, // nine bytes are three characters
	} {
		if got := impl.Speakable(x.o); got != x.want {
			t.Errorf("Speakable(%+v) = %v", x.o, got)
		}
	}
}

// answersAround: one field at a time is at its bounds or past them.
func answersAround() []impl.Answer {
	var l []impl.Answer
	for code := -2; code <= 8; code++ {
		l = append(l, impl.Answer{Code: code, Val: code})
	}
	for _, n := range argsAround() {
		l = append(l, impl.Answer{Code: n}, impl.Answer{Val: n}, impl.Answer{Freed: []int{n}}, impl.Answer{Freed: []int{n, n}}, impl.Answer{Freed: []int{n, -n, n}})
		for at := range 8 {
			freed := []int{8, 9, 10, 11, 12, 13, 14, 15}
			freed[at] = n
			l = append(l, impl.Answer{Freed: freed})
		}
	}
	for n := range 12 {
		l = append(l, impl.Answer{Freed: make([]int, n)}, impl.Answer{Freed: slices.Repeat([]int{argEnd}, n)})
	}
	return append(l, impl.Answer{Freed: make([]int, 128)}, impl.Answer{Freed: make([]int, 1000)})
}

func manyNames(n int) []string {
	var l []string
	for i := range n {
		l = append(l, fmt.Sprintf("n%d", i))
	}
	return l
}

// rightPens are at their limits, or far from them.
func rightPens() map[string]impl.Pen {
	return map[string]impl.Pen{
		"nothing":         {},
		"no list":         {Sites: []string{}},
		"last":            {Last: argEnd},
		"least last":      {Last: -argEnd, Sites: []string{"a"}},
		"empty name":      {Last: 3, Sites: []string{""}},
		"empty behind":    {Last: 3, Sites: []string{"a", ""}},
		"longest names":   {Sites: []string{"12345678", "1234567", "\xff\xff\xff\xff\xff\xff\xff\xff", "\u20ac\u20ac"}},
		"127 names":       {Last: 8, Sites: manyNames(127)},
		"128 names":       {Last: 8, Sites: append(manyNames(127), "x")},
		"a name less":     {Last: 8, Sites: manyNames(399)},
		"all names":       {Last: 8, Sites: append(manyNames(399), "x")},
		"all names again": {Last: -argEnd, Sites: append([]string{"12345678"}, manyNames(399)...)},
	}
}

func wrongPens() map[string]impl.Pen {
	return map[string]impl.Pen{
		"last past":       {Last: argEnd + 1, Sites: []string{"a"}},
		"least last past": {Last: -argEnd - 1, Sites: []string{"a"}},
		"greatest last":   {Last: math.MaxInt},
		"least of all":    {Last: math.MinInt},
		"a name more":     {Last: 8, Sites: manyNames(401)},
		"many more":       {Last: 8, Sites: append(manyNames(3000), "x")},
		"name too long":   {Sites: []string{"a", "123456789"}},
		"too long first":  {Sites: []string{"\u20ac\u20ac\u20ac", "a"}},
		"very long":       {Sites: []string{longText(300)}},
		"two alike":       {Sites: []string{"a", "a"}},
		"two far apart":   {Sites: append(manyNames(300), "n0")},
		"two empty":       {Sites: []string{"", "b", ""}},
		"last two alike":  {Sites: append(manyNames(399), "n398")},
		"all wrong":       {Last: math.MinInt, Sites: append(manyNames(500), "n1", longText(9))},
	}
}

func TestEventsOfNumbersAtTheirBounds(t *testing.T) {
	answers := []impl.Answer{{}, {Code: 6, Val: argEnd, Freed: []int{-argEnd, argEnd}}, {Code: 7}, {Val: -argEnd - 1}}
	for name, p := range rightPens() {
		for _, o := range opsAround() {
			for _, a := range answers[:min(len(answers), 1+400/(len(p.Sites)+1))] {
				holdEvent(t, name, p, p, o, a)
			}
		}
		for _, o := range []impl.Op{{}, {A: argEnd, Site: "a"}, {A: -argEnd, B: 1, C: argEnd, Site: "12345678"}, {A: argEnd + 1}} {
			for _, a := range answersAround() {
				holdEvent(t, name, p, p, o, a)
			}
		}
		if t.Failed() {
			return
		}
	}
}

// Just where the chapter says so what is made is empty, and the pen as it is: told by numbers, without what is told once more.
func TestEventsThatCannotBeWritten(t *testing.T) {
	p := impl.Pen{Last: 5, Sites: []string{"a", "b"}}
	o := impl.Op{Kind: 1, A: 2, B: 3, C: 4, Site: "c"}
	for _, x := range []struct {
		what string
		p    impl.Pen
		o    impl.Op
		a    impl.Answer
		ok   bool
	}{
		{"plain", p, o, impl.Answer{}, true},
		{"kind past", p, impl.Op{Kind: argEnd + 1}, impl.Answer{}, false},
		{"a past", p, impl.Op{A: -argEnd - 1}, impl.Answer{}, false},
		{"b past", p, impl.Op{B: argEnd + 1}, impl.Answer{}, false},
		{"c past", p, impl.Op{C: -argEnd - 1}, impl.Answer{}, false},
		{"site past", p, alloc("123456789"), impl.Answer{}, false},
		{"site at", p, alloc("12345678"), impl.Answer{}, true},
		{"code below", p, o, impl.Answer{Code: -1}, false},
		{"code at", p, o, impl.Answer{Code: 6}, true},
		{"code past", p, o, impl.Answer{Code: 7}, false},
		{"val at", p, o, impl.Answer{Val: -argEnd}, true},
		{"val past", p, o, impl.Answer{Val: -argEnd - 1}, false},
		{"eight freed", p, o, impl.Answer{Freed: []int{1, 1, 1, 1, 1, 1, 1, argEnd}}, true},
		{"last freed past", p, o, impl.Answer{Freed: []int{1, 1, 1, 1, 1, 1, 1, argEnd + 1}}, false},
		{"first freed past", p, o, impl.Answer{Freed: []int{-argEnd - 1}}, false},
		{"nine freed", p, o, impl.Answer{Freed: make([]int, 9)}, false},
		{"pen at", impl.Pen{Last: -argEnd, Sites: manyNames(400)}, o, impl.Answer{}, true},
		{"pen last past", impl.Pen{Last: argEnd + 1}, o, impl.Answer{}, false},
		{"pen names past", impl.Pen{Sites: manyNames(401)}, o, impl.Answer{}, false},
		{"pen name past", impl.Pen{Sites: []string{"123456789"}}, o, impl.Answer{}, false},
		{"pen names alike", impl.Pen{Sites: []string{"a", "b", "a"}}, o, impl.Answer{}, false},
	} {
		s, q := holdShown(t, x.what, x.p, x.o, x.a)
		if (s != "") != x.ok || samePenTold(q, x.p) == x.ok {
			t.Errorf("%s: %q, %s", x.what, s, brief(q))
		}
		// The bytes are there whether they may be or not; read they are just where they may.
		if _, _, _, ok := holdRead(t, x.what, x.p, eventBytes(x.p, x.o, x.a)); ok != x.ok {
			t.Errorf("%s: its bytes are read: %v", x.what, ok)
		}
	}
}

// A name that is written the second time is its place alone, from any place, till the pen has all it may have.
func TestEventsOfNamesWrittenAgain(t *testing.T) {
	var w, r impl.Pen
	names := append([]string{"", "a", "\x00", "12345678", "\xff", "\x01a", "0"}, manyNames(393)...)
	for i, name := range names {
		o := impl.Op{Kind: impl.OpAlloc, A: i, Site: name}
		s, _ := impl.ShowEvent(w, o, impl.Answer{})
		if want := "\x00" + leastFirst(len(name)) + name + "\x00"; !strings.Contains(s, want) {
			t.Fatalf("name %d is not written out: %q", i, s)
		}
		w, r = holdEvent(t, "first time", w, r, o, impl.Answer{})
		if len(w.Sites) != i+1 || w.Sites[i] != name {
			t.Fatalf("behind name %d: %s", i, brief(w))
		}
		if i%80 == 0 {
			holdNamesAgain(t, w, names[:i+1])
		}
	}
	holdNamesAgain(t, w, names)
	if len(w.Sites) != 400 {
		t.Fatalf("%d names", len(w.Sites))
	}
}

func holdNamesAgain(t *testing.T, p impl.Pen, names []string) {
	t.Helper()
	for i, name := range names {
		o := impl.Op{Kind: impl.OpRetain, A: p.Last, C: p.Last, Site: name}
		s, _ := impl.ShowEvent(p, o, impl.Answer{Val: p.Last})
		if want := "\x04\x00\x00\x00" + leastFirst(i+1) + "\x00\x00\x00"; s != want {
			t.Errorf("name %d again is %q, want %q", i, s, want)
		}
		q, _ := holdEvent(t, "second time", p, p, o, impl.Answer{Val: p.Last})
		if len(q.Sites) != len(names) {
			t.Errorf("behind name %d again there are %d names", i, len(q.Sites))
		}
		// Written out it is no event, for it stands among Sites.
		holdNoEvent(t, "written out again", p, "\x04\x00\x00\x00"+"\x00"+leastFirst(len(name))+name+"\x00\x00\x00")
	}
	for _, past := range []int{len(names) + 1, len(names) + 2, len(names) + 128, impl.MaxVar} {
		holdNoEvent(t, "a place behind the last one", p, "\x04\x00\x00\x00"+leastFirst(past)+"\x00\x00\x00")
	}
}

// A right pen with all names it may have still writes a new one; the pen behind has one more than it may.
func TestEventsOfAPenThatIsFull(t *testing.T) {
	full := impl.Pen{Last: 8, Sites: manyNames(400)}
	o := alloc("new")
	s, q := holdShown(t, "full", full, o, impl.Answer{Val: 8})
	if s != "\x02\x0f\x00\x00\x00\x03new\x00\x10\x00" || len(q.Sites) != 401 || q.Sites[400] != "new" || q.Last != 0 {
		t.Errorf("full: %q, %s", s, brief(q))
	}
	holdEvent(t, "full", full, full, o, impl.Answer{Val: 8})
	again, r := holdShown(t, "more than full", q, o, impl.Answer{Val: 8})
	if again != "" || !samePenTold(q, r) {
		t.Errorf("more than full: %q, %s", again, brief(r))
	}
	holdNoEvent(t, "more than full", q, eventBytes(q, o, impl.Answer{Val: 8}))
	holdNoEvent(t, "more than full", q, s)
}

func TestEventsOfWrongPens(t *testing.T) {
	ops := []impl.Op{{}, alloc("a"), alloc("n0"), alloc("x"), {Kind: 4, A: argEnd, B: 2, C: -1, Site: ""}, {A: -argEnd - 1}}
	for name, p := range wrongPens() {
		for _, o := range ops {
			for _, a := range []impl.Answer{{}, {Code: 1}, {Freed: []int{8, 9}}, {Code: 9}} {
				s, q := holdShown(t, name, p, o, a)
				if s != "" || !samePenTold(p, q) {
					t.Errorf("%s: %q, %s", name, s, brief(q))
				}
				holdNoEvent(t, name, p, eventBytes(p, o, a))
				holdNoEvent(t, name, p, eventBytes(impl.Pen{}, o, a))
			}
		}
		holdNoEvent(t, name, p, "")
	}
}

type eventRow struct {
	p impl.Pen
	o impl.Op
	a impl.Answer
}

// someEvents have each part in more than one length.
func someEvents() []eventRow {
	few := impl.Pen{Last: 8, Sites: []string{"a", "", "bb"}}
	return []eventRow{
		{impl.Pen{}, impl.Op{}, impl.Answer{}},
		{impl.Pen{}, alloc("new"), impl.Answer{Val: 8}},
		{few, store(9, 1, 8), impl.Answer{Freed: []int{10, 9}}},
		{few, impl.Op{Kind: 4, A: 9, B: 1, C: 8, Site: "bb"}, impl.Answer{Freed: []int{10, 9}}},
		{few, impl.Op{Kind: 2, A: -400, B: 400, C: 70, Site: "\x00\x01\x02"}, impl.Answer{Code: 5, Val: -1}},
		{few, impl.Op{Kind: -argEnd, A: argEnd, B: -argEnd, C: -argEnd, Site: "12345678"}, impl.Answer{Code: 6, Val: -argEnd, Freed: []int{-argEnd, argEnd, 0, 8, 9, 10, 11, 12}}},
		{impl.Pen{Last: -argEnd, Sites: manyNames(140)}, impl.Op{Kind: 10, A: 0, Site: "n139"}, impl.Answer{Freed: []int{8, 17, 26, 7999, 8}}},
		{impl.Pen{Last: argEnd}, impl.Op{Kind: 10, A: argEnd, B: argEnd, C: argEnd}, impl.Answer{Code: 4, Val: argEnd, Freed: []int{argEnd}}},
	}
}

func TestReadEventCutOffOrWithMoreBehind(t *testing.T) {
	for i, x := range someEvents() {
		what := fmt.Sprint("event ", i)
		s, _ := holdShown(t, what, x.p, x.o, x.a)
		if _, _, _, ok := holdRead(t, what, x.p, s); !ok {
			t.Errorf("%s: %q is not read", what, s)
		}
		for k := range len(s) {
			holdNoEvent(t, what, x.p, s[:k])
			holdNoEvent(t, what, x.p, s[k+1:]+s[:k+1]+s)
		}
		for _, c := range []byte(allBytes()) {
			holdNoEvent(t, what, x.p, s+string([]byte{c}))
		}
		holdNoEvent(t, what, x.p, s+s)
		holdNoEvent(t, what, x.p, s+longText(3000))
	}
}

// Each byte turned into each other, left out, and put in: told just where that is again what is made of something.
func TestReadEventWithAByteTurned(t *testing.T) {
	taken := 0
	for i, x := range someEvents() {
		s, _ := holdShown(t, "whole", x.p, x.o, x.a)
		for k := range len(s) {
			for _, c := range []byte(allBytes()) {
				for _, other := range []string{s[:k] + string([]byte{c}) + s[k+1:], s[:k] + string([]byte{c}) + s[k:]} {
					if _, _, _, ok := holdRead(t, fmt.Sprintf("event %d, byte %d", i, k), x.p, other); ok && other != s {
						taken++
					}
				}
			}
			holdRead(t, "a byte left out", x.p, s[:k]+s[k+1:])
		}
		if t.Failed() {
			return
		}
	}
	if taken < 1000 {
		t.Errorf("only %d turned events are events", taken)
	}
}

// Each number with a needless byte is another form of it, which nothing makes.
func TestReadEventOfLongerForms(t *testing.T) {
	p := impl.Pen{Last: 8, Sites: []string{"a", "b"}}
	parts := []string{"\x08", "\x02", "\x02", "\x01", "\x02", "\x00", "\x11", "\x02", "\x02", "\x01"}
	if _, _, _, ok := holdRead(t, "plain", p, strings.Join(parts, "")); !ok {
		t.Error("the plain form is not read")
	}
	for i, part := range parts {
		for _, form := range []string{string([]byte{part[0] | 128, 0}), string([]byte{part[0] | 128, 128, 0}), string([]byte{part[0] | 128, 1}), "\xff\xff\xff\xff\xff\xff\x7f", "\xff\xff\xff\xff\xff\xff\xff\xff\xff\x01", "\x80"} {
			other := slices.Clone(parts)
			other[i] = form
			_, _, _, ok := holdRead(t, fmt.Sprint("part ", i), p, strings.Join(other, ""))
			if ok && (form[len(form)-1] != 1 || len(form) != 2) {
				t.Errorf("part %d as %q is read", i, form)
			}
		}
	}
}

// Past their bounds: the bytes are those of ShowEvent, if it went on.
func TestReadEventOfNumbersPastTheirBounds(t *testing.T) {
	for _, p := range []impl.Pen{{}, {Last: argEnd, Sites: []string{"a"}}, {Last: -argEnd, Sites: []string{"", "12345678"}}} {
		for _, o := range opsAround() {
			_, _, _, ok := holdRead(t, "operation", p, eventBytes(p, o, impl.Answer{}))
			if ok != speakableTold(o) {
				t.Errorf("the bytes of %+v are read: %v", o, ok)
			}
		}
		for _, a := range answersAround() {
			_, _, _, ok := holdRead(t, "answer", p, eventBytes(p, impl.Op{A: 8}, a))
			if ok != answerTellable(a) {
				t.Errorf("the bytes of %+v are read: %v", a, ok)
			}
		}
	}
}

func TestReadEventOfNamesPastTheirBounds(t *testing.T) {
	p := impl.Pen{Sites: []string{"a"}}
	for n := range 300 {
		s := "\x02\x00\x00\x00" + "\x00" + leastFirst(n) + strings.Repeat("x", n) + "\x00\x00\x00"
		if _, _, _, ok := holdRead(t, "name", p, s); ok != (n <= 8) {
			t.Errorf("a name of %d bytes is read: %v", n, ok)
		}
		holdNoEvent(t, "a name that is not all there", p, "\x02\x00\x00\x00"+"\x00"+leastFirst(n+4)+strings.Repeat("x", n)+"\x00\x00\x00")
	}
}

// Each text of some bytes that is long enough to be an event.
func TestReadEventOfAnyBytes(t *testing.T) {
	pens := []impl.Pen{{}, {Last: 8, Sites: []string{"\x01", ""}}}
	taken := 0
	for _, s := range shortTexts("\x00\x01\x02", 10) {
		p := pens[len(s)%2]
		if _, _, _, ok := holdRead(t, "short", p, s); ok {
			taken++
		}
		if t.Failed() {
			return
		}
	}
	for _, s := range append(shortTexts(allBytes(), 2), shortTexts("\x00\x01\x7f\x80\xff", 5)...) {
		for _, p := range pens {
			holdNoEvent(t, "too short", p, s)
		}
	}
	r := rand.New(rand.NewSource(10))
	for range 20000 {
		b := make([]byte, r.Intn(24))
		for i := range b {
			b[i] = byte(r.Intn(6))
			if r.Intn(8) == 0 {
				b[i] = byte(r.Intn(256))
			}
		}
		if _, _, _, ok := holdRead(t, "any", pens[r.Intn(2)], string(b)); ok {
			taken++
		}
	}
	if taken < 1000 {
		t.Errorf("only %d are events", taken)
	}
}

// Read by another pen than the one that wrote, an event is what that pen would have written it of, or none.
func TestReadEventByAnotherPen(t *testing.T) {
	pens := rightPens()
	for _, x := range someEvents() {
		s, _ := impl.ShowEvent(x.p, x.o, x.a)
		for name, p := range pens {
			o, a, _, ok := holdRead(t, name, p, s)
			if again, _ := impl.ShowEvent(p, o, a); ok && again != s {
				t.Errorf("%s: %q is read as %+v, %+v, of which %q is made", name, s, o, a, again)
			}
		}
	}
}

// A name is told by its bytes: two of which one begins the other, or that look alike, are two.
func TestEventsTellNamesApart(t *testing.T) {
	names := []string{"", "\x00", "\x00\x00", "a", "A", "a ", "ab", "\xe9", "\u00e9", "e\u0301", "12345678", "1234567"}
	var w, r impl.Pen
	for range 2 {
		for _, name := range names {
			w, r = holdEvent(t, name, w, r, alloc(name), impl.Answer{Val: 8})
		}
		if !slices.Equal(w.Sites, names) {
			t.Fatalf("names %q, want %q", w.Sites, names)
		}
	}
}

func TestSamePen(t *testing.T) {
	pens := []impl.Pen{
		{}, {Last: 1}, {Last: -1}, {Last: math.MinInt}, {Last: math.MaxInt}, {Last: 1 << 32},
		{Sites: []string{""}}, {Sites: []string{"", ""}}, {Sites: []string{"a"}}, {Sites: []string{"a", "b"}}, {Sites: []string{"b", "a"}},
		{Sites: []string{"a", "b", "c"}}, {Sites: []string{"a", "b", "d"}}, {Sites: []string{"ab"}}, {Sites: []string{"A"}}, {Sites: []string{"\xff"}}, {Sites: []string{"\ufffd"}},
		{Last: 1, Sites: []string{"a"}}, {Last: 2, Sites: []string{"a"}}, {Last: 1, Sites: []string{"a", "a"}},
		{Sites: manyNames(400)}, {Sites: manyNames(401)}, {Last: math.MinInt, Sites: []string{longText(300), longText(300)}},
	}
	for i, a := range pens {
		for j, b := range pens {
			x, y := penCopy(a), penCopy(b)
			all := [][]string{whole(x.Sites), whole(y.Sites)}
			if got := impl.SamePen(x, y); got != (i == j) {
				t.Errorf("SamePen(%s, %s) = %v", brief(a), brief(b), got)
			}
			if !slices.Equal(all[0], whole(x.Sites)) || !slices.Equal(all[1], whole(y.Sites)) {
				t.Error("SamePen writes into what it is given")
			}
		}
	}
	if !impl.SamePen(impl.Pen{Sites: []string{}}, impl.Pen{}) || !impl.SamePen(impl.Pen{}, impl.Pen{Sites: []string{}}) {
		t.Error("an empty list and nil are the same")
	}
}

// textSpan is the memory of a text that has some bytes.
func textSpan(s string) span {
	from := uintptr(unsafe.Pointer(unsafe.StringData(s)))
	return span{from, from + uintptr(len(s))}
}

// What was answered stays as it is, whatever is done with it or with what was given; and no text stands in memory that was given.
func TestEventsShareNothing(t *testing.T) {
	p := penCopy(impl.Pen{Last: 8, Sites: []string{strings.Clone("first"), strings.Clone("second")}})
	given := []span{textSpan(p.Sites[0]), textSpan(p.Sites[1])}
	for _, name := range []string{strings.Clone("second"), strings.Clone("third"), strings.Clone("much too long")} {
		s, q := impl.ShowEvent(p, alloc(name), impl.Answer{Val: 8, Freed: []int{8, 9}})
		one, two := slices.Clone(q.Sites), slices.Clone(q.Sites)
		o, a, r, _ := impl.ReadEvent(p, s)
		spans := slices.Concat(given, []span{textSpan(name), textSpan(s), textSpan(o.Site)})
		for _, text := range slices.Concat(q.Sites, r.Sites) {
			spans = append(spans, textSpan(text))
		}
		holdApart(t, name, spans)
		holdApart(t, name, []span{spanOf(p.Sites), spanOf(q.Sites), spanOf(r.Sites), spanOf(a.Freed)})
		q.Sites[0] = "changed"
		if p.Sites[0] != "first" || !slices.Equal(r.Sites, one) {
			t.Errorf("%s: one pen changes another", name)
		}
		r.Sites = append(r.Sites[:1], "changed", "changed")
		if p.Sites[0] != "first" || p.Sites[1] != "second" || !slices.Equal(q.Sites[1:], two[1:]) {
			t.Errorf("%s: one pen changes another", name)
		}
	}
}

// The same pen handed in twice, with what is behind it in its room: neither answer shows in the other.
func TestEventsOfOnePenTwice(t *testing.T) {
	p := penCopy(impl.Pen{Sites: []string{"a"}})
	_, first := impl.ShowEvent(p, alloc("b"), impl.Answer{})
	_, second := impl.ShowEvent(p, alloc("c"), impl.Answer{})
	_, third := impl.ShowEvent(first, alloc("d"), impl.Answer{})
	_, fourth := impl.ShowEvent(first, alloc("e"), impl.Answer{})
	for i, x := range [][2][]string{{first.Sites, {"a", "b"}}, {second.Sites, {"a", "c"}}, {third.Sites, {"a", "b", "d"}}, {fourth.Sites, {"a", "b", "e"}}, {p.Sites, {"a"}}} {
		if !slices.Equal(x[0], x[1]) {
			t.Errorf("%d: %q, want %q", i, x[0], x[1])
		}
	}
}
