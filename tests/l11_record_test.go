package tests

import (
	"fmt"
	"math/rand"
	"runtime"
	"slices"
	"strings"
	"sync"
	"testing"

	"loop.example/g01412/impl"
)

var (
	_ func([]impl.Op) impl.Tape                    = impl.Record
	_ func(string) ([]impl.Op, []impl.Answer, int) = impl.Decode
	_ func(string) impl.Back                       = impl.Replay
	_ func([]impl.Op, []impl.Answer) string        = impl.Encode
	_ func([]impl.Op, []impl.Op) bool              = impl.SameOps
	_                                              = impl.Tape{Log: "s", Heap: impl.Heap{}, Answers: []impl.Answer{{}}}
	_                                              = impl.Back{Code: 1, At: 2, Heap: impl.Heap{}, Ops: []impl.Op{{}}, Answers: []impl.Answer{{}}}
)

func TestRecordConstants(t *testing.T) {
	codes := []int{impl.RpOk, impl.RpLog, impl.RpEvent, impl.RpAnswer}
	if !slices.Equal(codes, []int{0, 1, 2, 3}) {
		t.Error("codes", codes)
	}
}

// Logs of what was done, told once more.

// stepTold is Apply on a right heap, by chapter 8's words.
func stepTold(h impl.Heap, o impl.Op) (impl.Heap, impl.Answer) {
	if code := wantCode(h, o); code != impl.ErOk {
		return h, impl.Answer{Code: code}
	}
	return applyTold(h, o)
}

func playTold(l []impl.Op) (impl.Heap, []impl.Answer) {
	h := emptyHeap()
	var answers []impl.Answer
	for _, o := range l[:min(len(l), 400)] {
		after, a := stepTold(h, o)
		h, answers = after, append(answers, a)
	}
	return h, answers
}

// eventsTold: the bytes of each event, by a pen that is handed on; false where one cannot be written down.
func eventsTold(l []impl.Op, a []impl.Answer) ([]string, bool) {
	var p impl.Pen
	var payloads []string
	for i := range l {
		s, q := eventTold(p, l[i], a[i])
		if s == "" {
			return nil, false
		}
		payloads, p = append(payloads, s), q
	}
	return payloads, true
}

func encodeTold(l []impl.Op, a []impl.Answer) string {
	if len(l) != len(a) || len(l) >= 400 {
		return ""
	}
	payloads, ok := eventsTold(l, a)
	if !ok {
		return ""
	}
	log, _ := logOf(payloads)
	return log
}

// payloadsTold: the payloads of which a log is made, if it is the log that is made of them.
func payloadsTold(log string) ([]string, bool) {
	rest, _ := strings.CutPrefix(log, wantHead)
	c := pieces{rest: rest}
	var l []string
	for {
		c.number()
		size := c.number()
		if c.cut || size < 0 || size > 200 || len(c.rest) < size+4 || len(l) > 400 {
			return nil, false
		}
		if size == 0 {
			whole, _ := logOf(l)
			return l, whole == log && len(l) <= 400
		}
		l = append(l, c.rest[:size])
		c.rest = c.rest[size+4:]
	}
}

func decodeTold(log string) ([]impl.Op, []impl.Answer, int) {
	payloads, ok := payloadsTold(log)
	if !ok {
		return nil, nil, impl.RpLog
	}
	var p impl.Pen
	var ops []impl.Op
	var answers []impl.Answer
	for _, s := range payloads {
		o, a, q, ok := readTold(p, s)
		if !ok {
			return nil, nil, impl.RpEvent
		}
		ops, answers, p = append(ops, o), append(answers, a), q
	}
	return ops, answers, impl.RpOk
}

func replayTold(log string) impl.Back {
	ops, answers, code := decodeTold(log)
	b := impl.Back{Code: code, Heap: emptyHeap()}
	for i, o := range ops {
		after, a := stepTold(b.Heap, o)
		if !sameTold(a, answers[i]) {
			b.Code = impl.RpAnswer
			return b
		}
		b = impl.Back{At: i + 1, Heap: after, Ops: ops[:i+1], Answers: answers[:i+1]}
	}
	return b
}

func sameAnswers(a []impl.Answer, b []impl.Answer) bool { return slices.EqualFunc(a, b, sameTold) }

func answerSpans(l []impl.Answer) []span {
	spans := []span{spanOf(l)}
	for _, a := range l[:cap(l)] {
		spans = append(spans, spanOf(a.Freed))
	}
	return spans
}

// answersCopy is the answers in memory of their own, each list with room behind it, in which something stands.
func answersCopy(l []impl.Answer) []impl.Answer {
	c := roomy(l, impl.Answer{Code: 77})
	all := c[:cap(c)]
	for i := range all {
		all[i].Freed = roomy(all[i].Freed, 77)
	}
	return c
}

// wholeAnswers is all that lists of answers have, what stands behind them too, as text.
func wholeAnswers(l []impl.Answer) string {
	all := whole(l)
	for i := range all {
		all[i].Freed = whole(all[i].Freed)
	}
	return fmt.Sprint(all)
}

// briefBack keeps what a fault tells readable: a log may have hundreds of operations.
func briefBack(b impl.Back) string {
	return fmt.Sprintf("code %d, at %d, %d operations, %d answers, heap %v", b.Code, b.At, len(b.Ops), len(b.Answers), b.Heap)
}

func sameBack(a impl.Back, b impl.Back) bool {
	return a.Code == b.Code && a.At == b.At && alike(a.Heap, b.Heap) && slices.Equal(a.Ops, b.Ops) && sameAnswers(a.Answers, b.Answers)
}

// holdDecode holds Decode against what is told, and answers it.
func holdDecode(t *testing.T, what string, log string) ([]impl.Op, []impl.Answer, int) {
	t.Helper()
	ops, answers, code := impl.Decode(log)
	wantOps, wantAnswers, want := decodeTold(log)
	if code != want || !slices.Equal(ops, wantOps) || !sameAnswers(answers, wantAnswers) {
		t.Errorf("%s: Decode tells %d operations, %d answers, code %d, want %d, %d, %d", what, len(ops), len(answers), code, len(wantOps), len(wantAnswers), want)
	}
	holdApart(t, what, append(answerSpans(answers), spanOf(ops)))
	return ops, answers, code
}

// holdReplay is holdDecode for Replay.
func holdReplay(t *testing.T, what string, log string) impl.Back {
	t.Helper()
	b := impl.Replay(log)
	if want := replayTold(log); !sameBack(b, want) {
		t.Errorf("%s: Replay tells %s, want %s", what, briefBack(b), briefBack(want))
	}
	holdApart(t, what, slices.Concat(answerSpans(b.Answers), heapSpans(b.Heap), []span{spanOf(b.Ops)}))
	return b
}

// holdRefusedLog: Decode tells nothing but the code, and Replay nothing but the code and a new heap.
func holdRefusedLog(t *testing.T, what string, log string, code int) {
	t.Helper()
	if ops, answers, got := holdDecode(t, what, log); got != code || len(ops) != 0 || len(answers) != 0 {
		t.Errorf("%s: Decode tells %d operations, %d answers, code %d, want nothing and %d", what, len(ops), len(answers), got, code)
	}
	if b := holdReplay(t, what, log); !sameBack(b, impl.Back{Code: code, Heap: emptyHeap()}) {
		t.Errorf("%s: Replay tells %s, want nothing and %d", what, briefBack(b), code)
	}
}

// holdEncode holds Encode against what is told, and whether it only looked at what it was given; it answers the log.
func holdEncode(t *testing.T, what string, l []impl.Op, a []impl.Answer) string {
	t.Helper()
	ops, answers := roomy(l, alloc("behind")), answersCopy(a)
	allOps, allAnswers := whole(ops), wholeAnswers(answers)
	log := impl.Encode(ops, answers)
	if want := encodeTold(l, a); log != want {
		t.Errorf("%s: Encode of %d operations and %d answers has %d bytes, want %d", what, len(l), len(a), len(log), len(want))
	}
	if !slices.Equal(allOps, whole(ops)) || allAnswers != wholeAnswers(answers) {
		t.Errorf("%s: Encode writes into what it is given", what)
	}
	return log
}

// holdOutOfLog is promise 11 of a log that is not empty: the same operations, the same answers, the same heap in each field.
func holdOutOfLog(t *testing.T, what string, log string, l []impl.Op, h impl.Heap, answers []impl.Answer) {
	t.Helper()
	ops, a, code := impl.Decode(log)
	if code != impl.RpOk || !slices.Equal(ops, l) || !impl.SameOps(ops, l) || !sameAnswers(a, answers) {
		t.Errorf("%s: Decode tells %d operations of %d, %d answers, code %d", what, len(ops), len(l), len(a), code)
	}
	b := impl.Replay(log)
	if !sameBack(b, impl.Back{At: len(l), Heap: h, Ops: l, Answers: answers}) || !impl.SameHeap(b.Heap, h) {
		t.Errorf("%s: Replay tells %s, want %d operations, heap %v", what, briefBack(b), len(l), h)
	}
}

// holdRecord holds Record against what is told, and promise 11 wherever there is a log; it answers the log.
func holdRecord(t *testing.T, what string, l []impl.Op) string {
	t.Helper()
	given := roomy(l, alloc("behind"))
	all := whole(given)
	tape := impl.Record(given)
	h, answers := playTold(l)
	if !alike(tape.Heap, h) || !sameAnswers(tape.Answers, answers) {
		t.Errorf("%s: Record of %d operations tells %d answers, and leaves\n%v, want %d and\n%v", what, len(l), len(tape.Answers), tape.Heap, len(answers), h)
	}
	if want := encodeTold(l, answers); tape.Log != want {
		t.Errorf("%s: Record of %d operations has a log of %d bytes, want %d", what, len(l), len(tape.Log), len(want))
	}
	if !slices.Equal(all, whole(given)) {
		t.Errorf("%s: Record writes into what it is given", what)
	}
	holdApart(t, what, slices.Concat(answerSpans(tape.Answers), heapSpans(tape.Heap), []span{spanOf(given)}))
	if written := len(l) < 400 && !slices.ContainsFunc(l, unspeakable); written != (tape.Log != "") {
		t.Errorf("%s: Record of %d operations has a log of %d bytes", what, len(l), len(tape.Log))
	}
	if tape.Log != "" {
		holdOutOfLog(t, what, tape.Log, l, tape.Heap, tape.Answers)
	}
	return tape.Log
}

func unspeakable(o impl.Op) bool { return !speakableTold(o) }

// somePlay goes on by what some operation does, each of which may be written down, and has any name.
func somePlay(r *rand.Rand, n int) []impl.Op {
	h := impl.HeapNew()
	var l []impl.Op
	for len(l) < n {
		o := withName(r, someOperation(r, h))
		if unspeakable(o) {
			continue
		}
		h, _ = impl.Apply(h, o)
		l = append(l, o)
	}
	return l
}

// eachKind is a play of each kind of operation, taken and refused by each code, in which one, two and three go at once, and a ring.
func eachKind() []impl.Op {
	l := []impl.Op{
		alloc("a"), alloc("bb"), alloc("a"), // 8, 9, 10
		store(8, 0, 9), store(9, 2, 10), release(9), release(10),
		retain(8), root(8), unroot(8), release(8), weak(10), load(0),
		release(8), // 8, 9 and 10 go
		load(0), drop(0), drop(0), load(7),
		alloc("c"), alloc("d"), store(16, 0, 17), store(17, 1, 16), release(16), release(17), // a ring of 16 and 17
		collect(),                                                               // it goes
		alloc("c"), alloc("a"), store(24, 1, 25), release(25), store(24, 1, -1), // 25 goes
		release(25), retain(9), root(8), unroot(-1), weak(0), store(24, 3, 24), store(24, 0, 9), store(8, 0, -1),
		alloc(""), unroot(24), {Kind: 99, A: -5}, {}, {Kind: -argEnd, A: argEnd, B: argEnd, C: -argEnd, Site: "12345678"},
	}
	for range 20 {
		l = append(l, retain(24), root(24))
	}
	for range 9 {
		l = append(l, weak(24))
	}
	l = append(l, alloc("e"), alloc("f"), alloc("g")) // one name too many
	for range 8 {
		l = append(l, alloc("a"))
	}
	return append(l, collect())
}

func TestEachKindOutOfItsLog(t *testing.T) {
	l := eachKind()
	holdRecord(t, "each kind", l)
	_, answers := impl.Play(l)
	freed, answered := map[int]int{}, map[[2]int]int{}
	codes := map[int]int{}
	for i, a := range answers {
		freed[len(a.Freed)]++
		answered[[2]int{l[i].Kind, a.Code}]++
		codes[a.Code]++
	}
	holdManifold(t, freed, answered)
	for code := range 7 {
		if codes[code] == 0 {
			t.Errorf("nothing is answered with code %d", code)
		}
	}
}

// The bytes of some logs, written out.
func TestLogsByTheirBytes(t *testing.T) {
	for _, x := range []struct {
		l        []impl.Op
		payloads []string
	}{
		{nil, nil},
		{[]impl.Op{{}}, []string{"\x00\x00\x00\x00" + "\x00\x00" + "\x02\x00\x00"}},
		{[]impl.Op{alloc("a"), release(8), alloc("a")}, []string{
			"\x02\x00\x00\x00" + "\x00\x01a" + "\x00\x10\x00",
			"\x06\x10\x00\x0f" + "\x00\x00" + "\x00\x0f\x01\x00",
			"\x02\x0f\x00\x00" + "\x01" + "\x00\x20\x00",
		}},
		{[]impl.Op{{Kind: 10, A: argEnd, Site: "12345678"}, collect()}, []string{
			"\x14\x80\xa8\xd6\xb9\x07\x00\xff\xa7\xd6\xb9\x07" + "\x00\x0812345678" + "\x00\xff\xa7\xd6\xb9\x07\x00",
			"\x14\xff\xa7\xd6\xb9\x07\x00\x00" + "\x00\x00" + "\x00\x00\x00",
		}},
	} {
		want, _ := logOf(x.payloads)
		if got := holdRecord(t, "by its bytes", x.l); got != want {
			t.Errorf("Record(%+v).Log = %q, want %q", x.l, got, want)
		}
	}
}

// Promise 11, over plays.
func TestLongPlaysOutOfTheirLogs(t *testing.T) {
	freed, answered := map[int]int{}, map[[2]int]int{}
	names := 0
	for seed := range 60 {
		r := rand.New(rand.NewSource(int64(seed)))
		l := somePlay(r, 100+r.Intn(300))
		holdRecord(t, fmt.Sprint("play ", seed), l)
		_, answers := impl.Play(l)
		for i, a := range answers {
			freed[len(a.Freed)]++
			answered[[2]int{l[i].Kind, a.Code}]++
			if l[i].Site != "" {
				names++
			}
		}
		if t.Failed() {
			return
		}
	}
	holdManifold(t, freed, answered)
	if names < 1000 {
		t.Errorf("only %d names are written down", names)
	}
}

// Each beginning of a play is a play of its own.
func TestEachBeginningOutOfItsLog(t *testing.T) {
	l := append(eachKind(), somePlay(rand.New(rand.NewSource(11)), 40)...)
	for n := range len(l) + 1 {
		holdRecord(t, fmt.Sprint("the first ", n), l[:n])
	}
}

func TestAllShortPlaysOutOfTheirLogs(t *testing.T) {
	ops := []impl.Op{alloc("a"), alloc("b"), release(8), store(8, 0, 9), store(9, 1, 8), release(9), weak(8), load(0), collect()}
	plays := [][]impl.Op{nil}
	for range 4 {
		var longer [][]impl.Op
		for _, l := range plays {
			for _, o := range ops {
				longer = append(longer, append(slices.Clone(l), o))
			}
		}
		plays = longer
		for _, l := range plays {
			holdRecord(t, "short", l)
		}
		if t.Failed() {
			return
		}
	}
}

// namedOps: each has a name of its own, so that the pen has as many as it may.
func namedOps(n int) []impl.Op {
	var l []impl.Op
	for _, name := range manyNames(n) {
		l = append(l, impl.Op{Kind: impl.OpRetain, A: len(l), Site: name})
	}
	return l
}

func TestRecordOfEachLength(t *testing.T) {
	r := rand.New(rand.NewSource(12))
	some := somePlay(r, 402)
	for _, n := range []int{0, 1, 2, 127, 128, 129, 398, 399, 400, 401, 402} {
		for what, l := range map[string][]impl.Op{"some": some[:n], "collect": slices.Repeat([]impl.Op{collect()}, n), "named": namedOps(n), "alloc": slices.Repeat([]impl.Op{alloc("a")}, n)} {
			log := holdRecord(t, fmt.Sprint(n, " of ", what), l)
			if (log != "") != (n < 400) {
				t.Errorf("%d of %s: a log of %d bytes", n, what, len(log))
			}
			if tape := impl.Record(l); len(tape.Answers) != min(n, 400) {
				t.Errorf("%d of %s: %d answers", n, what, len(tape.Answers))
			}
		}
	}
	for _, n := range []int{500, 3000} {
		if log := holdRecord(t, fmt.Sprint(n), slices.Repeat(some[:50], n/50)); log != "" {
			t.Errorf("%d: a log of %d bytes", n, len(log))
		}
	}
}

// One operation that is just within its bounds or just past them, wherever it stands.
func TestRecordOfWhatCannotBeWritten(t *testing.T) {
	around := []impl.Op{alloc("a"), alloc("b"), store(8, 0, 9), release(9), release(8)}
	for _, o := range opsAround() {
		for at := range len(around) + 1 {
			l := slices.Insert(slices.Clone(around), at, o)
			log := holdRecord(t, fmt.Sprintf("%.80s at %d", fmt.Sprint(o), at), l)
			if (log != "") != speakableTold(o) {
				t.Errorf("%+v at %d: a log of %d bytes", o, at, len(log))
			}
		}
	}
	l := slices.Repeat([]impl.Op{collect()}, 398)
	for _, o := range []impl.Op{{A: argEnd + 1}, {B: -argEnd - 1}, alloc("123456789"), alloc("12345678")} {
		for _, at := range []int{0, 200, 398} {
			holdRecord(t, fmt.Sprintf("%+v at %d", o, at), slices.Insert(slices.Clone(l), at, o))
		}
	}
}

func TestRecordOfEachBound(t *testing.T) {
	for _, x := range []struct {
		o  impl.Op
		ok bool
	}{
		{impl.Op{Kind: argEnd}, true}, {impl.Op{Kind: argEnd + 1}, false}, {impl.Op{Kind: -argEnd}, true}, {impl.Op{Kind: -argEnd - 1}, false},
		{impl.Op{A: argEnd}, true}, {impl.Op{A: argEnd + 1}, false}, {impl.Op{A: -argEnd}, true}, {impl.Op{A: -argEnd - 1}, false},
		{impl.Op{B: argEnd}, true}, {impl.Op{B: argEnd + 1}, false}, {impl.Op{B: -argEnd}, true}, {impl.Op{B: -argEnd - 1}, false},
		{impl.Op{C: argEnd}, true}, {impl.Op{C: argEnd + 1}, false}, {impl.Op{C: -argEnd}, true}, {impl.Op{C: -argEnd - 1}, false},
		{alloc("12345678"), true}, {alloc("123456789"), false}, {alloc(""), true}, {alloc("\u20ac\u20ac\u20ac"), false}, {alloc("\xff\x00"), true},
	} {
		tape := impl.Record([]impl.Op{alloc("a"), x.o})
		if (tape.Log != "") != x.ok || len(tape.Answers) != 2 || len(impl.LiveIds(tape.Heap)) < 1 {
			t.Errorf("%+v: a log of %d bytes, answers %v", x.o, len(tape.Log), tape.Answers)
		}
	}
}

// One answer that is just within its bounds or just past them, wherever it stands.
func TestEncodeOfAnswersThatCannotBeWritten(t *testing.T) {
	ops := []impl.Op{alloc("a"), alloc("a"), release(8), release(9)}
	for _, a := range answersAround() {
		for at := range ops {
			answers := []impl.Answer{{Val: 8}, {Val: 9}, {Freed: []int{8}}, {Freed: []int{9}}}
			answers[at] = a
			what := fmt.Sprintf("%.80s at %d", fmt.Sprint(a), at)
			log := holdEncode(t, what, ops, answers)
			if (log != "") != answerTellable(a) {
				t.Errorf("%s: a log of %d bytes", what, len(log))
			}
			holdDecode(t, what, log)
			holdReplay(t, what, log)
		}
	}
}

func TestEncodeOfNotAsMany(t *testing.T) {
	ops := somePlay(rand.New(rand.NewSource(13)), 402)
	_, answers := impl.Play(ops)
	answers = append(answers, impl.Answer{}, impl.Answer{})
	counts := []int{0, 1, 2, 3, 398, 399, 400, 401, 402}
	for _, n := range counts {
		for _, m := range counts {
			what := fmt.Sprintf("%d operations, %d answers", n, m)
			log := holdEncode(t, what, ops[:n], answers[:m])
			if (log != "") != (n == m && n < 400) {
				t.Errorf("%s: a log of %d bytes", what, len(log))
			}
			if n == m {
				holdDecode(t, what, log)
				holdReplay(t, what, log)
			}
		}
	}
	want, _ := logOf(nil)
	if impl.Encode(nil, nil) != want || impl.Encode([]impl.Op{}, nil) != want || impl.Encode(nil, []impl.Answer{}) != want {
		t.Error("none of both")
	}
}

// Encode asks for no heap: any operations and answers that can be written down are told again as they are.
func TestDecodeTakesWhatEncodeMakes(t *testing.T) {
	r := rand.New(rand.NewSource(14))
	some := func() int {
		return []int{0, 1, -1, 8, 63, 64, -65, 8191, argEnd, -argEnd, r.Intn(2*argEnd) - argEnd}[r.Intn(11)]
	}
	for range 300 {
		var ops []impl.Op
		var answers []impl.Answer
		for range r.Intn(60) {
			a := impl.Answer{Code: r.Intn(7), Val: some()}
			for range r.Intn(9) {
				a.Freed = append(a.Freed, some())
			}
			ops, answers = append(ops, impl.Op{Kind: some(), A: some(), B: some(), C: some(), Site: longText(300)[r.Intn(290):][:r.Intn(9)]}), append(answers, a)
		}
		log := holdEncode(t, "any", ops, answers)
		got, told, code := holdDecode(t, "any", log)
		if code != impl.RpOk || !slices.Equal(got, ops) || !sameAnswers(told, answers) {
			t.Fatalf("%d operations are told as %d, code %d", len(ops), len(got), code)
		}
		holdReplay(t, "any", log)
	}
}

// harmed: some logs that are short enough to be harmed at each byte.
func harmed() []string {
	l := eachKind()
	return []string{impl.Record(nil).Log, impl.Record(l[:1]).Log, impl.Record(l[:3]).Log, impl.Record(l[:25]).Log, impl.Record(l).Log}
}

func TestLogsCutOffOrWithMoreBehind(t *testing.T) {
	for i, log := range harmed() {
		for k := range len(log) {
			holdRefusedLog(t, fmt.Sprintf("log %d cut off at %d", i, k), log[:k], impl.RpLog)
		}
		for _, more := range append(shortTexts(allBytes(), 1)[1:], log, frameOf(0, ""), wantHead) {
			holdRefusedLog(t, fmt.Sprintf("log %d, %d bytes behind", i, len(more)), log+more, impl.RpLog)
		}
		holdRefusedLog(t, "a byte ahead", "\x00"+log, impl.RpLog)
	}
}

func TestLogsWithAByteTurned(t *testing.T) {
	for i, log := range harmed() {
		for at := range len(log) {
			for _, bit := range []int{0, 3, 7} {
				holdRefusedLog(t, fmt.Sprintf("log %d, bit %d of byte %d turned", i, bit, at), flipped(log, at, bit), impl.RpLog)
			}
			holdRefusedLog(t, fmt.Sprintf("log %d, byte %d left out", i, at), log[:at]+log[at+1:], impl.RpLog)
		}
	}
}

// holdPayloads: a log of these payloads, whatever they are.
func holdPayloads(t *testing.T, what string, payloads []string, code int) {
	t.Helper()
	log, _ := logOf(payloads)
	if code == impl.RpOk {
		if _, _, got := holdDecode(t, what, log); got != code {
			t.Errorf("%s: Decode tells code %d", what, got)
		}
		holdReplay(t, what, log)
		return
	}
	holdRefusedLog(t, what, log, code)
}

// One payload that is no event, wherever it stands: nothing of what stands ahead is told.
func TestLogsOfWhatIsNoEvent(t *testing.T) {
	l := eachKind()
	_, answers := impl.Play(l)
	payloads, _ := eventsTold(l, answers)
	holdPayloads(t, "whole", payloads, impl.RpOk)
	holdPayloads(t, "none", nil, impl.RpOk)
	for _, wrong := range []string{"a", "\x00", "\xff", strings.Repeat("\x00", 200), longText(200), payloads[0][:len(payloads[0])-1], payloads[0] + "\x00", "\x00\x00\x00\x00\x00\x00\x07\x00\x00"} {
		for at := range len(payloads) {
			other := slices.Clone(payloads)
			other[at] = wrong
			holdPayloads(t, fmt.Sprintf("%.20q in place of %d", wrong, at), other, impl.RpEvent)
			holdPayloads(t, fmt.Sprintf("%.20q alone behind %d", wrong, at), append(slices.Clone(payloads[:at]), wrong), impl.RpEvent)
		}
	}
	for at := range payloads {
		for k := 1; k < len(payloads[at]); k++ {
			other := slices.Clone(payloads)
			other[at] = payloads[at][:k]
			holdPayloads(t, fmt.Sprintf("payload %d cut off at %d", at, k), other, impl.RpEvent)
		}
	}
}

// The pen is handed on: an event that is one by itself is none where the pen is another.
func TestLogsReadByAPenThatIsHandedOn(t *testing.T) {
	first, p := impl.ShowEvent(impl.Pen{}, alloc("a"), impl.Answer{Val: 8})
	again, _ := impl.ShowEvent(p, alloc("a"), impl.Answer{Val: 9})
	far, _ := impl.ShowEvent(impl.Pen{}, impl.Op{A: argEnd}, impl.Answer{})
	farthest, _ := impl.ShowEvent(impl.Pen{Last: -argEnd}, impl.Op{A: argEnd, Site: "b"}, impl.Answer{})
	for _, x := range []struct {
		what     string
		payloads []string
		code     int
	}{
		{"a name and its place", []string{first, again}, impl.RpOk},
		{"a place without the name", []string{again}, impl.RpEvent},
		{"a place ahead of the name", []string{again, first}, impl.RpEvent},
		{"a name written out twice", []string{first, first}, impl.RpEvent},
		{"a place again and again", []string{first, again, again, again}, impl.RpOk},
		{"as far as it goes", []string{far}, impl.RpOk},
		{"as far once more, with the name written out", []string{far, far}, impl.RpEvent},
		{"farther than it goes", []string{first, far, farthest}, impl.RpEvent},
		{"from the other end", []string{farthest}, impl.RpEvent},
	} {
		holdPayloads(t, x.what, x.payloads, x.code)
	}
}

// Encode makes no log of MaxFrames events, but there is one, with as many names as a pen may have; of one more there is none.
func TestLogsOfMaxFramesEvents(t *testing.T) {
	for _, l := range [][]impl.Op{namedOps(401), slices.Repeat([]impl.Op{alloc("a"), collect()}, 201)[:401], somePlay(rand.New(rand.NewSource(15)), 401)} {
		var answers []impl.Answer
		h := emptyHeap()
		for _, o := range l {
			after, a := stepTold(h, o)
			h, answers = after, append(answers, a)
		}
		payloads, _ := eventsTold(l[:400], answers)
		log, _ := logOf(payloads)
		ops, _, code := holdDecode(t, "MaxFrames", log)
		if b := holdReplay(t, "MaxFrames", log); code != impl.RpOk || len(ops) != 400 || b.At != 400 || b.Code != impl.RpOk {
			t.Errorf("MaxFrames events: code %d, %d operations, %s", code, len(ops), briefBack(b))
		}
		holdPayloads(t, "one event more", append(payloads, "x"), impl.RpLog)
		holdPayloads(t, "one event more", append(payloads, payloads[399]), impl.RpLog)
		holdPayloads(t, "the last one is none", append(slices.Clone(payloads[:399]), "x"), impl.RpEvent)
	}
}

func TestLogsOfAnyBytes(t *testing.T) {
	for _, s := range append(shortTexts(allBytes(), 1), shortTexts("HLOG\x01\x00", 5)...) {
		holdRefusedLog(t, "short", s, impl.RpLog)
	}
	r := rand.New(rand.NewSource(16))
	codes := map[int]int{}
	for range 20000 {
		b := make([]byte, r.Intn(60))
		for i := range b {
			b[i] = byte(r.Intn(256))
		}
		holdRefusedLog(t, "any", string(b), impl.RpLog)
		holdRefusedLog(t, "any behind a head", wantHead+string(b), impl.RpLog)
		log, _ := logOf(somePayloads(r))
		_, _, code := holdDecode(t, "any payloads", log)
		holdReplay(t, "any payloads", log)
		codes[code]++
		if t.Failed() {
			return
		}
	}
	if codes[impl.RpOk] < 100 || codes[impl.RpEvent] < 100 {
		t.Errorf("codes %v", codes)
	}
}

// somePayloads: short ones of small numbers, of which some are events.
func somePayloads(r *rand.Rand) []string {
	var l []string
	for range 1 + r.Intn(3) {
		b := make([]byte, 8+r.Intn(3))
		for i := range b {
			b[i] = byte(r.Intn(3))
		}
		l = append(l, string(b))
	}
	return l
}

// otherAnswers: what differs from an answer in one thing, and can be written down.
func otherAnswers(a impl.Answer) []impl.Answer {
	var l []impl.Answer
	put := func(change func(b *impl.Answer)) {
		b := impl.Answer{Code: a.Code, Val: a.Val, Freed: slices.Clone(a.Freed)}
		change(&b)
		if !sameTold(a, b) && answerTellable(b) {
			l = append(l, b)
		}
	}
	for code := range 7 {
		put(func(b *impl.Answer) { b.Code = code })
	}
	for _, n := range []int{0, -1, 1, 8, a.Val + 1, a.Val - 1, a.Val + 8, argEnd, -argEnd} {
		put(func(b *impl.Answer) { b.Val = n })
		put(func(b *impl.Answer) { b.Freed = append(b.Freed, n) })
		put(func(b *impl.Answer) { b.Freed = slices.Insert(b.Freed, 0, n) })
		for i := range a.Freed {
			put(func(b *impl.Answer) { b.Freed[i] = n })
			put(func(b *impl.Answer) { b.Freed[i]++ })
			put(func(b *impl.Answer) { b.Freed = slices.Delete(b.Freed, i, i+1) })
		}
	}
	put(func(b *impl.Answer) { slices.Reverse(b.Freed) })
	put(func(b *impl.Answer) { b.Freed = nil })
	put(func(b *impl.Answer) { b.Freed = []int{8, 9, 10, 11, 12, 13, 14, 15} })
	return l
}

// holdChanged: of a play of which one answer is another one, just what stands ahead of it counts.
func holdChanged(t *testing.T, what string, l []impl.Op, answers []impl.Answer, at int, a impl.Answer) {
	t.Helper()
	other := slices.Clone(answers)
	other[at] = a
	h, ahead := playTold(l[:at])
	b := holdReplay(t, what, holdEncode(t, what, l, other))
	if !sameBack(b, impl.Back{Code: impl.RpAnswer, At: at, Heap: h, Ops: l[:at], Answers: ahead}) {
		t.Errorf("%s: answer %d changed into %+v: %s", what, at, a, briefBack(b))
	}
}

// Each answer of a play is changed, in each field.
func TestReplayOfAnAnswerThatWasChanged(t *testing.T) {
	l := eachKind()
	_, answers := impl.Play(l)
	for at := range l {
		others := otherAnswers(answers[at])
		if len(others) < 10 {
			t.Errorf("answer %d: only %d others", at, len(others))
		}
		for _, a := range others {
			holdChanged(t, "each kind", l, answers, at, a)
		}
		if t.Failed() {
			return
		}
	}
}

// The first, one in the middle and the last of the longest play that is recorded; and of one alone.
func TestReplayOfAnAnswerThatWasChangedInALongPlay(t *testing.T) {
	l := somePlay(rand.New(rand.NewSource(17)), 399)
	_, answers := impl.Play(l)
	for _, at := range []int{0, 1, 200, 397, 398} {
		for _, a := range otherAnswers(answers[at]) {
			holdChanged(t, "long", l, answers, at, a)
		}
	}
	for _, o := range []impl.Op{alloc("a"), {}, collect(), release(8)} {
		_, answers := impl.Play([]impl.Op{o})
		for _, a := range otherAnswers(answers[0]) {
			holdChanged(t, "alone", []impl.Op{o}, answers, 0, a)
		}
	}
}

// Of more than one that was changed the first one tells where it ends, though those behind are right for what was recorded.
func TestReplayEndsAtTheFirstChange(t *testing.T) {
	l := eachKind()
	_, answers := impl.Play(l)
	for at := range l {
		other := slices.Clone(answers)
		for i := at; i < len(l); i += 3 {
			other[i] = impl.Answer{Code: answers[i].Code, Val: answers[i].Val + 1, Freed: answers[i].Freed}
		}
		if b := holdReplay(t, "more than one", impl.Encode(l, other)); b.Code != impl.RpAnswer || b.At != at {
			t.Errorf("all third from %d on: %s", at, briefBack(b))
		}
	}
}

// Operations that were left out or exchanged, under a right log: what is not answered as was written does not count.
func TestReplayOfOperationsThatWereMoved(t *testing.T) {
	l := eachKind()
	_, answers := impl.Play(l)
	ended := 0
	for at := range l {
		ops, told := slices.Delete(slices.Clone(l), at, at+1), slices.Delete(slices.Clone(answers), at, at+1)
		if b := holdReplay(t, "left out", holdEncode(t, "left out", ops, told)); b.Code == impl.RpAnswer {
			ended++
		}
		ops, told = slices.Clone(l), slices.Clone(answers)
		if at > 0 {
			ops[at-1], ops[at], told[at-1], told[at] = ops[at], ops[at-1], told[at], told[at-1]
		}
		if b := holdReplay(t, "exchanged", holdEncode(t, "exchanged", ops, told)); b.Code == impl.RpAnswer {
			ended++
		}
	}
	if ended < 20 {
		t.Errorf("only %d were answered otherwise", ended)
	}
}

func TestSameOps(t *testing.T) {
	one := impl.Op{Kind: 1, A: 2, B: 3, C: 4, Site: "s"}
	ops := []impl.Op{{}, one, {Kind: 2, A: 2, B: 3, C: 4, Site: "s"}, {Kind: 1, A: 3, B: 3, C: 4, Site: "s"}, {Kind: 1, A: 2, B: 4, C: 4, Site: "s"}, {Kind: 1, A: 2, B: 3, C: 5, Site: "s"},
		{Kind: 1, A: 2, B: 3, C: 4, Site: "t"}, {Kind: 1, A: 2, B: 3, C: 4}, {Kind: 1, A: 2, B: 3, C: 4, Site: "s\x00"}, {Kind: 1 + 1<<32, A: 2, B: 3, C: 4, Site: "s"},
		{Kind: 4, A: 3, B: 2, C: 1, Site: "s"}, {Kind: -1, A: -2, B: -3, C: -4, Site: longText(300)}}
	lists := [][]impl.Op{nil}
	for _, o := range ops {
		lists = append(lists, []impl.Op{o})
		if o != one {
			lists = append(lists, []impl.Op{o, one, one}, []impl.Op{one, o, one}, []impl.Op{one, one, o}, append(slices.Repeat([]impl.Op{one}, 500), o))
		}
	}
	lists = append(lists, []impl.Op{one, one}, []impl.Op{one, one, one}, slices.Repeat([]impl.Op{one}, 501), make([]impl.Op, 2), make([]impl.Op, 500))
	for i, a := range lists {
		for j, b := range lists {
			x, y := roomy(a, alloc("x")), roomy(b, alloc("y"))
			all := [][]impl.Op{whole(x), whole(y)}
			if got := impl.SameOps(x, y); got != (i == j) {
				t.Errorf("SameOps of lists %d and %d of %d and %d operations is %v", i, j, len(a), len(b), got)
			}
			if !slices.Equal(all[0], whole(x)) || !slices.Equal(all[1], whole(y)) {
				t.Error("SameOps writes into what it is given")
			}
		}
	}
	if !impl.SameOps(nil, []impl.Op{}) || !impl.SameOps([]impl.Op{}, nil) || !impl.SameOps(nil, nil) {
		t.Error("an empty list and nil are the same")
	}
}

// No text of an answer stands in memory that was given.
func TestLogsShareNoText(t *testing.T) {
	names := []string{strings.Clone("first"), strings.Clone("second"), strings.Clone("third")}
	l := []impl.Op{alloc(names[0]), alloc(names[1]), alloc(names[0]), store(8, 0, 9), {Kind: impl.OpCollect, Site: names[2]}}
	tape := impl.Record(l)
	spans := []span{textSpan(names[0]), textSpan(names[1]), textSpan(names[2]), textSpan(tape.Log)}
	for _, name := range tape.Heap.Sites {
		spans = append(spans, textSpan(name))
	}
	b := impl.Replay(tape.Log)
	for _, name := range b.Heap.Sites {
		spans = append(spans, textSpan(name))
	}
	holdApart(t, "heaps", spans)
	ops, _, _ := impl.Decode(tape.Log)
	for _, o := range slices.Concat(ops, b.Ops) {
		holdApart(t, o.Site, append(spans[:4:4], textSpan(o.Site)))
	}
}

// What was answered stays as it is, whatever is done with what was answered ahead.
func TestLogsAnsweredTwice(t *testing.T) {
	log := impl.Record(eachKind()).Log
	ops, answers, _ := impl.Decode(log)
	b := impl.Replay(log)
	for _, l := range [][]impl.Op{ops[:cap(ops)], b.Ops[:cap(b.Ops)]} {
		for i := range l {
			l[i] = impl.Op{Kind: 77}
		}
	}
	for _, l := range [][]impl.Answer{answers, b.Answers} {
		for i := range l {
			for k := range l[i].Freed {
				l[i].Freed[k] = 77
			}
			l[i].Code = 77
		}
	}
	b.Heap.Objs[0].Field[0] = 77
	b.Heap.Sites[0] = "changed"
	holdDecode(t, "once more", log)
	holdReplay(t, "once more", log)
	holdRecord(t, "once more", eachKind())
}

// Nothing that reads a log goes on when the call has answered, wherever it ended.
func TestDecodeLeavesNothingBehind(t *testing.T) {
	long := impl.Record(somePlay(rand.New(rand.NewSource(18)), 399)).Log
	payloads, _ := payloadsTold(long)
	first, _ := logOf(append([]string{"x"}, payloads[:200]...))
	last, _ := logOf(append(slices.Clone(payloads), "x"))
	before := runtime.NumGoroutine()
	for range 100 {
		for _, log := range []string{long, first, last, long[1:], impl.Record(nil).Log} {
			impl.Decode(log)
			impl.Replay(log)
		}
	}
	// What has told all may need a moment to be gone.
	for range 1000 {
		if runtime.NumGoroutine() <= before {
			return
		}
		runtime.Gosched()
	}
	if after := runtime.NumGoroutine(); after > before+1 {
		t.Errorf("%d goroutines are left behind", after-before)
	}
}

// Calls at one time have nothing to do with each other.
func TestLogsAtOneTime(t *testing.T) {
	var all sync.WaitGroup
	for seed := range 16 {
		all.Go(func() {
			l := somePlay(rand.New(rand.NewSource(int64(seed))), 120)
			tape := impl.Record(l)
			for range 5 {
				ops, answers, code := impl.Decode(tape.Log)
				b := impl.Replay(tape.Log)
				if code != impl.RpOk || !slices.Equal(ops, l) || !sameAnswers(answers, tape.Answers) || !alike(b.Heap, tape.Heap) {
					t.Errorf("play %d: code %d, %d operations, %s", seed, code, len(ops), briefBack(b))
				}
			}
		})
	}
	all.Wait()
}
