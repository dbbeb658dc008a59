package tests

import (
	"encoding/binary"
	"fmt"
	"hash/crc32"
	"math"
	"slices"
	"strings"
	"testing"

	"loop.example/g01412/impl"
)

var (
	_ func(int, string) string        = impl.ShowFrame
	_ func(string) (int, string, int) = impl.ReadFrame
	_ func([]string) string           = impl.ShowLog
	_ func(string) ([]string, int)    = impl.ReadLog
	_ func(string) []int              = impl.FrameSpots
)

const wantHead = "HLOG\x01"

// summed: the bytes with their sum behind, as the library makes it; so that a frame is right but for what is asked.
func summed(s string) string {
	sum := crc32.Checksum([]byte(s), crc32.MakeTable(crc32.Castagnoli))
	return s + string(binary.BigEndian.AppendUint32(nil, sum))
}

// frameOf: a frame of any number and payload, within the limits or not.
func frameOf(seq int, payload string) string {
	return summed(leastFirst(seq) + leastFirst(len(payload)) + payload)
}

// logOf: a log of these payloads, within the limits or not, and where each of its frames begins and the last one ends.
func logOf(payloads []string) (string, []int) {
	s := wantHead
	var spots []int
	for seq, p := range append(slices.Clone(payloads), "") {
		spots = append(spots, len(s))
		s += frameOf(seq, p)
	}
	return s, append(spots, len(s))
}

// framePayloads: of each length at which a number has another byte or a limit is met, of bytes below and above 127.
func framePayloads() []string {
	l := []string{"a", "\x00", "\x80", "\xff", "HLOG\x01", "\u20ac", allBytes()[128:], allBytes()[:200], allBytes()[56:], frameOf(0, ""), frameOf(7, "inner"), wantHead + frameOf(0, "")}
	for _, n := range []int{1, 2, 3, 4, 5, 126, 127, 128, 129, impl.MaxPayload - 1, impl.MaxPayload} {
		l = append(l, strings.Repeat("x", n), strings.Repeat("\x00", n), strings.Repeat("\xff", n), longText(n))
	}
	return l
}

// fewLogs: lists that are short enough to be harmed at each byte.
func fewLogs() [][]string {
	return [][]string{
		nil,
		{"a"},
		{"\xff"},
		{"a", "bc"},
		{"a", "a", "a"},
		{"\x00", "\x00\x00", "\x80\xff"},
		{strings.Repeat("m", impl.MaxPayload)},
		{longText(impl.MaxPayload), "x", longText(128)},
		{frameOf(0, ""), frameOf(2, ""), wantHead},
		framePayloads(),
	}
}

// fullList: n payloads, no two neighbours alike.
func fullList(n int, size int) []string {
	l := make([]string, n)
	for i := range l {
		l[i] = strings.Repeat(string(rune('a'+i%26)), size)
	}
	return l
}

func holdCode(t *testing.T, what string, s string, want int) {
	t.Helper()
	if l, code := impl.ReadLog(s); code != want || len(l) != 0 {
		t.Errorf("%s: ReadLog tells %d payloads and code %d, want none and %d", what, len(l), code, want)
	}
}

func TestFrameConstants(t *testing.T) {
	if impl.MaxFrames != 400 || impl.MaxPayload != 200 {
		t.Error("limits", impl.MaxFrames, impl.MaxPayload)
	}
	codes := []int{impl.LgOk, impl.LgHead, impl.LgFrame, impl.LgSeq, impl.LgEnd, impl.LgMore}
	if !slices.Equal(codes, []int{0, 1, 2, 3, 4, 5}) {
		t.Error("codes", codes)
	}
}

func TestShowFrameOfEachNumber(t *testing.T) {
	for seq := -3; seq <= impl.MaxFrames+3; seq++ {
		for _, p := range []string{"", "a", "\x80\xff", longText(impl.MaxPayload)} {
			want := ""
			if seq >= 0 && seq <= 400 {
				want = frameOf(seq, p)
			}
			if got := impl.ShowFrame(seq, p); got != want {
				t.Errorf("ShowFrame(%d, %d bytes) = %q, want %q", seq, len(p), got, want)
			}
		}
	}
	for _, seq := range edgeNumbers() {
		if got := impl.ShowFrame(seq, "ab"); (got != "") != (seq >= 0 && seq <= 400) {
			t.Errorf("ShowFrame(%d, \"ab\") = %q", seq, got)
		}
	}
}

func TestShowFrameOfEachPayload(t *testing.T) {
	for _, p := range append(framePayloads(), "") {
		for _, seq := range []int{0, 1, 127, 128, 399, 400} {
			if got, want := impl.ShowFrame(seq, p), frameOf(seq, p); got != want {
				t.Errorf("ShowFrame(%d, %q) = %q, want %q", seq, p, got, want)
			}
		}
		if got := impl.ShowFrame(401, p) + impl.ShowFrame(-1, p); got != "" {
			t.Errorf("ShowFrame of %d bytes out of range = %q", len(p), got)
		}
	}
	for _, n := range []int{201, 202, 255, 256, 400, 70000} {
		for _, seq := range []int{-1, 0, 1, 400, 401} {
			if got := impl.ShowFrame(seq, longText(n)); got != "" {
				t.Errorf("ShowFrame(%d, %d bytes) has %d bytes", seq, n, len(got))
			}
		}
	}
	// A hundred characters of three bytes are too many bytes.
	if got := impl.ShowFrame(0, strings.Repeat("\u20ac", 100)); got != "" {
		t.Errorf("ShowFrame of 300 bytes has %d bytes", len(got))
	}
}

func holdFrame(t *testing.T, s string, seq int, payload string, size int) {
	t.Helper()
	q, p, n := impl.ReadFrame(s)
	if q != seq || p != payload || n != size {
		t.Errorf("ReadFrame(%q) = %d, %q, %d, want %d, %q, %d", s[:min(len(s), 40)], q, p, n, seq, payload, size)
	}
}

func holdNoFrame(t *testing.T, s string) {
	t.Helper()
	holdFrame(t, s, 0, "", 0)
}

func TestReadFrameTakesWhatIsShown(t *testing.T) {
	behind := append(whatStandsBehind(), frameOf(3, "next"), wantHead, allBytes())
	for _, p := range append(framePayloads(), "") {
		for _, seq := range []int{0, 1, 127, 128, 255, 256, 399, 400} {
			s := impl.ShowFrame(seq, p)
			for _, more := range behind {
				holdFrame(t, s+more, seq, p, len(s))
			}
		}
	}
	for seq := range impl.MaxFrames + 1 {
		s := impl.ShowFrame(seq, "")
		holdFrame(t, s, seq, "", len(s))
		holdFrame(t, s+"\xff", seq, "", len(s))
	}
	s := impl.ShowFrame(5, "ab")
	for _, more := range shortTexts(allBytes(), 1) {
		holdFrame(t, s+more, 5, "ab", len(s))
	}
}

func TestReadFrameCutOff(t *testing.T) {
	for _, p := range append(framePayloads(), "") {
		for _, seq := range []int{0, 127, 128, 400} {
			s := impl.ShowFrame(seq, p)
			for k := range len(s) {
				holdNoFrame(t, s[:k])
			}
		}
	}
}

func TestReadFrameWithABitTurned(t *testing.T) {
	for _, p := range append(framePayloads(), "") {
		for _, seq := range []int{0, 128, 400} {
			s := impl.ShowFrame(seq, p)
			for at := range len(s) {
				for bit := range 8 {
					holdNoFrame(t, flipped(s, at, bit))
					holdNoFrame(t, flipped(s, at, bit)+"more of it")
				}
			}
		}
	}
}

// What stands behind a sum that fits is right in each byte, but it is nothing that ShowFrame makes.
func TestReadFrameOfNumbersAndLengthsThatAreNone(t *testing.T) {
	whole := strings.Repeat("p", 300)
	for _, s := range []string{
		"\x80\x00\x01p", "\x81\x00\x01p", "\x81\x80\x00\x01p", "\x90\x83\x00\x01p", // a number with a byte too many
		"\x01\x81\x00p", "\x01\x80\x00", "\x01\x81\x80\x00p", "\x01\xc8\x81\x00" + whole[:200], // a length with a byte too many
		"\x80\x00\x81\x00p", "\x80\x00\x80\x00",
		leastFirst(401) + "\x01p", leastFirst(402) + "\x00", leastFirst(511) + "\x01p", leastFirst(16384) + "\x01p", leastFirst(impl.MaxVar) + "\x01p", leastFirst(math.MaxInt) + "\x01p",
		"\x01" + leastFirst(201) + whole[:201], "\x00" + leastFirst(202) + whole[:202], "\x01" + leastFirst(256) + whole[:256], leastFirst(400) + leastFirst(300) + whole,
		leastFirst(401) + leastFirst(201) + whole[:201],
		"\x01\x02p", "\x01\x05p", "\x01\xc8\x01" + whole[:199], "\x01" + leastFirst(impl.MaxVar) + "p", "\x01" + leastFirst(impl.MaxVar+1) + "p", "\x01" + leastFirst(math.MaxInt) + "p", // longer than what is there
		"", "\x01", "\x80", "\x80\x01", "\x01\x80", "\xff\xff\xff\xff\xff\xff\xff\xff\xff\x01\x00",
		strings.Repeat("\x80", 30), strings.Repeat("\xff", 30),
	} {
		holdNoFrame(t, s)
		holdNoFrame(t, summed(s))
	}
	// The same with the limits met exactly.
	holdFrame(t, summed(leastFirst(400)+"\x01p"), 400, "p", 8)
	holdFrame(t, summed("\x01"+leastFirst(200)+whole[:200]), 1, whole[:200], 207)
}

func TestReadFrameOfSumsThatDoNotFit(t *testing.T) {
	for _, p := range []string{"", "a", "\xff\xfe", longText(200)} {
		s := frameOf(9, p)
		sum := len(s) - 4
		holdNoFrame(t, s[:sum]+"\x00\x00\x00\x00")
		holdNoFrame(t, s[:sum]+"\xff\xff\xff\xff")
		holdNoFrame(t, s[:sum]+s[sum+1:]+s[sum:sum+1])
		holdNoFrame(t, s[:sum]+string([]byte{s[sum+3], s[sum+2], s[sum+1], s[sum]}))
		holdNoFrame(t, s[:sum]+summed(p)[len(p):])
		holdNoFrame(t, s[:sum]+frameOf(8, p)[sum:])
	}
	holdNoFrame(t, "\x00\x00\x00\x00\x00\x00")
	holdNoFrame(t, strings.Repeat("\x00", 300))
}

// Each two bytes with the sum that fits behind: a frame just where the one is a number and the other is a length of 0.
func TestReadFrameTellsOnlyWhatIsShown(t *testing.T) {
	for _, two := range shortTexts(allBytes(), 2) {
		s := summed(two)
		if len(two) == 2 && two[0] < 128 && two[1] == 0 {
			holdFrame(t, s, int(two[0]), "", 6)
		} else {
			holdNoFrame(t, s)
		}
	}
	for _, three := range shortTexts("\x00\x01\x02\x03\x7f\x80\x81\x90\x91\xff", 3) {
		s := summed(three)
		if q, p, n := impl.ReadFrame(s); n != 0 && impl.ShowFrame(q, p) != s[:n] {
			t.Errorf("ReadFrame(%q) = %d, %q, %d", s, q, p, n)
		}
	}
}

func TestShowLogOfEachLength(t *testing.T) {
	for _, n := range []int{0, 1, 2, 3, 127, 128, 129, 399, 400} {
		for _, size := range []int{1, 200} {
			l := fullList(n, size)
			want, _ := logOf(l)
			if got := impl.ShowLog(l); got != want {
				t.Errorf("ShowLog of %d payloads has %d bytes, want %d", n, len(got), len(want))
			}
		}
	}
	for _, n := range []int{401, 402, 500, 5000} {
		if got := impl.ShowLog(fullList(n, 1)); got != "" {
			t.Errorf("ShowLog of %d payloads has %d bytes", n, len(got))
		}
	}
	for _, l := range fewLogs() {
		if want, _ := logOf(l); impl.ShowLog(l) != want {
			t.Errorf("ShowLog(%q) = %q", l, impl.ShowLog(l))
		}
	}
	if impl.ShowLog(nil) != impl.ShowLog([]string{}) {
		t.Error("nil and the empty list are shown otherwise")
	}
}

func TestShowLogOfWrongPayloads(t *testing.T) {
	for _, wrong := range []string{"", longText(201), longText(1000), strings.Repeat("\u20ac", 67)} {
		for _, n := range []int{1, 2, 3, 400} {
			for _, at := range []int{0, n / 2, n - 1} {
				l := fullList(n, 2)
				l[at] = wrong
				if got := impl.ShowLog(l); got != "" {
					t.Errorf("ShowLog of %d payloads, one of %d bytes at %d, has %d bytes", n, len(wrong), at, len(got))
				}
			}
		}
	}
}

func TestReadLogTakesWhatIsShown(t *testing.T) {
	lists := fewLogs()
	for _, n := range []int{127, 128, 129, 399, 400} {
		lists = append(lists, fullList(n, 1), fullList(n, 200))
	}
	for _, want := range lists {
		got, code := impl.ReadLog(impl.ShowLog(want))
		if code != impl.LgOk || !slices.Equal(got, want) {
			t.Errorf("ReadLog of ShowLog of %d payloads tells %d, code %d", len(want), len(got), code)
		}
	}
}

func TestReadLogCutOff(t *testing.T) {
	for _, l := range append(fewLogs(), fullList(130, 1)) {
		s, spots := logOf(l)
		for k := range len(s) {
			want := impl.LgFrame
			switch {
			case k < len(wantHead):
				want = impl.LgHead
			case slices.Contains(spots, k):
				want = impl.LgEnd
			}
			holdCode(t, fmt.Sprintf("%d payloads cut off at %d", len(l), k), s[:k], want)
		}
	}
	s, spots := logOf(fullList(400, 200))
	for _, k := range []int{spots[1] - 1, spots[399] - 1, spots[400] - 1, spots[400] + 1, len(s) - 1} {
		holdCode(t, fmt.Sprintf("the longest log cut off at %d", k), s[:k], impl.LgFrame)
	}
	for _, k := range []int{spots[0], spots[1], spots[399], spots[400]} {
		holdCode(t, fmt.Sprintf("the longest log cut off at %d", k), s[:k], impl.LgEnd)
	}
}

func TestReadLogWithMoreBehind(t *testing.T) {
	for _, l := range append(fewLogs(), fullList(400, 1)) {
		s, _ := logOf(l)
		for _, more := range append(shortTexts(allBytes(), 1)[1:], frameOf(len(l)+1, ""), frameOf(len(l)+1, "next"), frameOf(len(l), ""), s, wantHead) {
			holdCode(t, fmt.Sprintf("%d payloads and %q behind", len(l), more[:min(len(more), 20)]), s+more, impl.LgMore)
		}
	}
}

func TestReadLogWithAByteTurned(t *testing.T) {
	for _, l := range fewLogs() {
		s, spots := logOf(l)
		for at := range len(s) {
			want := impl.LgFrame
			if at < spots[0] {
				want = impl.LgHead
			}
			for bit := range 8 {
				holdCode(t, fmt.Sprintf("%d payloads, bit %d of byte %d turned", len(l), bit, at), flipped(s, at, bit), want)
			}
			b := []byte(s)
			b[at] = ^b[at]
			holdCode(t, fmt.Sprintf("%d payloads, byte %d turned", len(l), at), string(b), want)
		}
	}
}

func TestReadLogWithFramesMoved(t *testing.T) {
	for _, l := range append(fewLogs(), fullList(400, 1)) {
		s, spots := logOf(l)
		last := len(l)
		for i := range last + 1 {
			ahead, f, behind := s[:spots[i]], s[spots[i]:spots[i+1]], s[spots[i+1]:]
			what := fmt.Sprintf("frame %d of %d", i, last+1)
			if i == last {
				holdCode(t, what+" left out", ahead+behind, impl.LgEnd)
				holdCode(t, what+" doubled", ahead+f+f+behind, impl.LgMore)
				continue
			}
			holdCode(t, what+" left out", ahead+behind, impl.LgSeq)
			holdCode(t, what+" doubled", ahead+f+f+behind, impl.LgSeq)
			next := s[spots[i+1]:spots[i+2]]
			holdCode(t, what+" exchanged with the next", ahead+next+f+s[spots[i+2]:], impl.LgSeq)
		}
	}
}

func TestReadLogOfNoHead(t *testing.T) {
	whole, _ := logOf([]string{"a"})
	for _, s := range []string{"", "H", "HLOG", "HLOG\x00", "HLOG\x02", "hlog\x01", "\x01HLOG", "HLO\x01", " HLOG\x01", "HLOG1", "GOLH\x01", "HLOG\x81", whole[1:], whole[5:], "x" + whole, "HLOG" + whole[5:], longText(100)} {
		holdCode(t, fmt.Sprintf("%q", s[:min(len(s), 20)]), s, impl.LgHead)
		if spots := impl.FrameSpots(s); len(spots) != 0 {
			t.Errorf("FrameSpots(%q) = %v", s[:min(len(s), 20)], spots)
		}
	}
}

// Where two things are wrong in one frame, the one that the chapter names first is told.
func TestReadLogTellsTheFirstFault(t *testing.T) {
	for _, row := range []struct {
		what string
		s    string
		code int
	}{
		{"head alone", wantHead, impl.LgEnd},
		{"no frame", wantHead + "x", impl.LgFrame},
		{"two heads", wantHead + wantHead, impl.LgFrame},
		{"a first number of 1", wantHead + frameOf(1, "a") + frameOf(2, ""), impl.LgSeq},
		{"a last number too great", wantHead + frameOf(0, "a") + frameOf(2, ""), impl.LgSeq},
		{"a last number too small", wantHead + frameOf(0, "a") + frameOf(0, ""), impl.LgSeq},
		{"an end of a wrong number with more behind", wantHead + frameOf(0, "a") + frameOf(2, "") + "x", impl.LgSeq},
		{"an end of a wrong number and then nothing", wantHead + frameOf(1, ""), impl.LgSeq},
		{"an end in the middle", wantHead + frameOf(0, "a") + frameOf(1, "") + frameOf(2, "b") + frameOf(3, ""), impl.LgMore},
		{"an end at the beginning", wantHead + frameOf(0, "") + frameOf(1, "b") + frameOf(2, ""), impl.LgMore},
		{"an end with what is no frame behind", wantHead + frameOf(0, "") + "\xff\xff", impl.LgMore},
		{"a wrong number ahead of what is no frame", wantHead + frameOf(3, "a") + "\xff", impl.LgSeq},
		{"what is no frame behind a right one", wantHead + frameOf(0, "a") + "\xff" + frameOf(1, ""), impl.LgFrame},
		{"a payload too long", wantHead + frameOf(0, longText(201)) + frameOf(1, ""), impl.LgFrame},
		{"a number with a byte too many", wantHead + summed("\x80\x00\x01a") + frameOf(1, ""), impl.LgFrame},
		{"a right log behind a byte", wantHead + "\x00" + frameOf(0, ""), impl.LgFrame},
	} {
		holdCode(t, row.what, row.s, row.code)
	}
}

// More payloads than a log may have: the frame of the number MaxFrames is one, but that behind it can't be.
func TestReadLogOfTooManyPayloads(t *testing.T) {
	s, spots := logOf(fullList(401, 1))
	holdCode(t, "401 payloads", s, impl.LgFrame)
	holdCode(t, "401 payloads without an end", s[:spots[401]], impl.LgEnd)
	holdCode(t, "401 payloads and an end of number 400", s[:spots[401]]+frameOf(400, ""), impl.LgSeq)
	if l, code := impl.ReadLog(s[:spots[400]] + frameOf(400, "")); code != impl.LgOk || len(l) != 400 {
		t.Error("400 payloads", len(l), code)
	}
	long, _ := logOf(fullList(1000, 1))
	holdCode(t, "1000 payloads", long, impl.LgFrame)
}

func TestFrameSpotsOfLogs(t *testing.T) {
	for _, l := range append(fewLogs(), fullList(400, 1), fullList(400, 200)) {
		s, want := logOf(l)
		if got := impl.FrameSpots(s); !slices.Equal(got, want) {
			t.Errorf("FrameSpots of %d payloads = %v, want %v", len(l), got, want)
		}
		for _, more := range []string{"\x00", "\xff", "x", wantHead} {
			if got := impl.FrameSpots(s + more); !slices.Equal(got, want) {
				t.Errorf("FrameSpots of %d payloads with %q behind = %v, want %v", len(l), more, got, want)
			}
		}
	}
}

func TestFrameSpotsOfCutOffLogs(t *testing.T) {
	for _, l := range fewLogs() {
		s, spots := logOf(l)
		for k := range len(s) {
			var want []int
			for _, at := range spots {
				if at <= k {
					want = append(want, at)
				}
			}
			if got := impl.FrameSpots(s[:k]); !slices.Equal(got, want) {
				t.Errorf("FrameSpots of %d payloads cut off at %d = %v, want %v", len(l), k, got, want)
			}
		}
	}
}

// Frames are told as far as there are any, whatever their numbers and wherever one has no payload.
func TestFrameSpotsOfFramesThatMakeNoLog(t *testing.T) {
	for _, row := range []struct {
		s    string
		want []int
	}{
		{wantHead, []int{5}},
		{wantHead + "\xff\xff", []int{5}},
		{wantHead + wantHead, []int{5}},
		{wantHead + frameOf(7, "a") + frameOf(7, "bc") + frameOf(0, "d"), []int{5, 12, 20, 27}},
		{wantHead + frameOf(0, "") + frameOf(1, "b") + frameOf(0, ""), []int{5, 11, 18, 24}},
		{wantHead + frameOf(0, "a") + "\x00" + frameOf(1, "b"), []int{5, 12}},
		{wantHead + frameOf(400, "a") + frameOf(401, "b"), []int{5, 13}},
		{wantHead + frameOf(0, longText(200)) + frameOf(1, longText(201)), []int{5, 212}},
	} {
		if got := impl.FrameSpots(row.s); !slices.Equal(got, row.want) {
			t.Errorf("FrameSpots(%q) = %v, want %v", row.s[:min(len(row.s), 40)], got, row.want)
		}
	}
	many := wantHead + strings.Repeat(frameOf(3, "x"), 1000)
	if got := impl.FrameSpots(many); len(got) != 1001 || got[1000] != len(many) {
		t.Errorf("FrameSpots of 1000 frames tells %d places", len(got))
	}
}

func TestLogsShareNothing(t *testing.T) {
	room := []string{"a", "bc", "behind", "more"}
	l := room[:2]
	s := impl.ShowLog(l)
	if !slices.Equal(room, []string{"a", "bc", "behind", "more"}) {
		t.Errorf("ShowLog left %q", room)
	}
	first, _ := impl.ReadLog(s)
	spots := impl.FrameSpots(s)
	first[0], spots[0] = "z", -1
	l[1] = "y"
	again, code := impl.ReadLog(s)
	if code != impl.LgOk || !slices.Equal(again, []string{"a", "bc"}) || impl.FrameSpots(s)[0] != 5 {
		t.Error("a second answer is another one", again, code)
	}
	if impl.ShowLog([]string{"a", "bc"}) != s {
		t.Error("a second log is another one")
	}
}
