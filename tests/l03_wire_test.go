package tests

import (
	"math"
	"math/big"
	"strings"
	"testing"

	"loop.example/g01412/impl"
)

var (
	_ func(int) int              = impl.Zig
	_ func(int) int              = impl.Zag
	_ func(int) string           = impl.ShowInt
	_ func(string) (int, int)    = impl.ReadInt
	_ func(string) string        = impl.ShowText
	_ func(string) (string, int) = impl.ReadText
)

// wireEnd is the greatest number on the wire, and minus it the least.
const wireEnd = 100000000000000

func onTheWire(n int) bool { return n >= -wireEnd && n <= wireEnd }

// wireNumbers: the edges of all chapters, each small number, and what lies around both ends of the range.
func wireNumbers() []int {
	l := edgeNumbers()
	for n := -1100; n <= 1100; n++ {
		l = append(l, n)
	}
	for d := -3; d <= 3; d++ {
		l = append(l, wireEnd+d, -wireEnd+d, 2*wireEnd+d, -2*wireEnd+d)
	}
	return l
}

// whatStandsBehind: nothing, other numbers and texts, and any bytes.
func whatStandsBehind() []string {
	l := []string{"", impl.ShowInt(0), impl.ShowInt(-65), impl.ShowInt(wireEnd), impl.ShowText("abc"), "\x00\x00", "\x80", "\xff\xff", strings.Repeat("\x80", 20), longText(300)}
	for _, c := range []byte(allBytes()) {
		l = append(l, string([]byte{c}))
	}
	return l
}

// zigOf does the document's words in numbers without end, so that nothing wraps round.
func zigOf(n int) int {
	if !onTheWire(n) {
		return -1
	}
	twice := new(big.Int).Mul(big.NewInt(int64(n)), big.NewInt(2))
	if n < 0 {
		twice.Sub(twice.Neg(twice), big.NewInt(1))
	}
	return int(twice.Int64())
}

func zagOf(n int) int {
	half, left := new(big.Int).QuoRem(big.NewInt(int64(n)), big.NewInt(2), new(big.Int))
	if left.Sign() != 0 {
		half.Sub(half.Neg(half), big.NewInt(1))
	}
	return int(half.Int64())
}

func TestZigOfEdges(t *testing.T) {
	for _, n := range wireNumbers() {
		if got, want := impl.Zig(n), zigOf(n); got != want {
			t.Errorf("Zig(%d) = %d, want %d", n, got, want)
		}
	}
	for _, x := range []struct{ n, z int }{
		{0, 0}, {-1, 1}, {1, 2}, {-2, 3}, {2, 4}, {63, 126}, {-64, 127}, {64, 128},
		{wireEnd - 1, 199999999999998}, {-wireEnd, 199999999999999}, {wireEnd, 200000000000000},
		{wireEnd + 1, -1}, {-wireEnd - 1, -1}, {math.MaxInt, -1}, {math.MinInt, -1}, {1 << 62, -1}, {-1 << 62, -1},
	} {
		if got := impl.Zig(x.n); got != x.z {
			t.Errorf("Zig(%d) = %d, want %d", x.n, got, x.z)
		}
	}
}

// Zag has no range: it halves whatever it is given.
func TestZagOfEdges(t *testing.T) {
	for _, n := range wireNumbers() {
		if got, want := impl.Zag(n), zagOf(n); got != want {
			t.Errorf("Zag(%d) = %d, want %d", n, got, want)
		}
	}
	for _, x := range []struct{ z, n int }{
		{0, 0}, {1, -1}, {2, 1}, {3, -2}, {199999999999999, -wireEnd}, {200000000000000, wireEnd}, {200000000000001, -wireEnd - 1},
		{-1, -1}, {-2, -1}, {-3, 0}, {-4, -2}, {-5, 1}, {math.MaxInt, -1 << 62}, {math.MinInt, -1 << 62}, {math.MinInt + 1, 1<<62 - 2},
	} {
		if got := impl.Zag(x.z); got != x.n {
			t.Errorf("Zag(%d) = %d, want %d", x.z, got, x.n)
		}
	}
}

func TestZagGivesBackWhatZigMakes(t *testing.T) {
	for _, n := range wireNumbers() {
		if onTheWire(n) && impl.Zag(impl.Zig(n)) != n {
			t.Errorf("Zag of Zig of %d is %d", n, impl.Zag(impl.Zig(n)))
		}
	}
	for z := range 3000 {
		if impl.Zig(impl.Zag(z)) != z {
			t.Errorf("Zig of Zag of %d is %d", z, impl.Zig(impl.Zag(z)))
		}
	}
}

func TestShowIntOfEdges(t *testing.T) {
	for _, n := range wireNumbers() {
		want := ""
		if onTheWire(n) {
			want = leastFirst(zigOf(n))
		}
		if got := impl.ShowInt(n); got != want {
			t.Errorf("ShowInt(%d) = %q, want %q", n, got, want)
		}
	}
	for _, x := range []struct {
		n int
		s string
	}{
		{0, "\x00"}, {-1, "\x01"}, {1, "\x02"}, {63, "\x7e"}, {-64, "\x7f"}, {64, "\x80\x01"}, {-65, "\x81\x01"},
		{8191, "\xfe\x7f"}, {-8192, "\xff\x7f"}, {8192, "\x80\x80\x01"},
		{wireEnd, "\x80\x80\xd2\x87\xe2\xbc\x2d"}, {-wireEnd, "\xff\xff\xd1\x87\xe2\xbc\x2d"},
		{wireEnd + 1, ""}, {-wireEnd - 1, ""}, {math.MaxInt, ""}, {math.MinInt, ""},
	} {
		if got := impl.ShowInt(x.n); got != x.s {
			t.Errorf("ShowInt(%d) = %q, want %q", x.n, got, x.s)
		}
	}
}

func TestNoNumberHasTwoForms(t *testing.T) {
	seen := map[string]int{}
	for _, n := range wireNumbers() {
		s := impl.ShowInt(n)
		if other, there := seen[s]; there && s != "" && other != n {
			t.Errorf("%d and %d are both %q", n, other, s)
		}
		seen[s] = n
	}
}

func TestReadIntTakesWhatIsShown(t *testing.T) {
	behind := whatStandsBehind()
	for _, n := range wireNumbers() {
		if !onTheWire(n) {
			continue
		}
		s := impl.ShowInt(n)
		for _, more := range behind {
			if got, used := impl.ReadInt(s + more); got != n || used != len(s) {
				t.Errorf("ReadInt of ShowInt(%d) with %q behind = %d, %d", n, more[:min(len(more), 20)], got, used)
			}
		}
	}
}

func TestReadIntOneBehindTheOther(t *testing.T) {
	want := []int{0, -1, 64, wireEnd, -wireEnd, 1, -65, 8192}
	all := ""
	for _, n := range want {
		all += impl.ShowInt(n)
	}
	for i, n := range want {
		got, used := impl.ReadInt(all)
		if got != n || used == 0 {
			t.Fatalf("number %d = %d, %d, want %d", i, got, used, n)
		}
		all = all[used:]
	}
	if all != "" {
		t.Errorf("left over: %q", all)
	}
}

// Each text of at most four of these bytes is either none, or begins with what ShowInt makes of the number that is told.
func TestReadIntTellsOnlyWhatIsShown(t *testing.T) {
	texts := shortTexts("\x00\x01\x02\x2d\x7e\x7f\x80\x81\xd2\xfe\xff", 4)
	for _, s := range append(texts, shortTexts(allBytes(), 2)...) {
		n, used := impl.ReadInt(s)
		// A number of at most four bytes is within the range, so it is there just if the bytes end, and not with a needless nought.
		end := strings.IndexFunc(s, func(r rune) bool { return r < 128 })
		none := end < 0 || end > 0 && s[end] == 0
		switch {
		case none && (n != 0 || used != 0):
			t.Errorf("ReadInt(%q) = %d, %d, want none", s, n, used)
		case !none && (used != end+1 || impl.ShowInt(n) != s[:used]):
			t.Errorf("ReadInt(%q) = %d, %d", s, n, used)
		}
	}
}

func TestReadIntOfNoNumber(t *testing.T) {
	// These are cut off: with more behind them they may be whole, so they stand alone.
	for _, s := range []string{"", "\x80", "\xff", "\x80\x80", "\xff\xff\xff", "\x80\x80\xd2\x87\xe2\xbc", strings.Repeat("\x80", 7), strings.Repeat("\xff", 40)} {
		if n, used := impl.ReadInt(s); n != 0 || used != 0 {
			t.Errorf("ReadInt(%q) = %d, %d, want none", s, n, used)
		}
	}
	for _, s := range []string{
		"\x80\x00", "\x81\x00", "\xff\x00", "\x80\x80\x00", "\x82\x80\x00", "\x80\x80\x80\x80\x80\x80\x00", // a byte too many
		"\x80\x80\xd2\x87\xe2\xbc\xad\x00", "\x80\x80\x80\x80\x80\x80\x80\x01", "\xff\xff\xff\xff\xff\xff\xff\x00", strings.Repeat("\x80", 40) + "\x01",
		"\x81\x80\xd2\x87\xe2\xbc\x2d", "\x82\x80\xd2\x87\xe2\xbc\x2d", "\x80\x80\xd2\x87\xe2\xbc\x2e", "\xff\xff\xff\xff\xff\xff\x7f", // out of the range
	} {
		for _, more := range whatStandsBehind() {
			if n, used := impl.ReadInt(s + more); n != 0 || used != 0 {
				t.Errorf("ReadInt(%q) with %q behind = %d, %d, want none", s, more[:min(len(more), 20)], n, used)
			}
		}
	}
}

func TestReadIntAtTheEndOfTheRange(t *testing.T) {
	for code := 2*wireEnd - 4; code <= 2*wireEnd+4; code++ {
		n, used := impl.ReadInt(leastFirst(code) + "\x01")
		if code <= 2*wireEnd && (n != zagOf(code) || used != 7) {
			t.Errorf("code %d is read as %d, %d", code, n, used)
		}
		if code > 2*wireEnd && (n != 0 || used != 0) {
			t.Errorf("code %d is out of the range, but read as %d, %d", code, n, used)
		}
	}
	for _, code := range []int{impl.MaxVar, impl.MaxVar - 1, 1 << 48, 1<<48 + 1} {
		if n, used := impl.ReadInt(leastFirst(code)); n != 0 || used != 0 {
			t.Errorf("code %d is out of the range, but read as %d, %d", code, n, used)
		}
	}
}

func TestReadIntCutOff(t *testing.T) {
	for _, n := range wireNumbers() {
		s := impl.ShowInt(n)
		for k := range len(s) {
			if got, used := impl.ReadInt(s[:k]); got != 0 || used != 0 {
				t.Errorf("ReadInt of %d bytes of ShowInt(%d) = %d, %d", k, n, got, used)
			}
		}
	}
}

// wireTexts: of each length that is taken, of bytes below and above 127.
func wireTexts() []string {
	l := []string{"", "a", "\x00", "\x80", "\xff", "\x08", "\u20ac", "\xff\xfe\x80\x00", "\x00\x00\x00\x00\x00\x00\x00\x00", "\u20ac\u20ac\xe2\x82"}
	for n := range impl.MaxSite + 1 {
		l = append(l, strings.Repeat("x", n), strings.Repeat("\x80", n), strings.Repeat("\xff", n), longText(n))
	}
	return l
}

func TestShowTextOfEachLength(t *testing.T) {
	for _, s := range wireTexts() {
		if got, want := impl.ShowText(s), string([]byte{byte(len(s))})+s; got != want {
			t.Errorf("ShowText(%q) = %q, want %q", s, got, want)
		}
	}
	for _, n := range []int{9, 10, 16, 127, 128, 200, 70000} {
		for _, s := range []string{strings.Repeat("x", n), strings.Repeat("\xff", n), longText(n)} {
			if got := impl.ShowText(s); got != "" {
				t.Errorf("ShowText of %d bytes has %d", n, len(got))
			}
		}
	}
	// Three characters of three bytes are nine bytes: bytes are counted.
	if got := impl.ShowText("\u20ac\u20ac\u20ac"); got != "" {
		t.Errorf("ShowText of nine bytes = %q", got)
	}
}

func TestReadTextTakesWhatIsShown(t *testing.T) {
	behind := whatStandsBehind()
	for _, s := range wireTexts() {
		shown := impl.ShowText(s)
		for _, more := range behind {
			if got, used := impl.ReadText(shown + more); got != s || used != len(s)+1 {
				t.Errorf("ReadText of ShowText(%q) with %q behind = %q, %d", s, more[:min(len(more), 20)], got, used)
			}
		}
		for k := range len(shown) {
			if got, used := impl.ReadText(shown[:k]); got != "" || used != 0 {
				t.Errorf("ReadText of %d bytes of ShowText(%q) = %q, %d", k, s, got, used)
			}
		}
	}
}

func TestReadTextOfNoText(t *testing.T) {
	for _, s := range []string{
		"", "\x01", "\x03ab", "\x08", "\x08abcdefg", // shorter than it says
		"\x09abcdefghi", "\x09abcdefghijkl", "\x0aabcdefghij", "\x7f" + strings.Repeat("a", 127), "\x80\x01" + strings.Repeat("a", 128), "\x80\x01", // longer than MaxSite
		"\x82\x00ab", "\x80\x00", "\x80\x80\x00abc", "\x88\x00abcdefgh", "\x81\x80\x80\x00a", // a length with a byte too many
		"\x80", "\xff", "\x88", "\xff\xff\xff\xff\xff\xff\x7f", "\xff\xff\xff\xff\xff\xff\x7fabc", "\xff\xff\xff\xff\xff\xff\xff\x7fabc", strings.Repeat("\x80", 30),
	} {
		if got, used := impl.ReadText(s); got != "" || used != 0 {
			t.Errorf("ReadText(%q) = %q, %d, want none", s[:min(len(s), 20)], got, used)
		}
	}
}

func TestReadTextTellsOnlyWhatIsShown(t *testing.T) {
	for _, s := range append(shortTexts("\x00\x01\x02\x03\x08\x09a\x80\x81\xff", 4), shortTexts(allBytes(), 2)...) {
		got, used := impl.ReadText(s)
		there := s != "" && int(s[0]) <= min(impl.MaxSite, len(s)-1)
		switch {
		case !there && (got != "" || used != 0):
			t.Errorf("ReadText(%q) = %q, %d, want none", s, got, used)
		case there && (used != int(s[0])+1 || impl.ShowText(got) != s[:used]):
			t.Errorf("ReadText(%q) = %q, %d", s, got, used)
		}
	}
}

func TestReadTextOneBehindTheOther(t *testing.T) {
	want := wireTexts()
	all := ""
	for _, s := range want {
		all += impl.ShowText(s)
	}
	for i, s := range want {
		got, used := impl.ReadText(all)
		if got != s || used == 0 {
			t.Fatalf("text %d = %q, %d, want %q", i, got, used, s)
		}
		all = all[used:]
	}
	if all != "" {
		t.Errorf("left over: %q", all)
	}
}
