package tests

import (
	"encoding/binary"
	"encoding/hex"
	"fmt"
	"math"
	"strings"
	"testing"

	"loop.example/g01412/impl"
)

// The signatures are the document's: what calls the package must not have to change.
var (
	_ func(int, int) string         = impl.Fixed
	_ func(string, int) (int, bool) = impl.ReadFixed
	_ func(int) string              = impl.Var
	_ func(string) (int, int)       = impl.ReadVar
	_ func(string) string           = impl.Hex
	_ func(string) (string, bool)   = impl.Unhex
	_ func(int) string              = impl.Dec
	_ func(string) (int, bool)      = impl.ReadDec
)

// edgeNumbers: each power of two and of ten with its neighbours, of both signs, and the ends of int.
func edgeNumbers() []int {
	l := []int{math.MinInt, math.MinInt + 1, math.MaxInt - 1, math.MaxInt}
	around := func(n int) {
		for d := -1; d <= 1; d++ {
			l = append(l, n+d, -n-d)
		}
	}
	for k := range 63 {
		around(1 << k)
	}
	for n := 1; n <= math.MaxInt/10; n *= 10 {
		around(n)
	}
	return append(l, 0)
}

// bigEndian: the last width bytes of n as the library writes it; width is from 1 to 8.
func bigEndian(n int, width int) string {
	b := binary.BigEndian.AppendUint64(nil, uint64(n))
	return string(b[8-width:])
}

func TestFixedOfEdges(t *testing.T) {
	for _, n := range edgeNumbers() {
		for width := -2; width <= 9; width++ {
			want := ""
			if width >= 1 && width <= 7 && n >= 0 && n < 1<<(8*width) {
				want = bigEndian(n, width)
			}
			if got := impl.Fixed(n, width); got != want {
				t.Errorf("Fixed(%d, %d) = %q, want %q", n, width, got, want)
			}
		}
	}
}

func TestFixedOfWrongWidths(t *testing.T) {
	for _, width := range []int{math.MinInt, -8, -1, 0, 8, 9, 64, math.MaxInt} {
		if got := impl.Fixed(0, width); got != "" {
			t.Errorf("Fixed(0, %d) = %q", width, got)
		}
		if n, ok := impl.ReadFixed(strings.Repeat("\x01", 100), width); n != 0 || ok {
			t.Errorf("ReadFixed of width %d: %d, %v", width, n, ok)
		}
	}
}

func TestFixedJustFitsOrNot(t *testing.T) {
	for width := 1; width <= 7; width++ {
		most := 1<<(8*width) - 1
		if got := impl.Fixed(most, width); got != strings.Repeat("\xff", width) {
			t.Errorf("Fixed(%d, %d) = %q", most, width, got)
		}
		if got := impl.Fixed(most+1, width); got != "" {
			t.Errorf("Fixed(%d, %d) = %q", most+1, width, got)
		}
		if got := impl.Fixed(-1, width); got != "" {
			t.Errorf("Fixed(-1, %d) = %q", width, got)
		}
	}
}

func TestReadFixedTakesWhatFixedMakes(t *testing.T) {
	for _, n := range edgeNumbers() {
		for width := 1; width <= 7; width++ {
			s := impl.Fixed(n, width)
			if s == "" {
				continue
			}
			for _, behind := range []string{"", "\x00", "\xff\xff", "more"} {
				if got, ok := impl.ReadFixed(s+behind, width); got != n || !ok {
					t.Errorf("ReadFixed(%q, %d) = %d, %v, want %d", s+behind, width, got, ok, n)
				}
			}
		}
	}
}

func TestReadFixedTellsOnlyWhatFixedMakes(t *testing.T) {
	for n := range 1 << 16 {
		s := bigEndian(n, 2)
		got, ok := impl.ReadFixed(s, 2)
		if !ok || got != n || impl.Fixed(got, 2) != s {
			t.Fatalf("ReadFixed(%q, 2) = %d, %v", s, got, ok)
		}
	}
}

func TestReadFixedOfCutText(t *testing.T) {
	for width := 1; width <= 7; width++ {
		for have := range width {
			if n, ok := impl.ReadFixed(strings.Repeat("\x01", have), width); n != 0 || ok {
				t.Errorf("%d bytes, width %d: %d, %v", have, width, n, ok)
			}
		}
	}
}

// leastFirst: the library's number of seven bits to a byte has the form that the document asks for.
func leastFirst(n int) string {
	return string(binary.AppendUvarint(nil, uint64(n)))
}

func TestVarOfEdges(t *testing.T) {
	if impl.MaxVar != 1<<49-1 {
		t.Errorf("MaxVar = %d", impl.MaxVar)
	}
	for _, n := range append(edgeNumbers(), impl.MaxVar-1, impl.MaxVar, impl.MaxVar+1) {
		want := ""
		if n >= 0 && n <= impl.MaxVar {
			want = leastFirst(n)
		}
		if got := impl.Var(n); got != want {
			t.Errorf("Var(%d) = %q, want %q", n, got, want)
		}
	}
}

func TestReadVarTakesWhatVarMakes(t *testing.T) {
	for _, n := range append(edgeNumbers(), impl.MaxVar-1, impl.MaxVar) {
		s := impl.Var(n)
		if s == "" {
			continue
		}
		for _, behind := range []string{"", "\x00", "\x80", "\xff\xff\x01", "more"} {
			if got, k := impl.ReadVar(s + behind); got != n || k != len(s) {
				t.Errorf("ReadVar(%q) = %d, %d, want %d, %d", s+behind, got, k, n, len(s))
			}
		}
		for cut := range len(s) {
			if got, k := impl.ReadVar(s[:cut]); got != 0 || k != 0 {
				t.Errorf("ReadVar(%q) = %d, %d", s[:cut], got, k)
			}
		}
	}
}

func TestReadVarOfAByteTooMany(t *testing.T) {
	for _, n := range append(edgeNumbers(), impl.MaxVar) {
		s := impl.Var(n)
		if s == "" {
			continue
		}
		// The same number with its last byte marked, and noughts behind.
		open := s[:len(s)-1] + string([]byte{s[len(s)-1] | 128})
		for _, more := range []string{"\x00", "\x80\x00", "\x80\x80\x80\x80\x80\x80\x80\x80\x80\x00"} {
			if got, k := impl.ReadVar(open + more); got != 0 || k != 0 {
				t.Errorf("ReadVar(%q) = %d, %d", open+more, got, k)
			}
		}
	}
}

func TestReadVarOfTooGreatNumbers(t *testing.T) {
	for _, s := range []string{
		leastFirst(impl.MaxVar + 1),
		leastFirst(1 << 56),
		leastFirst(math.MaxInt),
		"\xff\xff\xff\xff\xff\xff\xff\xff\xff\x01",
		strings.Repeat("\x80", 7) + "\x01",
		strings.Repeat("\xff", 7) + "\x01",
		strings.Repeat("\xff", 7),
		strings.Repeat("\x80", 1000) + "\x01",
	} {
		if got, k := impl.ReadVar(s); got != 0 || k != 0 {
			t.Errorf("ReadVar(%q) = %d, %d", s, got, k)
		}
	}
}

// Every text of at most two bytes: what ReadVar may tell is looked up among all that Var makes in so few.
func TestReadVarTellsOnlyWhatVarMakes(t *testing.T) {
	made := map[string]int{}
	for n := range 1 << 14 {
		made[impl.Var(n)] = n
	}
	if len(made) != 1<<14 {
		t.Fatalf("%d texts of %d numbers", len(made), 1<<14)
	}
	for _, s := range shortTexts(allBytes(), 2) {
		want, wantK := 0, 0
		for k := 1; k <= len(s); k++ {
			if n, ok := made[s[:k]]; ok {
				want, wantK = n, k
			}
		}
		if got, k := impl.ReadVar(s); got != want || k != wantK {
			t.Fatalf("ReadVar(%q) = %d, %d, want %d, %d", s, got, k, want, wantK)
		}
	}
}

func allBytes() string {
	b := make([]byte, 256)
	for i := range b {
		b[i] = byte(i)
	}
	return string(b)
}

// shortTexts: all texts of at most most bytes of that alphabet, the empty one too.
func shortTexts(alphabet string, most int) []string {
	out := []string{""}
	last := out
	for range most {
		var next []string
		for _, s := range last {
			for i := range len(alphabet) {
				next = append(next, s+alphabet[i:i+1])
			}
		}
		out = append(out, next...)
		last = next
	}
	return out
}

func TestHexAndBack(t *testing.T) {
	for _, s := range []string{"", "a", "a\xff", "\x00", "\x00\x00\x01", "0f", "\x0f\xf0", allBytes(), strings.Repeat("heap\xfe", 1000)} {
		want := hex.EncodeToString([]byte(s))
		if got := impl.Hex(s); got != want {
			t.Errorf("Hex(%q) = %q, want %q", s, got, want)
		}
		if got, ok := impl.Unhex(want); got != s || !ok {
			t.Errorf("Unhex(%q) = %q, %v", want, got, ok)
		}
	}
}

// Every text of at most two bytes: only what Hex makes of one byte, or of none, is taken.
func TestUnhexTellsOnlyWhatHexMakes(t *testing.T) {
	made := map[string]string{impl.Hex(""): ""}
	for _, s := range shortTexts(allBytes(), 1) {
		made[impl.Hex(s)] = s
	}
	for _, s := range shortTexts(allBytes(), 2) {
		want, wantOk := made[s]
		if got, ok := impl.Unhex(s); got != want || ok != wantOk {
			t.Fatalf("Unhex(%q) = %q, %v, want %q, %v", s, got, ok, want, wantOk)
		}
	}
}

func TestUnhexOfWrongTexts(t *testing.T) {
	for _, s := range []string{"6", "616", "61f", "6F", "FF", "fF", "Ff", "g0", "0g", "61 ", " 61", "6 1f", "61\x00\x00", "+1", "0x61", "616g", "g161", "/0", ":0", "`0", "\x8061", "61\n"} {
		if got, ok := impl.Unhex(s); got != "" || ok {
			t.Errorf("Unhex(%q) = %q, %v", s, got, ok)
		}
	}
}

func TestDecOfEdges(t *testing.T) {
	for _, n := range append(edgeNumbers(), 7, -7, 120, -120) {
		if got, want := impl.Dec(n), fmt.Sprintf("%d", n); got != want {
			t.Errorf("Dec(%d) = %q", n, got)
		}
	}
	if got := impl.Dec(math.MinInt); got != "-9223372036854775808" {
		t.Errorf("Dec of the least int = %q", got)
	}
	if got := impl.Dec(math.MaxInt); got != "9223372036854775807" {
		t.Errorf("Dec of the greatest int = %q", got)
	}
}

func TestReadDecTakesNineDigits(t *testing.T) {
	for _, n := range append(edgeNumbers(), 7, -7, 120, -120, 123456789, -123456789) {
		want, wantOk := 0, false
		if n >= -999999999 && n <= 999999999 {
			want, wantOk = n, true
		}
		if got, ok := impl.ReadDec(impl.Dec(n)); got != want || ok != wantOk {
			t.Errorf("ReadDec of %d: %d, %v", n, got, ok)
		}
	}
}

// Every short text of digits, signs and what is like them: only what Dec makes is taken.
func TestReadDecTellsOnlyWhatDecMakes(t *testing.T) {
	made := map[string]int{}
	for n := -99999; n <= 99999; n++ {
		made[impl.Dec(n)] = n
	}
	for _, s := range append(shortTexts("-+ 0129./:ae_", 4), shortTexts(allBytes(), 2)...) {
		want, wantOk := made[s]
		if got, ok := impl.ReadDec(s); got != want || ok != wantOk {
			t.Fatalf("ReadDec(%q) = %d, %v, want %d, %v", s, got, ok, want, wantOk)
		}
	}
}

func TestReadDecOfWrongTexts(t *testing.T) {
	for _, s := range []string{
		"", "-", "--1", "-0", "00", "01", "-01", "+1", "+0", " 1", "1 ", "1\n", "1-", "1_0", "0x1", "1e3", "1.0", "\x001", "1\x00", "\u0661",
		"000000001", "0000000001", "012345678", "-000000000", "1000000000", "-1000000000", "9999999999", "-9223372036854775808",
		"18446744073709551617", strings.Repeat("9", 1000), strings.Repeat("0", 1000) + "1",
	} {
		if got, ok := impl.ReadDec(s); got != 0 || ok {
			t.Errorf("ReadDec(%q) = %d, %v", s, got, ok)
		}
	}
}
