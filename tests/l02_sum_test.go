package tests

import (
	"hash/crc32"
	"strings"
	"testing"

	"loop.example/g01412/impl"
)

var _ func(string) int = impl.Crc

// sumBitByBit does the document's steps as they stand there, without a table.
func sumBitByBit(s string) int {
	c := 4294967295
	for i := 0; i < len(s); i++ {
		c ^= int(s[i])
		for range 8 {
			odd := c%2 == 1
			c /= 2
			if odd {
				c ^= 2197175160
			}
		}
	}
	return 4294967295 - c
}

func holdSum(t *testing.T, s string) int {
	t.Helper()
	got := impl.Crc(s)
	if want := sumBitByBit(s); got != want {
		t.Errorf("Crc of %d bytes that begin %q = %d, want %d", len(s), s[:min(len(s), 20)], got, want)
	}
	if got < 0 || got > 4294967295 {
		t.Errorf("Crc of %q = %d is not of 32 bits", s[:min(len(s), 20)], got)
	}
	return got
}

// flipped: s with that bit of that byte turned.
func flipped(s string, at int, bit int) string {
	b := []byte(s)
	b[at] ^= 1 << bit
	return string(b)
}

// longText: bytes of all values, in an order that repeats late.
func longText(n int) string {
	b := make([]byte, n)
	x := uint32(1)
	for i := range b {
		x = x*1664525 + 1013904223
		b[i] = byte(x >> 24)
	}
	return string(b)
}

func TestSumOfTheDocumentsBytes(t *testing.T) {
	if got := impl.Crc("123456789"); got != 3808858755 {
		t.Errorf("Crc(\"123456789\") = %d", got)
	}
	if got := impl.Crc(""); got != 0 {
		t.Errorf("Crc(\"\") = %d", got)
	}
	// The steps of this test are held against the library, so that they are not wrong in the way the program is.
	table := crc32.MakeTable(crc32.Castagnoli)
	for _, s := range []string{"", "a", "123456789", allBytes(), longText(5000)} {
		if got, want := sumBitByBit(s), int(crc32.Checksum([]byte(s), table)); got != want {
			t.Errorf("the steps of %q: %d, want %d", s[:min(len(s), 20)], got, want)
		}
	}
}

func TestSumOfEachByte(t *testing.T) {
	seen := map[int]string{}
	for _, s := range shortTexts(allBytes(), 1) {
		got := holdSum(t, s)
		if other, there := seen[got]; there {
			t.Errorf("Crc of %q and of %q are both %d", s, other, got)
		}
		seen[got] = s
	}
}

// Every text of two bytes: that of a lead byte and one that goes on is one character, the others are none.
func TestSumOfTwoBytes(t *testing.T) {
	seen := map[int]string{}
	for _, s := range shortTexts(allBytes(), 2) {
		got := holdSum(t, s)
		if other, there := seen[got]; there {
			t.Fatalf("Crc of %q and of %q are both %d", s, other, got)
		}
		seen[got] = s
	}
}

func TestSumOfBytesAbove127(t *testing.T) {
	for _, s := range []string{
		"\u00e9", "\u20ac", "\U0001f600", "a\u00e9b\u20acc\U0001f600d", "\u20ac\u20ac", "\ufffd", "\ufffd\xff", "\xff\ufffd",
		"\x80", "\xbf\xbf", "\xc3", "\xc3a", "\xe2\x82", "\xe2\x82a", "\xf0\x9f\x98", "\xc0\x80", "\xed\xa0\x80", "\xf4\x90\x80\x80", "\xfe\xff",
		"a\x80", "\x80a", "\u20ac\x80", "\x80\u20ac", "\u20ac\xe2\x82", allBytes(), strings.Repeat("\xff", 300), strings.Repeat("\u20ac\xe2", 300),
	} {
		holdSum(t, s)
	}
	for _, s := range shortTexts("a\x80\x82\xac\xc3\xe2\xf0\xff", 4) {
		holdSum(t, s)
	}
}

// What is no character at all must not be taken for the one that stands for such.
func TestSumTellsBrokenCharactersApart(t *testing.T) {
	seen := map[int]string{}
	for _, s := range []string{"\ufffd", "\xff", "\xfe", "\x80", "\xef\xbf", "\xef", "\xbd", "\xff\xff\xff", "\xed\xa0\x80", "\xed\xbf\xbf"} {
		got := impl.Crc(s)
		if other, there := seen[got]; there {
			t.Errorf("Crc of %q and of %q are both %d", s, other, got)
		}
		seen[got] = s
	}
}

func TestSumOfATurnedBit(t *testing.T) {
	for _, s := range []string{"a", "123456789", "\u20acuro", "\x00\x00\x00", allBytes(), longText(3000)} {
		whole := holdSum(t, s)
		for _, at := range []int{0, len(s) / 2, len(s) - 1} {
			for bit := range 8 {
				if got := holdSum(t, flipped(s, at, bit)); got == whole {
					t.Errorf("bit %d of byte %d of %d turned: still %d", bit, at, len(s), got)
				}
			}
		}
	}
}

// What differs within 32 bits in a row has another sum, whatever stands around.
func TestSumOfFourBytesInARow(t *testing.T) {
	ahead, behind := "head\xe2", "\x82tail"
	fours := []string{"abcd", "abce", "bbcd", "dcba", "\x00\x00\x00\x00", "\x00\x00\x00\x01", "\x01\x00\x00\x00", "\xff\xff\xff\xff", "\x80\x00\x00\x00", "\x00\x00\x00\x80", "\U0001f600"}
	seen := map[int]string{}
	for _, four := range fours {
		got := holdSum(t, ahead+four+behind)
		if other, there := seen[got]; there {
			t.Errorf("%q and %q in the middle: both %d", four, other, got)
		}
		seen[got] = four
	}
}

func TestSumOfNoughts(t *testing.T) {
	seen := map[int]int{}
	for n := range 200 {
		noughts := strings.Repeat("\x00", n)
		got := holdSum(t, noughts)
		if other, there := seen[got]; there {
			t.Errorf("%d and %d noughts: both %d", n, other, got)
		}
		seen[got] = n
		if n == 0 {
			continue
		}
		whole := holdSum(t, "abc")
		if holdSum(t, noughts+"abc") == whole || holdSum(t, "abc"+noughts) == whole || holdSum(t, "a"+noughts+"bc") == whole {
			t.Errorf("%d noughts with abc: still %d", n, whole)
		}
	}
}

func TestSumAskedTwice(t *testing.T) {
	texts := []string{"", "123456789", "\xff\x00", "\u20ac", longText(4000)}
	var first []int
	for _, s := range texts {
		first = append(first, impl.Crc(s))
	}
	for i, s := range texts {
		// The bytes alone count, not where they lie: a copy has the same sum, and so has a piece of a longer text.
		if impl.Crc(s) != first[i] || impl.Crc(string([]byte(s))) != first[i] || impl.Crc(("x" + s + "\x80")[1:len(s)+1]) != first[i] {
			t.Errorf("text %d asked twice", i)
		}
	}
}

func TestSumOfLongTexts(t *testing.T) {
	for _, n := range []int{15, 16, 17, 255, 256, 257, 1000, 4096, 5000, 70000} {
		holdSum(t, longText(n))
		holdSum(t, strings.Repeat("a", n))
		holdSum(t, strings.Repeat("\u00e9", n))
		holdSum(t, strings.Repeat("\x80", n))
	}
}
