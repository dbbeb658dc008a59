package impl

import (
	"strconv"
	"strings"
)

const MaxVar = 562949953421311

// maxWidth keeps the sign of an int out of reach of a fixed number.
const maxWidth = 7

// maxVarBytes is how many bytes MaxVar has: seven bits to each.
const maxVarBytes = 7

const maxDigits = 9

const hexDigits = "0123456789abcdef"

// put answers where the next bytes go, so that a text is made in one room without growing it.
func put(room []byte, at int, more ...byte) int {
	return at + copy(room[at:], more)
}

func Fixed(n int, width int) string {
	if width < 1 || width > maxWidth || n < 0 || n>>(8*width) != 0 {
		return ""
	}
	room := make([]byte, width)
	at := 0
	for behind := width - 1; behind >= 0; behind-- {
		at = put(room, at, byte(n>>(8*behind)))
	}
	return string(room)
}

func ReadFixed(s string, width int) (int, bool) {
	if width < 1 || width > maxWidth || len(s) < width {
		return 0, false
	}
	n := 0
	for i := range width {
		n = n<<8 | int(s[i])
	}
	return n, true
}

func Var(n int) string {
	if n < 0 || n > MaxVar {
		return ""
	}
	room := make([]byte, maxVarBytes)
	at := 0
	for ; n >= 128; n >>= 7 {
		at = put(room, at, byte(n&127)|128)
	}
	at = put(room, at, byte(n))
	return string(room[:at])
}

func ReadVar(s string) (int, int) {
	n := 0
	for i := range min(len(s), maxVarBytes) {
		n |= int(s[i]&127) << (7 * i)
		if s[i] >= 128 {
			continue
		}
		// A last byte 0 behind others adds nothing: Var makes the number without it.
		if s[i] == 0 && i > 0 {
			return 0, 0
		}
		return n, i + 1
	}
	return 0, 0
}

func Hex(s string) string {
	room := make([]byte, 2*len(s))
	at := 0
	for i := range len(s) {
		at = put(room, at, hexDigits[s[i]>>4], hexDigits[s[i]&15])
	}
	return string(room)
}

// hexValue is -1 for a great letter too: Hex never makes one.
func hexValue(c byte) int {
	switch {
	case '0' <= c && c <= '9':
		return int(c - '0')
	case 'a' <= c && c <= 'f':
		return int(c-'a') + 10
	}
	return -1
}

func Unhex(s string) (string, bool) {
	if len(s)%2 != 0 {
		return "", false
	}
	room := make([]byte, len(s)/2)
	at := 0
	for i := 0; i < len(s); i += 2 {
		high, low := hexValue(s[i]), hexValue(s[i+1])
		if high < 0 || low < 0 {
			return "", false
		}
		at = put(room, at, byte(high<<4|low))
	}
	return string(room), true
}

func Dec(n int) string {
	return strconv.Itoa(n)
}

func ReadDec(s string) (int, bool) {
	digits := strings.TrimPrefix(s, "-")
	if len(digits) > maxDigits {
		return 0, false
	}
	n := 0
	for i := range len(digits) {
		if digits[i] < '0' || digits[i] > '9' {
			return 0, false
		}
		n = 10*n + int(digits[i]-'0')
	}
	if len(digits) < len(s) {
		n = -n
	}
	// What is left to refuse (no digit at all, needless noughts, -0) is just what Dec does not make.
	if Dec(n) != s {
		return 0, false
	}
	return n, true
}
