package impl

import (
	"strconv"
	"strings"
)

const MaxVarint = 562949953421311

const maxFixedWidth = 7

// MaxVarint fills exactly this many groups of seven bits.
const maxVarintBytes = 7

const maxParsedDigits = 9

const hexDigits = "0123456789abcdef"

func EncodeFixed(n int, width int) string {
	if !isFixedWidth(width) || n < 0 || n >= 1<<(8*width) {
		return ""
	}
	b := make([]byte, width)
	for i := range b {
		b[i] = byte(n >> (8 * (width - 1 - i)))
	}
	return string(b)
}

func DecodeFixed(s string, width int) (int, bool) {
	if !isFixedWidth(width) || len(s) < width {
		return 0, false
	}
	n := 0
	for i := range width {
		n = n<<8 | int(s[i])
	}
	return n, true
}

func isFixedWidth(width int) bool {
	return 1 <= width && width <= maxFixedWidth
}

func EncodeVarint(n int) string {
	if n < 0 || n > MaxVarint {
		return ""
	}
	var b []byte
	for n >= 128 {
		b = append(b, byte(n%128+128))
		n /= 128
	}
	return string(append(b, byte(n)))
}

func DecodeVarint(s string) (int, int) {
	n := 0
	for i := range min(len(s), maxVarintBytes) {
		n |= int(s[i]%128) << (7 * i)
		if s[i] >= 128 {
			continue
		}
		// A last group of zero adds nothing, so the encoder would have stopped before it.
		if s[i] == 0 && i > 0 {
			return 0, 0
		}
		return n, i + 1
	}
	return 0, 0
}

func EncodeHex(s string) string {
	b := make([]byte, 0, 2*len(s))
	for i := range len(s) {
		b = append(b, hexDigits[s[i]/16], hexDigits[s[i]%16])
	}
	return string(b)
}

func DecodeHex(s string) (string, bool) {
	if len(s)%2 != 0 {
		return "", false
	}
	b := make([]byte, len(s)/2)
	// Every rune that is a digit has one byte, so i counts digits until the first one that is none.
	for i, digit := range s {
		half := strings.IndexRune(hexDigits, digit)
		if half < 0 {
			return "", false
		}
		b[i/2] = b[i/2]*16 + byte(half)
	}
	return string(b), true
}

func FormatInt(n int) string {
	return strconv.Itoa(n)
}

func ParseInt(s string) (int, bool) {
	digits := strings.TrimPrefix(s, "-")
	if len(digits) > maxParsedDigits {
		return 0, false
	}
	n := 0
	for _, digit := range digits {
		if digit < '0' || digit > '9' {
			return 0, false
		}
		n = n*10 + int(digit-'0')
	}
	if len(digits) < len(s) {
		n = -n
	}
	// Formatting again finds needless zeros, a sign before 0, and missing digits.
	if FormatInt(n) != s {
		return 0, false
	}
	return n, true
}
