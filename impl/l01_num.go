package impl

import (
	"strconv"
	"strings"
)

const MaxVarint = 562949953421311

const (
	maxFixedBytes  = 7
	maxVarintBytes = 7
	maxDigits      = 9
	hexDigits      = "0123456789abcdef"
)

func EncodeFixed(n int, width int) string {
	if !isFixedWidth(width) || n < 0 || n>>(8*width) != 0 {
		return ""
	}
	b := make([]byte, width)
	for i := range width {
		b[width-1-i] = byte(n >> (8 * i))
	}
	return string(b)
}

func isFixedWidth(width int) bool {
	return width >= 1 && width <= maxFixedBytes
}

func DecodeFixed(s string, width int) (int, bool) {
	if !isFixedWidth(width) || len(s) < width {
		return 0, false
	}
	n := 0
	for i := range width {
		n = n<<8 | int(s[i])
	}
	return n, true
}

func EncodeVarint(n int) string {
	if n < 0 || n > MaxVarint {
		return ""
	}
	b := make([]byte, 0, maxVarintBytes)
	for n >= 128 {
		b = append(b, byte(n%128)+128)
		n /= 128
	}
	return string(append(b, byte(n)))
}

func DecodeVarint(s string) (int, int) {
	n := 0
	for i := range min(len(s), maxVarintBytes) {
		n |= int(s[i]%128) << (7 * i)
		if s[i] >= 128 {
			continue
		}
		// Only the varint of n counts, not a longer spelling with groups of zeros at the end.
		if EncodeVarint(n) != s[:i+1] {
			return 0, 0
		}
		return n, i + 1
	}
	return 0, 0
}

func EncodeHex(s string) string {
	b := make([]byte, 0, 2*len(s))
	for i := range len(s) {
		b = append(b, hexDigits[s[i]/16], hexDigits[s[i]%16])
	}
	return string(b)
}

func DecodeHex(s string) (string, bool) {
	if len(s)%2 != 0 {
		return "", false
	}
	b := make([]byte, len(s)/2)
	// A rune of several bytes and an invalid byte are no digits, so that i counts digits as long as the loop goes on.
	for i, r := range s {
		d, ok := hexValue(r)
		if !ok {
			return "", false
		}
		b[i/2] = b[i/2]*16 + d
	}
	return string(b), true
}

func hexValue(r rune) (byte, bool) {
	switch {
	case r >= '0' && r <= '9':
		return byte(r - '0'), true
	case r >= 'a' && r <= 'f':
		return byte(r-'a') + 10, true
	}
	return 0, false
}

func FormatInt(n int) string {
	return strconv.Itoa(n)
}

func ParseInt(s string) (int, bool) {
	digits, negative := strings.CutPrefix(s, "-")
	if len(digits) > maxDigits {
		return 0, false
	}
	n := 0
	for _, r := range digits {
		if r < '0' || r > '9' {
			return 0, false
		}
		n = 10*n + int(r-'0')
	}
	if negative {
		n = -n
	}
	// No digits, needless zeros and -0 have numbers too, but are no formats of them.
	if FormatInt(n) != s {
		return 0, false
	}
	return n, true
}
