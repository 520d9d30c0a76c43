package tests

import (
	"encoding/binary"
	"encoding/hex"
	"math"
	"strconv"
	"strings"
	"testing"

	"loop.example/g02075/impl"
)

// Promise 1: each decoder is the inverse of its encoder.
// The wanted results come from Go's own encodings, so that an encoder and a decoder with the same mistake fail too.

const maxVarint = 562949953421311

// sampleNumbers holds the numbers next to every power of two, where widths and groups change, and the extreme ones.
func sampleNumbers() []int {
	l := []int{math.MinInt, math.MinInt + 1, math.MaxInt - 1, math.MaxInt, 300, -300, 123456789}
	for k := range 63 {
		for d := -2; d <= 2; d++ {
			l = append(l, 1<<k+d, -(1<<k + d))
		}
	}
	return l
}

// stringsOver returns all strings of up to most bytes of an alphabet.
func stringsOver(alphabet string, most int) []string {
	all := []string{""}
	last := all
	for range most {
		var next []string
		for _, s := range last {
			for i := range len(alphabet) {
				next = append(next, s+alphabet[i:i+1])
			}
		}
		all = append(all, next...)
		last = next
	}
	return all
}

func everyByte() string {
	b := make([]byte, 256)
	for i := range b {
		b[i] = byte(i)
	}
	return string(b)
}

func wantEncodeFixed(n int, width int) string {
	if width < 1 || width > 7 || n < 0 {
		return ""
	}
	b := binary.BigEndian.AppendUint64(nil, uint64(n))
	for _, x := range b[:8-width] {
		if x != 0 {
			return ""
		}
	}
	return string(b[8-width:])
}

func wantDecodeFixed(s string, width int) (int, bool) {
	if width < 1 || width > 7 || len(s) < width {
		return 0, false
	}
	b := append(make([]byte, 8-width), s[:width]...)
	return int(binary.BigEndian.Uint64(b)), true
}

func sampleWidths() []int {
	l := []int{math.MinInt, math.MinInt + 1, -8, math.MaxInt - 1, math.MaxInt, 1 << 32, 1<<32 + 1, 256, 257, 64, 63, 16}
	for w := -2; w <= 10; w++ {
		l = append(l, w)
	}
	return l
}

func TestEncodeFixed(t *testing.T) {
	for _, n := range sampleNumbers() {
		for _, w := range sampleWidths() {
			if got, want := impl.EncodeFixed(n, w), wantEncodeFixed(n, w); got != want {
				t.Errorf("EncodeFixed(%d, %d) = %q, want %q", n, w, got, want)
			}
		}
	}
}

func TestEncodeFixedExamples(t *testing.T) {
	for _, c := range []struct {
		n     int
		width int
		want  string
	}{
		{258, 2, "\x01\x02"},
		{0, 1, "\x00"},
		{0, 7, "\x00\x00\x00\x00\x00\x00\x00"},
		{255, 1, "\xff"},
		{256, 1, ""},
		{65535, 2, "\xff\xff"},
		{65536, 2, ""},
		{1<<56 - 1, 7, "\xff\xff\xff\xff\xff\xff\xff"},
		{1 << 56, 7, ""},
		{0x01020304050607, 7, "\x01\x02\x03\x04\x05\x06\x07"},
		{1, 0, ""},
		{0, 0, ""},
		{1, 8, ""},
		{1, -1, ""},
		{-1, 1, ""},
		{-1, 7, ""},
	} {
		if got := impl.EncodeFixed(c.n, c.width); got != c.want {
			t.Errorf("EncodeFixed(%d, %d) = %q, want %q", c.n, c.width, got, c.want)
		}
	}
}

func TestDecodeFixed(t *testing.T) {
	texts := stringsOver("\x00\x01\x7f\x80\xff", 4)
	texts = append(texts, "\x00\x00\x00\x00\x00\x00\x00", "\xff\xff\xff\xff\xff\xff\xff", "\x01\x02\x03\x04\x05\x06\x07\x08", "\xff\xff\xff\xff\xff\xff\xff\xff\xff", "é€", everyByte())
	for _, s := range texts {
		for _, w := range sampleWidths() {
			n, ok := impl.DecodeFixed(s, w)
			wantN, wantOk := wantDecodeFixed(s, w)
			if n != wantN || ok != wantOk {
				t.Errorf("DecodeFixed(%q, %d) = %d, %t, want %d, %t", s, w, n, ok, wantN, wantOk)
			}
		}
	}
}

func TestFixedInverse(t *testing.T) {
	for _, n := range sampleNumbers() {
		for w := 1; w <= 7; w++ {
			s := impl.EncodeFixed(n, w)
			if s == "" {
				continue
			}
			for _, tail := range []string{"", "\x00", "\xff\xff"} {
				if got, ok := impl.DecodeFixed(s+tail, w); got != n || !ok {
					t.Errorf("DecodeFixed(%q, %d) = %d, %t, want %d, true", s+tail, w, got, ok, n)
				}
			}
			if got, ok := impl.DecodeFixed(s[:w-1], w); got != 0 || ok {
				t.Errorf("DecodeFixed(%q, %d) = %d, %t, want 0, false", s[:w-1], w, got, ok)
			}
		}
	}
	for _, s := range stringsOver("\x00\x01\x80\xff", 5)[1:] {
		n, _ := impl.DecodeFixed(s, len(s))
		if got := impl.EncodeFixed(n, len(s)); got != s {
			t.Errorf("EncodeFixed(DecodeFixed(%q)) = %q", s, got)
		}
	}
}

func wantEncodeVarint(n int) string {
	if n < 0 || n > maxVarint {
		return ""
	}
	return string(binary.AppendUvarint(nil, uint64(n)))
}

func wantDecodeVarint(s string) (int, int) {
	n, k := binary.Uvarint([]byte(s))
	if k < 1 || n > maxVarint || string(binary.AppendUvarint(nil, n)) != s[:k] {
		return 0, 0
	}
	return int(n), k
}

func checkDecodeVarint(t *testing.T, s string) {
	n, k := impl.DecodeVarint(s)
	wantN, wantK := wantDecodeVarint(s)
	if n != wantN || k != wantK {
		t.Errorf("DecodeVarint(%q) = %d, %d, want %d, %d", s, n, k, wantN, wantK)
	}
}

func TestMaxVarint(t *testing.T) {
	if impl.MaxVarint != maxVarint {
		t.Errorf("MaxVarint = %d", impl.MaxVarint)
	}
}

func TestEncodeVarint(t *testing.T) {
	for _, n := range append(sampleNumbers(), maxVarint-1, maxVarint, maxVarint+1, maxVarint+2) {
		if got, want := impl.EncodeVarint(n), wantEncodeVarint(n); got != want {
			t.Errorf("EncodeVarint(%d) = %q, want %q", n, got, want)
		}
	}
	for n := range 1 << 16 {
		if got, want := impl.EncodeVarint(n), wantEncodeVarint(n); got != want {
			t.Errorf("EncodeVarint(%d) = %q, want %q", n, got, want)
		}
	}
}

func TestDecodeVarintExamples(t *testing.T) {
	for _, c := range []struct {
		s string
		n int
		k int
	}{
		{"\xac\x02", 300, 2},
		{"\xac\x02z", 300, 2},
		{"\x00", 0, 1},
		{"\x00\x00", 0, 1},
		{"\x7f\x80", 127, 1},
		{"\x80\x01", 128, 2},
		{"\xff\xff\xff\xff\xff\xff\x7f", maxVarint, 7},
		{"\xff\xff\xff\xff\xff\xff\x7f\xff", maxVarint, 7},
		{"\x80\x80\x80\x80\x80\x80\x01", 1 << 42, 7},
		{"", 0, 0},
		{"\x80", 0, 0},
		{"\xff\xff\xff\xff\xff\xff", 0, 0},
		{"\xff\xff\xff\xff\xff\xff\xff", 0, 0},
	} {
		if n, k := impl.DecodeVarint(c.s); n != c.n || k != c.k {
			t.Errorf("DecodeVarint(%q) = %d, %d, want %d, %d", c.s, n, k, c.n, c.k)
		}
	}
}

// A varint with unnecessary bytes is none, however many there are and whatever follows.
func TestDecodeVarintUnnecessaryBytes(t *testing.T) {
	for _, n := range []int{0, 1, 44, 127, 128, 300, 16383, 16384, 1<<35 - 1, maxVarint} {
		s := []byte(impl.EncodeVarint(n))
		if len(s) == 0 {
			t.Fatalf("EncodeVarint(%d) is empty", n)
		}
		s[len(s)-1] |= 128
		for zeros := range 9 {
			text := string(s) + strings.Repeat("\x80", zeros) + "\x00"
			for _, tail := range []string{"", "\x01", "\x80"} {
				if got, k := impl.DecodeVarint(text + tail); got != 0 || k != 0 {
					t.Errorf("DecodeVarint(%q) = %d, %d, want 0, 0", text+tail, got, k)
				}
			}
		}
	}
}

func TestDecodeVarintTooLong(t *testing.T) {
	for _, s := range []string{
		"\x80\x80\x80\x80\x80\x80\x80\x01",
		"\x81\x80\x80\x80\x80\x80\x80\x01",
		"\xff\xff\xff\xff\xff\xff\xff\x7f",
		"\xff\xff\xff\xff\xff\xff\xff\xff\x7f",
		"\xff\xff\xff\xff\xff\xff\xff\xff\xff\x01",
		"\xff\xff\xff\xff\xff\xff\xff\xff\xff\x02",
		strings.Repeat("\x80", 9) + "\x02",
		"\x81" + strings.Repeat("\x80", 1000) + "\x01",
		strings.Repeat("\xff", 1000),
	} {
		if n, k := impl.DecodeVarint(s); n != 0 || k != 0 {
			t.Errorf("DecodeVarint(%q) = %d, %d, want 0, 0", s, n, k)
		}
	}
}

func TestDecodeVarintAllShort(t *testing.T) {
	for _, s := range stringsOver(everyByte(), 2) {
		checkDecodeVarint(t, s)
	}
	for _, s := range stringsOver("\x00\x01\x7f\x80\xff", 8) {
		checkDecodeVarint(t, s)
	}
}

func TestVarintInverse(t *testing.T) {
	for _, n := range append(sampleNumbers(), maxVarint-1, maxVarint) {
		s := impl.EncodeVarint(n)
		if s == "" {
			continue
		}
		for _, tail := range []string{"", "\x00", "\x80\x01", "\xff"} {
			if got, k := impl.DecodeVarint(s + tail); got != n || k != len(s) {
				t.Errorf("DecodeVarint(%q) = %d, %d, want %d, %d", s+tail, got, k, n, len(s))
			}
		}
		for i := range len(s) {
			if got, k := impl.DecodeVarint(s[:i]); got != 0 || k != 0 {
				t.Errorf("DecodeVarint(%q) = %d, %d, want 0, 0", s[:i], got, k)
			}
		}
	}
}

func TestHexInverse(t *testing.T) {
	texts := stringsOver(everyByte(), 1)
	texts = append(texts, everyByte(), "a\xff", "\x00\x00\x00", "aé€😀\xc3", strings.Repeat("\x9f\x0a", 500))
	for _, s := range texts {
		h := impl.EncodeHex(s)
		if want := hex.EncodeToString([]byte(s)); h != want {
			t.Errorf("EncodeHex(%q) = %q, want %q", s, h, want)
		}
		if got, ok := impl.DecodeHex(h); got != s || !ok {
			t.Errorf("DecodeHex(%q) = %q, %t, want %q, true", h, got, ok, s)
		}
	}
}

func checkDecodeHex(t *testing.T, h string) {
	want, wantOk := "", false
	if b, err := hex.DecodeString(h); err == nil && hex.EncodeToString(b) == h {
		want, wantOk = string(b), true
	}
	if got, ok := impl.DecodeHex(h); got != want || ok != wantOk {
		t.Errorf("DecodeHex(%q) = %q, %t, want %q, %t", h, got, ok, want, wantOk)
	}
}

func TestDecodeHexAllShort(t *testing.T) {
	for _, h := range stringsOver(everyByte(), 2) {
		checkDecodeHex(t, h)
	}
	for _, h := range stringsOver("0afAg\xff", 6) {
		checkDecodeHex(t, h)
	}
}

func TestDecodeHexInvalid(t *testing.T) {
	for _, h := range []string{
		"6F", "6f6F", "A0", "0", "000", "61f", "6g", "/0", ":0", "`0", "0x61", "61 ", " 61", "61\n", "-1", "+1",
		"é", "0é0", "š", "٣", "３３", "aｆ", "\xc3\xa9", "61\xff\xff", "\xff\xfd", "\xef\xbf\xbd0", "00\x00\x00",
	} {
		if got, ok := impl.DecodeHex(h); got != "" || ok {
			t.Errorf("DecodeHex(%q) = %q, %t, want the empty string, false", h, got, ok)
		}
	}
}

func TestFormatInt(t *testing.T) {
	for n := -2000; n <= 2000; n++ {
		if got, want := impl.FormatInt(n), strconv.Itoa(n); got != want {
			t.Errorf("FormatInt(%d) = %q", n, got)
		}
	}
	for _, n := range sampleNumbers() {
		if got, want := impl.FormatInt(n), strconv.Itoa(n); got != want {
			t.Errorf("FormatInt(%d) = %q", n, got)
		}
	}
	if got := impl.FormatInt(math.MinInt); got != "-9223372036854775808" {
		t.Errorf("FormatInt of the least int = %q", got)
	}
}

func checkParseInt(t *testing.T, s string) {
	want, err := strconv.Atoi(s)
	wantOk := err == nil && strconv.Itoa(want) == s && len(strings.TrimPrefix(s, "-")) <= 9
	if !wantOk {
		want = 0
	}
	if n, ok := impl.ParseInt(s); n != want || ok != wantOk {
		t.Errorf("ParseInt(%q) = %d, %t, want %d, %t", s, n, ok, want, wantOk)
	}
}

func TestParseIntAllShort(t *testing.T) {
	for _, s := range stringsOver(everyByte(), 2) {
		checkParseInt(t, s)
	}
	for _, s := range stringsOver("0179-+ _", 5) {
		checkParseInt(t, s)
	}
}

func TestParseIntExamples(t *testing.T) {
	for s, want := range map[string]int{
		"-7": -7, "0": 0, "7": 7, "10": 10, "-10": -10, "-120": -120, "100000000": 100000000,
		"123456789": 123456789, "-123456789": -123456789, "999999999": 999999999, "-999999999": -999999999,
	} {
		if n, ok := impl.ParseInt(s); n != want || !ok {
			t.Errorf("ParseInt(%q) = %d, %t, want %d, true", s, n, ok, want)
		}
	}
}

func TestParseIntInvalid(t *testing.T) {
	for _, s := range []string{
		"", "-", "--", "--7", "+7", "-+7", "07", "-07", "00", "-0", "-00", "000000000", "000000007", "-000000007",
		" 7", "7 ", "- 7", "7-", "7\n", "7\x00", "\x007", "0x7", "1_0", "1e3", "7.0", "7a", "a7", "a",
		"1000000000", "-1000000000", "2147483648", "-2147483649", "9999999999", "0000000001",
		"9223372036854775807", "-9223372036854775808", "9223372036854775808", "18446744073709551616", "18446744073709551623",
		strings.Repeat("9", 1000), "-" + strings.Repeat("0", 1000), strings.Repeat("-", 1000),
		"٣", "1٣", "３", "−7", "7\xff", "\xff",
	} {
		if n, ok := impl.ParseInt(s); n != 0 || ok {
			t.Errorf("ParseInt(%q) = %d, %t, want 0, false", s, n, ok)
		}
	}
}

func TestIntInverse(t *testing.T) {
	for _, n := range append(sampleNumbers(), 999999999, -999999999, 1000000000, -1000000000) {
		want, wantOk := n, true
		if n > 999999999 || n < -999999999 {
			want, wantOk = 0, false
		}
		s := impl.FormatInt(n)
		if got, ok := impl.ParseInt(s); got != want || ok != wantOk {
			t.Errorf("ParseInt(%q) = %d, %t, want %d, %t", s, got, ok, want, wantOk)
		}
	}
}
