package tests

import (
	"math"
	"strconv"
	"strings"
	"testing"

	"loop.example/g01989/impl"
)

// stringsOver returns all strings of at most most of the given bytes.
func stringsOver(alphabet string, most int) []string {
	all := []string{""}
	for from := 0; most > 0; most-- {
		to := len(all)
		for _, s := range all[from:to] {
			for i := range len(alphabet) {
				all = append(all, s+alphabet[i:i+1])
			}
		}
		from = to
	}
	return all
}

func allBytes() string {
	b := make([]byte, 256)
	for i := range b {
		b[i] = byte(i)
	}
	return string(b)
}

func TestEncodeFixed(t *testing.T) {
	for _, c := range []struct {
		n, width int
		want     string
	}{
		{0, 1, "\x00"},
		{255, 1, "\xff"},
		{258, 2, "\x01\x02"},
		{7, 3, "\x00\x00\x07"},
		{0x010203, 3, "\x01\x02\x03"},
		{0x0102030405060708 >> 8, 7, "\x01\x02\x03\x04\x05\x06\x07"},
		{1<<56 - 1, 7, "\xff\xff\xff\xff\xff\xff\xff"},
		{256, 1, ""},
		{1 << 48, 6, ""},
		{1 << 56, 7, ""},
		{math.MaxInt, 7, ""},
		{-1, 1, ""},
		{-1, 7, ""},
		{math.MinInt, 3, ""},
		{0, 0, ""},
		{0, -1, ""},
		{0, 8, ""},
		{0, math.MaxInt, ""},
		{0, math.MinInt, ""},
	} {
		if got := impl.EncodeFixed(c.n, c.width); got != c.want {
			t.Errorf("EncodeFixed(%d, %d) = %q, want %q", c.n, c.width, got, c.want)
		}
	}
}

func TestDecodeFixed(t *testing.T) {
	for _, c := range []struct {
		s     string
		width int
		want  int
		ok    bool
	}{
		{"\x00", 1, 0, true},
		{"\xff", 1, 255, true},
		{"\x01\x02", 2, 258, true},
		{"\x01\x02\x03", 2, 258, true},
		{"\x00\x00\x07", 3, 7, true},
		{"\xff\xff\xff\xff\xff\xff\xff\xff", 7, 1<<56 - 1, true},
		{"", 1, 0, false},
		{"a", 2, 0, false},
		{"abcdef", 7, 0, false},
		{"abcdefgh", 8, 0, false},
		{"", 0, 0, false},
		{"a", 0, 0, false},
		{"a", -1, 0, false},
		{"a", math.MaxInt, 0, false},
		{"a", math.MinInt, 0, false},
	} {
		if got, ok := impl.DecodeFixed(c.s, c.width); got != c.want || ok != c.ok {
			t.Errorf("DecodeFixed(%q, %d) = %d, %v, want %d, %v", c.s, c.width, got, ok, c.want, c.ok)
		}
	}
}

func TestFixedInverse(t *testing.T) {
	for width := 1; width <= 7; width++ {
		limit := 1 << (8 * width)
		for bit := 0; bit < 8*width; bit++ {
			for _, n := range []int{1<<bit - 1, 1 << bit, limit - 1<<bit} {
				s := impl.EncodeFixed(n, width)
				if len(s) != width {
					t.Fatalf("EncodeFixed(%d, %d) has %d bytes", n, width, len(s))
				}
				if got, ok := impl.DecodeFixed(s+"z", width); got != n || !ok {
					t.Errorf("width %d: %d comes back as %d, %v", width, n, got, ok)
				}
			}
		}
	}
	for _, s := range stringsOver(allBytes(), 2)[1:] {
		n, ok := impl.DecodeFixed(s, len(s))
		if back := impl.EncodeFixed(n, len(s)); !ok || back != s {
			t.Fatalf("%q is read as %d, %v and written as %q", s, n, ok, back)
		}
	}
}

func TestEncodeVarint(t *testing.T) {
	for _, c := range []struct {
		n    int
		want string
	}{
		{0, "\x00"},
		{1, "\x01"},
		{127, "\x7f"},
		{128, "\x80\x01"},
		{300, "\xac\x02"},
		{16383, "\xff\x7f"},
		{16384, "\x80\x80\x01"},
		{1<<42 - 1, "\xff\xff\xff\xff\xff\x7f"},
		{1 << 42, "\x80\x80\x80\x80\x80\x80\x01"},
		{impl.MaxVarint, "\xff\xff\xff\xff\xff\xff\x7f"},
		{impl.MaxVarint + 1, ""},
		{math.MaxInt, ""},
		{-1, ""},
		{math.MinInt, ""},
	} {
		if got := impl.EncodeVarint(c.n); got != c.want {
			t.Errorf("EncodeVarint(%d) = %q, want %q", c.n, got, c.want)
		}
	}
	if impl.MaxVarint != 562949953421311 {
		t.Error("MaxVarint is", impl.MaxVarint)
	}
}

func TestDecodeVarint(t *testing.T) {
	for _, c := range []struct {
		s       string
		n, size int
	}{
		{"\x00", 0, 1},
		{"\x00\x00", 0, 1},
		{"\x7f\xff", 127, 1},
		{"\x80\x01", 128, 2},
		{"\xac\x02z", 300, 2},
		{"\x80\x80\x01", 16384, 3},
		{"\xff\xff\xff\xff\xff\xff\x7f\x80", impl.MaxVarint, 7},
	} {
		if n, size := impl.DecodeVarint(c.s); n != c.n || size != c.size {
			t.Errorf("DecodeVarint(%q) = %d, %d, want %d, %d", c.s, n, size, c.n, c.size)
		}
	}
}

func TestDecodeVarintRejects(t *testing.T) {
	invalid := map[string]string{
		"empty":            "",
		"one past the end": "\x80\x80\x80\x80\x80\x80\x80\x01",
		"eight full bytes": "\xff\xff\xff\xff\xff\xff\xff\x7f",
		"ten bytes":        "\xff\xff\xff\xff\xff\xff\xff\xff\xff\x01",
		"never ending":     strings.Repeat("\x80", 100),
	}
	for size := 1; size <= 7; size++ {
		invalid["cut off after "+strconv.Itoa(size)] = strings.Repeat("\xff", size)
	}
	for why, s := range invalid {
		if n, size := impl.DecodeVarint(s); n != 0 || size != 0 {
			t.Errorf("%s: DecodeVarint(%q) = %d, %d, want 0, 0", why, s, n, size)
		}
	}
}

// A sloppy encoder continues the last byte and lets any number of empty groups follow.
func TestDecodeVarintRejectsUnnecessaryBytes(t *testing.T) {
	for _, n := range []int{0, 1, 127, 128, 300, 16384, 1 << 35, 1<<42 - 1, impl.MaxVarint} {
		s := []byte(impl.EncodeVarint(n))
		for range 8 {
			s[len(s)-1] += 128
			s = append(s, 0)
			if got, size := impl.DecodeVarint(string(s) + "\x01"); got != 0 || size != 0 {
				t.Errorf("DecodeVarint(%q) = %d, %d, want 0, 0", s, got, size)
			}
		}
	}
}

func TestVarintInverse(t *testing.T) {
	for bit := 0; bit <= 49; bit++ {
		for _, n := range []int{1<<bit - 1, 1 << bit, 1<<bit + 1, impl.MaxVarint - 1<<bit} {
			s := impl.EncodeVarint(n)
			if valid := 0 <= n && n <= impl.MaxVarint; valid != (s != "") {
				t.Errorf("EncodeVarint(%d) = %q", n, s)
			} else if valid {
				if got, size := impl.DecodeVarint(s + "z"); got != n || size != len(s) {
					t.Errorf("%d comes back as %d from %d of %d bytes", n, got, size, len(s))
				}
			}
		}
	}
	number := map[string]int{}
	for n := range 1 << 14 {
		number[impl.EncodeVarint(n)] = n
	}
	for _, s := range stringsOver(allBytes(), 2) {
		n, size := 0, 0
		for end := 1; end <= len(s); end++ {
			if m, ok := number[s[:end]]; ok {
				n, size = m, end
			}
		}
		if gotN, gotSize := impl.DecodeVarint(s); gotN != n || gotSize != size {
			t.Fatalf("DecodeVarint(%q) = %d, %d, want %d, %d", s, gotN, gotSize, n, size)
		}
	}
}

func TestEncodeHex(t *testing.T) {
	for s, want := range map[string]string{
		"":                 "",
		"a\xff":            "61ff",
		"\x00\x0f\xf0":     "000ff0",
		"\xc3\xa9":         "c3a9",
		"\x12\x34\xab\xcd": "1234abcd",
	} {
		if got := impl.EncodeHex(s); got != want {
			t.Errorf("EncodeHex(%q) = %q, want %q", s, got, want)
		}
	}
}

func TestDecodeHex(t *testing.T) {
	for s, want := range map[string]string{
		"":       "",
		"61ff":   "a\xff",
		"000ff0": "\x00\x0f\xf0",
		"c3a9":   "\xc3\xa9",
	} {
		if got, ok := impl.DecodeHex(s); got != want || !ok {
			t.Errorf("DecodeHex(%q) = %q, %v, want %q, true", s, got, ok, want)
		}
	}
	for _, s := range []string{"6", "61f", "6F", "6g", "g6", "0x", " 61", "61 ", "61\n6", "-1", "\xff\xff", "61\xff", "61\u00e9", "\u00e961", "\u0661\u0661", "\xef\xbf\xbd1", "\x006"} {
		if got, ok := impl.DecodeHex(s); got != "" || ok {
			t.Errorf("DecodeHex(%q) = %q, %v, want no value", s, got, ok)
		}
	}
}

func TestHexInverse(t *testing.T) {
	all := allBytes()
	if got, ok := impl.DecodeHex(impl.EncodeHex(all)); got != all || !ok {
		t.Errorf("all bytes come back as %q, %v", got, ok)
	}
	encoded := map[string]string{"": ""}
	for i := range len(all) {
		encoded[impl.EncodeHex(all[i:i+1])] = all[i : i+1]
	}
	for _, s := range stringsOver(all, 2) {
		want, valid := encoded[s]
		if got, ok := impl.DecodeHex(s); got != want || ok != valid {
			t.Fatalf("DecodeHex(%q) = %q, %v, want %q, %v", s, got, ok, want, valid)
		}
	}
}

func TestFormatInt(t *testing.T) {
	for n, want := range map[int]string{
		0:             "0",
		7:             "7",
		-7:            "-7",
		100:           "100",
		-120:          "-120",
		1000000000:    "1000000000",
		math.MaxInt:   "9223372036854775807",
		math.MinInt:   "-9223372036854775808",
		-math.MaxInt:  "-9223372036854775807",
		1234567890123: "1234567890123",
	} {
		if got := impl.FormatInt(n); got != want {
			t.Errorf("FormatInt(%d) = %q, want %q", n, got, want)
		}
	}
}

func TestParseInt(t *testing.T) {
	for s, want := range map[string]int{
		"0":          0,
		"7":          7,
		"-7":         -7,
		"10":         10,
		"999999999":  999999999,
		"-999999999": -999999999,
		"100000000":  100000000,
	} {
		if got, ok := impl.ParseInt(s); got != want || !ok {
			t.Errorf("ParseInt(%q) = %d, %v, want %d, true", s, got, ok, want)
		}
	}
	for _, s := range []string{"", "-", "-0", "07", "-07", "00", "+1", "--1", "1-", " 1", "1 ", "1\n", "1_0", "0x1", "1.", "1e1",
		"1000000000", "-1000000000", "0000000001", "9223372036854775807", "-9223372036854775808", "18446744073709551617",
		"\u0661", "1\u0661", "\xff", "1\xff", "1\x00"} {
		if got, ok := impl.ParseInt(s); got != 0 || ok {
			t.Errorf("ParseInt(%q) = %d, %v, want 0, false", s, got, ok)
		}
	}
}

func TestIntInverse(t *testing.T) {
	number := map[string]int{}
	for n := -99999; n <= 99999; n++ {
		s := impl.FormatInt(n)
		number[s] = n
		if got, ok := impl.ParseInt(s); got != n || !ok {
			t.Fatalf("%d comes back as %d, %v", n, got, ok)
		}
	}
	for power := 1; power <= 100000000; power *= 10 {
		for _, n := range []int{power - 1, power, -power, 9 * power, 10*power - 1, 1 - 10*power} {
			if got, ok := impl.ParseInt(impl.FormatInt(n)); got != n || !ok {
				t.Errorf("%d comes back as %d, %v", n, got, ok)
			}
		}
	}
	for _, s := range stringsOver("-+0189 :/\xff", 5) {
		want, valid := number[s]
		if got, ok := impl.ParseInt(s); got != want || ok != valid {
			t.Fatalf("ParseInt(%q) = %d, %v, want %d, %v", s, got, ok, want, valid)
		}
	}
}
