package tests

import (
	"encoding/binary"
	"encoding/hex"
	"math"
	"strconv"
	"strings"
	"testing"

	"loop.example/g03401/impl"
)

// shortStrings returns all strings of at most n letters of an alphabet of bytes.
func shortStrings(alphabet string, n int) []string {
	all := []string{""}
	last := all
	for range n {
		var next []string
		for _, s := range last {
			for i := range len(alphabet) {
				next = append(next, s+alphabet[i:i+1])
			}
		}
		all = append(all, next...)
		last = next
	}
	return all
}

func allBytes() string {
	b := make([]byte, 256)
	for i := range b {
		b[i] = byte(i)
	}
	return string(b)
}

// bitEdges returns the numbers beside the powers of 2, and both ends of int.
func bitEdges() []int {
	l := []int{math.MinInt, math.MinInt + 1, math.MaxInt}
	for i := range 63 {
		p := 1 << i
		l = append(l, p-1, p, p+1, 1-p, -p, -p-1)
	}
	return l
}

// bigEndian is EncodeFixed by the standard library.
func bigEndian(n int, width int) string {
	if width < 1 || width > 7 || n < 0 || n>>(8*width) != 0 {
		return ""
	}
	b := binary.BigEndian.AppendUint64(nil, uint64(n))
	return string(b[8-width:])
}

func TestEncodeFixedWritesBigEndian(t *testing.T) {
	for width := -3; width <= 12; width++ {
		for _, n := range bitEdges() {
			if got, want := impl.EncodeFixed(n, width), bigEndian(n, width); got != want {
				t.Errorf("EncodeFixed(%d, %d) = %q, want %q", n, width, got, want)
			}
		}
	}
	for _, width := range []int{math.MinInt, math.MaxInt, 64, 1 << 32} {
		if got := impl.EncodeFixed(0, width); got != "" {
			t.Errorf("EncodeFixed(0, %d) = %q", width, got)
		}
	}
}

func TestDecodeFixedInvertsEncodeFixed(t *testing.T) {
	for width := 1; width <= 7; width++ {
		for _, n := range bitEdges() {
			s := impl.EncodeFixed(n, width)
			if s == "" {
				continue
			}
			for _, behind := range []string{"", "\x00", "\xff\x80"} {
				if got, ok := impl.DecodeFixed(s+behind, width); got != n || !ok {
					t.Errorf("DecodeFixed(%q, %d) = %d, %v, want %d", s+behind, width, got, ok, n)
				}
			}
			if got, ok := impl.DecodeFixed(s[1:], width); got != 0 || ok {
				t.Errorf("DecodeFixed(%q, %d) = %d, %v: too short", s[1:], width, got, ok)
			}
		}
	}
	for n := range 1 << 16 {
		if got, ok := impl.DecodeFixed(impl.EncodeFixed(n, 2), 2); got != n || !ok {
			t.Fatalf("two bytes of %d are read as %d, %v", n, got, ok)
		}
	}
}

func TestEncodeFixedInvertsDecodeFixed(t *testing.T) {
	for _, s := range shortStrings("\x00\x01\x7f\x80\xff", 7) {
		n, ok := impl.DecodeFixed(s, len(s))
		if ok != (s != "") || impl.EncodeFixed(n, len(s)) != s {
			t.Fatalf("DecodeFixed(%q, %d) = %d, %v", s, len(s), n, ok)
		}
	}
}

func TestDecodeFixedRefusesWidths(t *testing.T) {
	long := strings.Repeat("\x01", 70)
	for _, width := range []int{math.MinInt, -8, -1, 0, 8, 9, 64, math.MaxInt} {
		for _, s := range []string{"", "\x01", long} {
			if n, ok := impl.DecodeFixed(s, width); n != 0 || ok {
				t.Errorf("DecodeFixed of %d bytes, width %d = %d, %v", len(s), width, n, ok)
			}
		}
	}
}

func TestMaxVarint(t *testing.T) {
	if impl.MaxVarint != 562949953421311 {
		t.Error(impl.MaxVarint)
	}
}

func TestEncodeVarintWritesLEB128(t *testing.T) {
	check := func(n int) {
		want := ""
		if n >= 0 && n <= impl.MaxVarint {
			want = string(binary.AppendUvarint(nil, uint64(n)))
		}
		if got := impl.EncodeVarint(n); got != want {
			t.Fatalf("EncodeVarint(%d) = %q, want %q", n, got, want)
		}
	}
	for n := -300; n <= 70000; n++ {
		check(n)
	}
	for _, n := range bitEdges() {
		check(n)
	}
}

func TestDecodeVarintInvertsEncodeVarint(t *testing.T) {
	check := func(n int) {
		s := impl.EncodeVarint(n)
		for _, behind := range []string{"", "\x00", "\x80", "\xff\x7f"} {
			if got, k := impl.DecodeVarint(s + behind); got != n || k != len(s) {
				t.Fatalf("DecodeVarint(%q) = %d, %d, want %d, %d", s+behind, got, k, n, len(s))
			}
		}
		for i := range len(s) {
			if got, k := impl.DecodeVarint(s[:i]); got != 0 || k != 0 {
				t.Fatalf("DecodeVarint(%q) = %d, %d: cut off", s[:i], got, k)
			}
		}
	}
	for n := range 70000 {
		check(n)
	}
	for _, n := range bitEdges() {
		if n >= 0 && n <= impl.MaxVarint {
			check(n)
		}
	}
}

// varintPrefix looks for the prefix of s that is a varint among the encodings themselves.
func varintPrefix(s string) (int, int) {
	v, k := binary.Uvarint([]byte(s))
	if k <= 0 || v > impl.MaxVarint {
		return 0, 0
	}
	if shortest := binary.AppendUvarint(nil, v); string(shortest) != s[:k] {
		return 0, 0
	}
	return int(v), k
}

func TestDecodeVarintReadsOnlyVarints(t *testing.T) {
	for _, s := range shortStrings("\x00\x01\x7f\x80\x81\xff", 7) {
		wantN, wantK := varintPrefix(s)
		if n, k := impl.DecodeVarint(s); n != wantN || k != wantK {
			t.Fatalf("DecodeVarint(%q) = %d, %d, want %d, %d", s, n, k, wantN, wantK)
		}
	}
}

func TestDecodeVarintRefusesUnnecessaryBytes(t *testing.T) {
	for _, s := range []string{
		"\x80\x00", "\x81\x00", "\xff\x00", "\xac\x82\x00", "\x80\x80\x00", "\x80\x80\x80\x00",
		"\xff\xff\xff\xff\xff\xff\x00",
		"\xff\xff\xff\xff\xff\xff\xff\x00",
		"\x80\x80\x80\x80\x80\x80\x80\x80\x80\x80\x00",
	} {
		if n, k := impl.DecodeVarint(s); n != 0 || k != 0 {
			t.Errorf("DecodeVarint(%q) = %d, %d", s, n, k)
		}
	}
}

func TestDecodeVarintRefusesTooGreat(t *testing.T) {
	for _, s := range []string{
		"\x80\x80\x80\x80\x80\x80\x80\x01", // MaxVarint + 1
		"\xff\xff\xff\xff\xff\xff\xff\x7f",
		"\xff\xff\xff\xff\xff\xff\xff\xff\x7f",
		"\xff\xff\xff\xff\xff\xff\xff\xff\xff\x01",
		strings.Repeat("\x80", 7),
		strings.Repeat("\xff", 100) + "\x01",
	} {
		if n, k := impl.DecodeVarint(s); n != 0 || k != 0 {
			t.Errorf("DecodeVarint(%q) = %d, %d", s, n, k)
		}
	}
	if n, k := impl.DecodeVarint("\xff\xff\xff\xff\xff\xff\x7f"); n != impl.MaxVarint || k != 7 {
		t.Errorf("MaxVarint is read as %d, %d", n, k)
	}
}

func TestHexOfEachByte(t *testing.T) {
	all := allBytes()
	for i := range len(all) {
		s := all[i : i+1]
		h := impl.EncodeHex(s)
		if h != hex.EncodeToString([]byte(s)) {
			t.Errorf("EncodeHex(%q) = %q", s, h)
		}
		if got, ok := impl.DecodeHex(h); got != s || !ok {
			t.Errorf("DecodeHex(%q) = %q, %v", h, got, ok)
		}
	}
}

func TestDecodeHexInvertsEncodeHex(t *testing.T) {
	all := allBytes()
	for _, s := range []string{"", "a\xff", "\x00\x00", "Ünï ☃ \U0001F333", "\xed\xa0\x80", all, strings.Repeat(all, 50)} {
		h := impl.EncodeHex(s)
		if h != hex.EncodeToString([]byte(s)) {
			t.Errorf("EncodeHex(%q) = %q", s, h)
		}
		if got, ok := impl.DecodeHex(h); got != s || !ok {
			t.Errorf("DecodeHex(%q) = %q, %v", h, got, ok)
		}
	}
}

func TestDecodeHexReadsOnlyHex(t *testing.T) {
	all := allBytes()
	for i := range len(all) {
		for j := range len(all) {
			s := all[i:i+1] + all[j:j+1]
			want, err := hex.DecodeString(s)
			valid := err == nil && strings.ToLower(s) == s
			if !valid {
				want = nil
			}
			if got, ok := impl.DecodeHex(s); got != string(want) || ok != valid {
				t.Fatalf("DecodeHex(%q) = %q, %v, want %q, %v", s, got, ok, want, valid)
			}
		}
	}
	for _, s := range []string{
		"0", "616", "6F", "6g", "61 2", " 61", "0x61", "61\n", "-1", "61fF", "61\x00\x00",
		"é", "éé", "é1", "1é0", "\uff11\uff10", "\u0661\u0660", "61\xff\xff", "\ufffd6", "610\u00e9",
	} {
		if got, ok := impl.DecodeHex(s); got != "" || ok {
			t.Errorf("DecodeHex(%q) = %q, %v", s, got, ok)
		}
	}
}

func TestFormatInt(t *testing.T) {
	for n, want := range map[int]string{
		0: "0", 7: "7", -7: "-7", 10: "10", -120: "-120", 1000000000: "1000000000",
		math.MaxInt: "9223372036854775807", math.MinInt: "-9223372036854775808",
	} {
		if got := impl.FormatInt(n); got != want {
			t.Errorf("FormatInt(%d) = %q", n, got)
		}
	}
	for _, n := range bitEdges() {
		if got := impl.FormatInt(n); got != strconv.Itoa(n) {
			t.Errorf("FormatInt(%d) = %q", n, got)
		}
	}
}

func TestParseIntInvertsFormatInt(t *testing.T) {
	check := func(n int) {
		want, valid := n, n >= -999999999 && n <= 999999999
		if !valid {
			want = 0
		}
		if got, ok := impl.ParseInt(impl.FormatInt(n)); got != want || ok != valid {
			t.Fatalf("ParseInt of %d = %d, %v", n, got, ok)
		}
	}
	for n := -20000; n <= 20000; n++ {
		check(n)
	}
	for n := 1; n <= 1000000000; n *= 10 {
		for k := n - 2; k <= n+2; k++ {
			check(k)
			check(-k)
		}
	}
	for _, n := range bitEdges() {
		check(n)
	}
}

func TestFormatIntInvertsParseInt(t *testing.T) {
	for _, s := range shortStrings("-+0159 _.ex", 5) {
		want, err := strconv.Atoi(s)
		valid := err == nil && strconv.Itoa(want) == s
		if !valid {
			want = 0
		}
		if got, ok := impl.ParseInt(s); got != want || ok != valid {
			t.Fatalf("ParseInt(%q) = %d, %v, want %d, %v", s, got, ok, want, valid)
		}
	}
}

func TestParseIntRefuses(t *testing.T) {
	for _, s := range []string{
		"", "-", "--", "-0", "00", "01", "07", "-07", "+1", "--1", "1-", "1-1", " 1", "1 ", "1\n", "1\x00", "0x1", "1_0", "1e3", "1.0",
		"1000000000", "-1000000000", "0000000001", "-000000001", "9223372036854775808", "18446744073709551617",
		"\u0661", "\uff11", "-\u0661", "1\xff", "\xff", "\u22121", "1é",
		strings.Repeat("0", 1000), strings.Repeat("9", 100), "-" + strings.Repeat("1", 64),
	} {
		if n, ok := impl.ParseInt(s); n != 0 || ok {
			t.Errorf("ParseInt(%q) = %d, %v", s, n, ok)
		}
	}
}
