package wire_test

import (
	"math"
	"math/rand"
	"slices"
	"strings"
	"testing"
	"unsafe"

	"dialtone/api"
	"dialtone/wire"
)

// putInt is PutInt for integers that have an encoding.
func putInt(t *testing.T, n int) string {
	t.Helper()
	s, err := wire.PutInt(n)
	if err != api.OK {
		t.Fatalf("PutInt(%d): error %d", n, err)
	}
	return s
}

// putString is PutString for strings that have an encoding.
func putString(t *testing.T, s string) string {
	t.Helper()
	code, err := wire.PutString(s)
	if err != api.OK {
		t.Fatalf("PutString of %d bytes: error %d", len(s), err)
	}
	return code
}

// sampleInts are all small integers, and those around every power of 2.
func sampleInts() []int {
	var l []int
	for n := -20000; n <= 20000; n++ {
		l = append(l, n)
	}
	for shift := 15; shift <= 62; shift++ {
		for d := -2; d <= 2; d++ {
			if n := 1<<shift + d; n <= api.MaxInt {
				l = append(l, n, -n)
			}
		}
	}
	return l
}

// readInt checks what Int answers.
func readInt(t *testing.T, s string, at, n, next int, err api.Errno) {
	t.Helper()
	m, end, e := wire.Int(s, at)
	if m != n || end != next || e != err {
		t.Errorf("Int(%.40q, %d) = %d, %d, error %d; want %d, %d, error %d", s, at, m, end, e, n, next, err)
	}
}

// readString checks what String answers.
func readString(t *testing.T, s string, at int, want string, next int, err api.Errno) {
	t.Helper()
	got, end, e := wire.String(s, at)
	if got != want || end != next || e != err {
		t.Errorf("String(%.40q, %d) = %.40q, %d, error %d; want %.40q, %d, error %d", s, at, got, end, e, want, next, err)
	}
}

// P1.1: the encodings that the chapter names, and those where the number of bytes changes.
func TestP1_1Encodings(t *testing.T) {
	for _, c := range []struct {
		n    int
		code string
	}{
		{0, "\x00"}, {-1, "\x01"}, {1, "\x02"}, {-2, "\x03"}, {2, "\x04"},
		{63, "\x7e"}, {-64, "\x7f"}, {64, "\x80\x01"}, {-65, "\x81\x01"}, {150, "\xac\x02"},
		{8191, "\xfe\x7f"}, {-8192, "\xff\x7f"}, {8192, "\x80\x80\x01"}, {-8193, "\x81\x80\x01"},
		{1<<55 - 1, "\xfe\xff\xff\xff\xff\xff\xff\x7f"}, {1 << 55, "\x80\x80\x80\x80\x80\x80\x80\x80\x01"},
		{api.MaxInt, "\xfe\xff\xff\xff\xff\xff\xff\xff\x7f"}, {-api.MaxInt, "\xfd\xff\xff\xff\xff\xff\xff\xff\x7f"},
	} {
		if got := putInt(t, c.n); got != c.code {
			t.Errorf("PutInt(%d) = %x, want %x", c.n, got, c.code)
		}
		readInt(t, c.code, 0, c.n, len(c.code), api.OK)
	}
}

// P1.1: the encoding as the chapter defines it, computed in another way.
func TestP1_1Definition(t *testing.T) {
	for _, n := range sampleInts() {
		z := 2 * n
		if n < 0 {
			z = -2*n - 1
		}
		var code []byte
		for first := true; first || z > 0; first = false {
			code = append(code, byte(z&127))
			z >>= 7
		}
		for i := range code[:len(code)-1] {
			code[i] += 128
		}
		if got := putInt(t, n); got != string(code) {
			t.Errorf("PutInt(%d) = %x, want %x", n, got, code)
		}
	}
}

func TestP1_1TooGreat(t *testing.T) {
	for _, n := range []int{api.MaxInt + 1, -api.MaxInt - 1, math.MaxInt, math.MinInt} {
		if s, err := wire.PutInt(n); s != "" || err != api.ErrWire {
			t.Errorf("PutInt(%d) = %x, error %d; want ErrWire", n, s, err)
		}
	}
}

// P1.1: an offset that is none, also where no encoding could begin.
func TestP1_1Offsets(t *testing.T) {
	for _, s := range []string{"", "\x02", "\x80", "\x80\x00"} {
		for _, at := range []int{-1, len(s) + 1, math.MinInt, math.MaxInt} {
			readInt(t, s, at, 0, 0, api.ErrArg)
		}
		readInt(t, s, len(s), 0, 0, api.ErrWire)
	}
	readInt(t, "\x00\x80\x02", 0, 0, 1, api.OK)
	readInt(t, "\x00\x80\x02", 1, 128, 3, api.OK)
	readInt(t, "\x00\x80\x02", 2, 1, 3, api.OK)
}

func TestP1_1Rejected(t *testing.T) {
	high := strings.Repeat("\xff", 8)
	for _, s := range []string{
		"\x80", "\xff", high, high + "\xff", strings.Repeat("\x80", 1000),
		"\x80\x00", "\x81\x00", "\xff\x80\x00", high + "\x00",
		high + "\x7f", high + "\x80\x01", high + "\xff\x00", high + "\xff\x01",
		strings.Repeat("\x80", 9) + "\x01", strings.Repeat("\x80", 9) + "\x00", strings.Repeat("\x80", 9) + "\x02",
		strings.Repeat("\x80", 10) + "\x01",
		strings.Repeat("\x80", 1000) + "\x01",
	} {
		readInt(t, s, 0, 0, 0, api.ErrWire)
		readInt(t, "\x02"+s, 1, 0, 0, api.ErrWire)
	}
}

// P1.2: strings of lengths where the encoding of the length changes.
func TestP1_2Encodings(t *testing.T) {
	for _, length := range []int{0, 1, 2, 63, 64, 65, 8191, 8192, 65535, 65536} {
		s := strings.Repeat("\x80", length)
		want := putInt(t, length) + s
		if got := putString(t, s); got != want {
			t.Errorf("PutString of %d bytes = %.20x, want %.20x", length, got, want)
		}
		readString(t, want, 0, s, len(want), api.OK)
		readString(t, "a"+want+"b", 1, s, len(want)+1, api.OK)
	}
	if got := putString(t, "ab"); got != "\x04ab" {
		t.Errorf("PutString(ab) = %x", got)
	}
	readString(t, "\x04abc", 0, "ab", 3, api.OK)
	readString(t, "\x00", 0, "", 1, api.OK)
	if got := putString(t, "é\x00\xff"); got != "\x08é\x00\xff" {
		t.Errorf("lengths count bytes: %x", got)
	}
}

func TestP1_2TooLong(t *testing.T) {
	for _, length := range []int{api.MaxString + 1, 2 * api.MaxString, 1 << 20} {
		long := strings.Repeat("x", length)
		if s, err := wire.PutString(long); s != "" || err != api.ErrWire {
			t.Errorf("PutString of %d bytes: %d bytes, error %d; want ErrWire", length, len(s), err)
		}
		readString(t, putInt(t, length)+long, 0, "", 0, api.ErrWire)
	}
}

func TestP1_2Offsets(t *testing.T) {
	for _, s := range []string{"", "\x02a", "\x02", "\x01", "\x80\x00"} {
		for _, at := range []int{-1, len(s) + 1, math.MinInt, math.MaxInt} {
			readString(t, s, at, "", 0, api.ErrArg)
		}
		readString(t, s, len(s), "", 0, api.ErrWire)
	}
}

func TestP1_2Rejected(t *testing.T) {
	for _, s := range []string{
		"\x04a", "\x04", "\x02", "\x80\x01" + strings.Repeat("a", 63),
		"\x01", "\x01a", "\x03ab", "\x80", "\x80\x00", "\x84\x00ab",
		putInt(t, api.MaxString) + strings.Repeat("a", api.MaxString-1),
		putInt(t, api.MaxInt) + "a", putInt(t, -api.MaxInt) + "a",
		"\xff\xff\xff\xff\xff\xff\xff\xff\x7f",
	} {
		readString(t, s, 0, "", 0, api.ErrWire)
		readString(t, "\x00"+s, 1, "", 0, api.ErrWire)
	}
}

// R3: a result shares no memory with an argument.
func TestP1_2NewMemory(t *testing.T) {
	code := putString(t, "abc")
	s, _, _ := wire.String(code, 0)
	if unsafe.StringData(s) == unsafe.StringData(code[1:]) {
		t.Error("the result of String is a part of its argument")
	}
}

// P1.4: encodings are decoded to what was encoded, whatever surrounds them.
func TestP1_4Surrounded(t *testing.T) {
	around := []string{"", "\x00", "\x7f", "\x80", "\xff", "\x80\x80\x80", strings.Repeat("\xff", 12)}
	for _, n := range sampleInts() {
		code := putInt(t, n)
		for _, before := range around {
			for _, after := range around {
				readInt(t, before+code+after, len(before), n, len(before)+len(code), api.OK)
			}
		}
	}
	for _, s := range append(around, strings.Repeat("\x80", 100)) {
		code := putString(t, s)
		for _, before := range around {
			for _, after := range around {
				readString(t, before+code+after, len(before), s, len(before)+len(code), api.OK)
			}
		}
	}
}

// prefixFree checks that the codes differ, and that none of them begins another one.
func prefixFree(t *testing.T, codes []string) {
	t.Helper()
	slices.Sort(codes)
	for i := 1; i < len(codes); i++ {
		if strings.HasPrefix(codes[i], codes[i-1]) {
			t.Errorf("%x begins %x", codes[i-1], codes[i])
		}
	}
}

func TestP1_4PrefixFree(t *testing.T) {
	ints := sampleInts()
	slices.Sort(ints)
	var codes []string
	for _, n := range slices.Compact(ints) {
		codes = append(codes, putInt(t, n))
	}
	prefixFree(t, codes)
	codes = nil
	for a := 0; a < 256; a++ {
		codes = append(codes, putString(t, string([]byte{byte(a)})))
		for b := 0; b < 256; b++ {
			codes = append(codes, putString(t, string([]byte{byte(a), byte(b)})))
		}
	}
	prefixFree(t, append(codes, putString(t, "")))
}

// acceptedIsEncoded checks that what Int and String accept at the start of s is
// what PutInt and PutString return.
func acceptedIsEncoded(t *testing.T, s string) {
	t.Helper()
	if n, next, err := wire.Int(s, 0); err == api.OK && putInt(t, n) != s[:next] {
		t.Errorf("Int accepts %x as %d", s, n)
	}
	if u, next, err := wire.String(s, 0); err == api.OK && putString(t, u) != s[:next] {
		t.Errorf("String accepts %x as %q", s, u)
	}
}

func TestP1_4AcceptedIsEncoded(t *testing.T) {
	for n := 0; n < 1<<16; n++ {
		a, b := byte(n), byte(n>>8)
		acceptedIsEncoded(t, string([]byte{a}))
		acceptedIsEncoded(t, string([]byte{a, b}))
		for _, c := range []byte{0, 1, 2, 127, 128, 129, 255} {
			acceptedIsEncoded(t, string([]byte{a, b, c}))
			acceptedIsEncoded(t, string([]byte{a | 128, b | 128, c | 128, 0}))
			acceptedIsEncoded(t, string([]byte{a | 128, b | 128, c | 128, 1}))
		}
	}
	r := rand.New(rand.NewSource(1))
	for range 200000 {
		s := make([]byte, 1+r.Intn(12))
		for i := range s {
			s[i] = byte(r.Intn(256)) | 128
		}
		s[len(s)-1] = []byte{0, 1, 0x3f, 0x40, 0x7f, 0x80}[r.Intn(6)]
		acceptedIsEncoded(t, string(s))
	}
}

// P1.4: a concatenation of encodings is decoded to what was encoded, in order.
func TestP1_4Concatenation(t *testing.T) {
	ints := sampleInts()
	r := rand.New(rand.NewSource(2))
	for range 200 {
		var wantInts []int
		var wantStrings []string
		var all strings.Builder
		for range 50 {
			n := ints[r.Intn(len(ints))]
			s := strings.Repeat(string([]byte{byte(r.Intn(256))}), r.Intn(100))
			wantInts, wantStrings = append(wantInts, n), append(wantStrings, s)
			all.WriteString(putInt(t, n) + putString(t, s))
		}
		at := 0
		for i := range wantInts {
			n, next, err := wire.Int(all.String(), at)
			if n != wantInts[i] || err != api.OK {
				t.Fatalf("integer %d = %d, error %d; want %d", i, n, err, wantInts[i])
			}
			s, end, err := wire.String(all.String(), next)
			if s != wantStrings[i] || err != api.OK {
				t.Fatalf("string %d = %x, error %d; want %x", i, s, err, wantStrings[i])
			}
			at = end
		}
		if at != all.Len() {
			t.Fatalf("%d bytes were decoded of %d", at, all.Len())
		}
	}
}
