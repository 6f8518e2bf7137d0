package wire_test

import (
	"hash/crc32"
	"math/rand"
	"strings"
	"testing"

	"dialtone/wire"
)

// bitwiseSum is the checksum, bit by bit, as the chapter defines it.
func bitwiseSum(s string) int {
	register := uint32(0xFFFFFFFF)
	for _, b := range []byte(s) {
		register ^= uint32(b)
		for range 8 {
			out := register & 1
			register >>= 1
			if out == 1 {
				register ^= 0x82F63B78
			}
		}
	}
	return int(^register)
}

// randomString returns a string of that many bytes.
func randomString(r *rand.Rand, length int) string {
	s := make([]byte, length)
	r.Read(s)
	return string(s)
}

// P1.3: sums that are known.
func TestP1_3Known(t *testing.T) {
	for s, want := range map[string]int{
		"":                         0,
		"a":                        0xC1D04330,
		"123456789":                3808858755,
		strings.Repeat("\x00", 32): 0x8A9136AA,
		strings.Repeat("\xff", 32): 0x62A8AB43,
	} {
		if got := wire.Sum(s); got != want {
			t.Errorf("Sum(%q) = %x, want %x", s, got, want)
		}
	}
}

// P1.3: every byte, and strings of many lengths, against the definition.
func TestP1_3Definition(t *testing.T) {
	r := rand.New(rand.NewSource(3))
	var l []string
	for b := 0; b < 256; b++ {
		l = append(l, string([]byte{byte(b)}))
	}
	for length := 0; length <= 300; length++ {
		l = append(l, randomString(r, length))
	}
	l = append(l, randomString(r, 1<<16), randomString(r, 1<<20))
	for _, s := range l {
		got := wire.Sum(s)
		if got != bitwiseSum(s) || got != int(crc32.Checksum([]byte(s), crc32.MakeTable(crc32.Castagnoli))) {
			t.Errorf("Sum of %d bytes (%.20x) = %x, want %x", len(s), s, got, bitwiseSum(s))
		}
		if got < 0 || got > 4294967295 {
			t.Errorf("Sum of %d bytes = %d", len(s), got)
		}
	}
}

// flip inverts the bits of s from the bit first on which are set in the pattern;
// the bits of each byte are counted from the lowest one.
func flip(s string, first int, pattern uint32) string {
	l := []byte(s)
	for i := range 32 {
		if pattern>>i&1 == 1 {
			l[(first+i)/8] ^= 1 << ((first + i) % 8)
		}
	}
	return string(l)
}

// P1.4: a change of at most 32 consecutive bits changes the sum.
func TestP1_4Bursts(t *testing.T) {
	r := rand.New(rand.NewSource(4))
	for _, length := range []int{1, 2, 3, 4, 5, 8, 13, 40} {
		s := randomString(r, length)
		sum := wire.Sum(s)
		for first := range 8 * length {
			for width := 1; width <= 32 && first+width <= 8*length; width++ {
				ends := uint32(1) | 1<<(width-1)
				within := uint32(1)<<width - 1
				for _, middle := range []uint32{0, within, r.Uint32(), r.Uint32(), r.Uint32()} {
					if changed := flip(s, first, ends|middle&within); wire.Sum(changed) == sum {
						t.Fatalf("%x and %x have the same sum", s, changed)
					}
				}
			}
		}
	}
}
