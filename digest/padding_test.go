package digest

import (
	"encoding/binary"
	"strings"
	"testing"
)

// P2.1: the padding of strings of all lengths up to some blocks, and of lengths
// of which the number of bits needs more than 32 bits, without such strings.
func TestP2_1Padding(t *testing.T) {
	var lengths []int
	for n := range 300 {
		lengths = append(lengths, n)
	}
	for _, n := range []int{1<<29 - 1, 1 << 29, 1<<29 + 3, 1<<31 - 1} {
		lengths = append(lengths, n)
	}
	for _, n := range lengths {
		want := "\x80"
		for (n+len(want))%64 != 56 {
			want += "\x00"
		}
		want += string(binary.BigEndian.AppendUint64(nil, 8*uint64(n)))
		if got := padding(n); got != want {
			t.Errorf("padding of %d bytes: %x, want %x", n, got, want)
		}
	}
}

// P2.1: a range over blocks that is left early, and bytes that fill no block.
func TestP2_1Blocks(t *testing.T) {
	s := strings.Repeat("a", blockSize) + strings.Repeat("b", blockSize) + "c"
	for _, parts := range [][]string{{s}, {"", s, ""}, {s[:1], s[1:100], s[100:]}, {s[:64], s[64:128], s[128:]}} {
		var all []string
		for block := range blocks(parts...) {
			all = append(all, string(block[:]))
		}
		if len(all) != 2 || all[0]+all[1] != s[:2*blockSize] {
			t.Errorf("blocks of %q: %q", parts, all)
		}
		for block := range blocks(parts...) {
			if string(block[:]) != s[:blockSize] {
				t.Errorf("first block of %q: %q", parts, block)
			}
			break
		}
	}
}
