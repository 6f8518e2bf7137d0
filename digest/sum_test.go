package digest_test

import (
	"crypto/sha256"
	"encoding/hex"
	"math/rand"
	"strings"
	"testing"

	"dialtone/digest"
)

// sha is the SHA-256 of the parts, one after the other, from Go's library.
func sha(parts ...string) string {
	sum := sha256.Sum256([]byte(strings.Join(parts, "")))
	return string(sum[:])
}

// randomString returns a string of that many bytes.
func randomString(r *rand.Rand, length int) string {
	s := make([]byte, length)
	r.Read(s)
	return string(s)
}

// oddStrings are strings that an encoding without marks or lengths could confuse.
func oddStrings() []string {
	zero := strings.Repeat("\x00", 32)
	return []string{
		"", "a", "b", "ab", "\x00", "\x01", "\x02", "\x80", "\x00a", "\x02a", zero, zero + "a",
		digest.Sum(""), digest.Leaf("a"), digest.Leaf("a") + digest.Leaf("b"),
		"\x01" + digest.Leaf("a") + digest.Leaf("b"), digest.Chain(zero, "a"),
		strings.Repeat("x", 63), strings.Repeat("x", 64), strings.Repeat("x", 65), strings.Repeat("x", 200),
	}
}

// P2.1: sums that are known, and those that the chapter names.
func TestP2_1KnownSums(t *testing.T) {
	for s, want := range map[string]string{
		"":    "e3b0c44298fc1c149afbf4c8996fb92427ae41e4649b934ca495991b7852b855",
		"abc": "ba7816bf8f01cfea414140de5dae2223b00361a396177a9cb410ff61f20015ad",
		"abcdbcdecdefdefgefghfghighijhijkijkljklmklmnlmnomnopnopq": "248d6a61d20638b8e5c026930c3e6039a33ce45964ff2167f6ecedd419db06c1",
		strings.Repeat("a", 1000000):                               "cdc76e5c9914fb9281a1c7e284d73e67f1809a48a497200e046d39ccc7112cd0",
	} {
		if got := hex.EncodeToString([]byte(digest.Sum(s))); got != want {
			t.Errorf("Sum(%.60q) = %s, want %s", s, got, want)
		}
	}
	if got := hex.EncodeToString([]byte(digest.Leaf("abc"))); got != "609f6e36d2405585188d5cfd761f407c7cc46a7d3f314c88270469dde315fcd1" {
		t.Errorf("Leaf(abc) = %s", got)
	}
}

// P2.1: every byte, every length around the ends of blocks, and long strings.
func TestP2_1Sums(t *testing.T) {
	r := rand.New(rand.NewSource(1))
	l := oddStrings()
	for b := range 256 {
		l = append(l, string([]byte{byte(b)}))
	}
	for length := range 400 {
		l = append(l, randomString(r, length), strings.Repeat("\x00", length), strings.Repeat("\xff", length))
	}
	for _, length := range []int{1 << 16, 1<<20 + 55, 1<<20 + 56, 1<<20 + 63} {
		l = append(l, randomString(r, length))
	}
	for _, s := range l {
		if got, want := digest.Sum(s), sha(s); got != want {
			t.Errorf("Sum of %d bytes (%.20x) = %x, want %x", len(s), s, got, want)
		}
	}
}

// P2.1: Chain, Leaf and Node of any strings, digests or not.
func TestP2_1Marks(t *testing.T) {
	for _, a := range oddStrings() {
		if got := digest.Leaf(a); got != sha("\x00", a) {
			t.Errorf("Leaf(%.20q) = %x", a, got)
		}
		for _, b := range oddStrings() {
			if got := digest.Chain(a, b); got != sha("\x02", a, b) {
				t.Errorf("Chain(%.20q, %.20q) = %x", a, b, got)
			}
			if got := digest.Node(a, b); got != sha("\x01", a, b) {
				t.Errorf("Node(%.20q, %.20q) = %x", a, b, got)
			}
		}
	}
}

// headOf is the head of a list of records.
func headOf(records []string) string {
	head := strings.Repeat("\x00", 32)
	for _, record := range records {
		head = digest.Chain(head, record)
	}
	return head
}

// P2.3: different lists of records have different heads.
func TestP2_3Heads(t *testing.T) {
	lists := [][]string{nil}
	for _, a := range oddStrings() {
		lists = append(lists, []string{a})
		for _, b := range oddStrings() {
			lists = append(lists, []string{a, b})
			for _, c := range oddStrings() {
				lists = append(lists, []string{a, b, c})
			}
		}
	}
	seen := map[string][]string{}
	for _, records := range lists {
		head := headOf(records)
		if other, ok := seen[head]; ok {
			t.Errorf("%q and %q have the same head", records, other)
		}
		seen[head] = records
	}
}
