package digest

import (
	"math/bits"

	"dialtone/api"
)

// firstHalf returns how many of n entries, two or more, are under the first of
// the two halves of their tree: the greatest power of two that is less than n.
func firstHalf(n int) int {
	return 1 << (bits.Len(uint(n-1)) - 1)
}

// Root returns the root of l.
func Root(l []string) string {
	switch len(l) {
	case 0:
		return Sum("")
	case 1:
		return Leaf(l[0])
	}
	k := firstHalf(len(l))
	return Node(Root(l[:k]), Root(l[k:]))
}

// Proof returns the proof of the entry with the index i in l, or ErrArg if there
// is no such entry.
func Proof(l []string, i int) ([]string, api.Errno) {
	if i < 0 || i >= len(l) {
		return nil, api.ErrArg
	}
	return proofOf(l, i), api.OK
}

// proofOf is Proof for an entry that there is.
func proofOf(l []string, i int) []string {
	if len(l) == 1 {
		return nil
	}
	k := firstHalf(len(l))
	if i < k {
		return append(proofOf(l[:k], i), Root(l[k:]))
	}
	return append(proofOf(l[k:], i-k), Root(l[:k]))
}

// Verify reports whether the proof shows that s is the entry with the index i of
// a list with n entries and the given root.
func Verify(root string, n int, i int, s string, proof []string) bool {
	if i < 0 || i >= n || !areDigests(proof...) {
		return false
	}
	value, ok := valueOf(n, i, s, proof)
	return ok && value == root
}

// valueOf returns the root of n entries of which s has the index i and the proof
// says the others; false if the proof has too few or too many elements.
func valueOf(n int, i int, s string, proof []string) (string, bool) {
	if n == 1 {
		return Leaf(s), len(proof) == 0
	}
	if len(proof) == 0 {
		return "", false
	}
	rest, x := cutLast(proof)
	k := firstHalf(n)
	if i < k {
		value, ok := valueOf(k, i, s, rest)
		return Node(value, x), ok
	}
	value, ok := valueOf(n-k, i-k, s, rest)
	return Node(x, value), ok
}

// cutLast divides a proof, not empty, into the elements before the last one and this one.
func cutLast(proof []string) ([]string, string) {
	last := len(proof) - 1
	return proof[:last], proof[last]
}
