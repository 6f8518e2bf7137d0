package digest_test

import (
	"math"
	"math/bits"
	"math/rand"
	"slices"
	"strings"
	"testing"

	"dialtone/api"
	"dialtone/digest"
)

// wantExtension is the proof that a list with these levels of its tree begins with
// its first m entries: first the whole part that ends the old entries, unless it
// is all of them, and then what the way up from it meets.
func wantExtension(all [][]string, m int) []string {
	if m == 0 || m == len(all[0]) {
		return nil
	}
	level, at := 0, m-1
	for at%2 == 1 {
		level, at = level+1, at/2
	}
	var proof []string
	if at > 0 {
		proof = append(proof, all[level][at])
	}
	for ; level < len(all); level++ {
		if at^1 < len(all[level]) {
			proof = append(proof, all[level][at^1])
		}
		at /= 2
	}
	return proof
}

// isPower says whether n is a power of two.
func isPower(n int) bool {
	return bits.OnesCount(uint(n)) == 1
}

// acceptsExtension is VerifyExtension for m from 1 to n - 1, by the binary digits
// of the indices of the last old entry and of the last one.
func acceptsExtension(old string, m int, root string, n int, proof []string) bool {
	for _, x := range append([]string{old, root}, proof...) {
		if len(x) != 32 {
			return false
		}
	}
	at, last := m-1, n-1
	for at%2 == 1 {
		at, last = at/2, last/2
	}
	if isPower(m) {
		proof = append([]string{old}, proof...)
	}
	if len(proof) == 0 {
		return false
	}
	first, second := proof[0], proof[0]
	for _, x := range proof[1:] {
		if last == 0 {
			return false
		}
		if at%2 == 1 || at == last {
			for at%2 == 0 {
				at, last = at/2, last/2
			}
			first, second = sha("\x01", x, first), sha("\x01", x, second)
		} else {
			second = sha("\x01", second, x)
		}
		at, last = at/2, last/2
	}
	return last == 0 && first == old && second == root
}

func TestP2_1Extensions(t *testing.T) {
	for _, n := range sizes() {
		l := entries(n)
		all := levels(l)
		for m := 0; m <= n; m++ {
			got, err := digest.Extension(l, m)
			if want := wantExtension(all, m); err != api.OK || !slices.Equal(got, want) {
				t.Errorf("Extension of %d to %d entries: %x, error %d; want %x", m, n, got, err, want)
			}
		}
	}
	three, err := digest.Extension([]string{"a", "b", "c"}, 1)
	if err != api.OK || !slices.Equal(three, []string{digest.Leaf("b"), digest.Leaf("c")}) {
		t.Errorf("Extension of 1 to three entries: %x, error %d", three, err)
	}
}

func TestP2_1NoExtension(t *testing.T) {
	for _, n := range []int{0, 1, 2, 3, 7} {
		for _, m := range []int{-1, n + 1, n + 2, math.MinInt, math.MaxInt} {
			if proof, err := digest.Extension(entries(n), m); len(proof) != 0 || err != api.ErrArg {
				t.Errorf("Extension of %d to %d entries: %x, error %d; want ErrArg", m, n, proof, err)
			}
		}
	}
}

// P2.1: proofs for other lengths and roots, and proofs that were changed.
func TestP2_1VerifyExtension(t *testing.T) {
	r := rand.New(rand.NewSource(4))
	for n := 2; n <= 17; n++ {
		l := entries(n)
		root := digest.Root(l)
		for m := 1; m < n; m++ {
			proof, _ := digest.Extension(l, m)
			old := digest.Root(l[:m])
			for otherN := 2; otherN <= n+3; otherN++ {
				for otherM := 1; otherM < otherN; otherM++ {
					got := digest.VerifyExtension(old, otherM, root, otherN, proof)
					if got != acceptsExtension(old, otherM, root, otherN, proof) {
						t.Errorf("the proof of %d and %d entries, for %d and %d: %v", m, n, otherM, otherN, got)
					}
				}
			}
			for k := 0; k <= n; k++ {
				if digest.VerifyExtension(digest.Root(l[:k]), m, root, n, proof) != (k == m) {
					t.Errorf("the root of %d old entries, for %d of %d", k, m, n)
				}
				if digest.VerifyExtension(old, m, digest.Root(l[:k]), n, proof) != (k == n) {
					t.Errorf("the root of %d entries, for %d of %d", k, m, n)
				}
			}
			for _, p := range changedProofs(r, proof) {
				if digest.VerifyExtension(old, m, root, n, p) {
					t.Errorf("a changed proof of %d and %d entries is accepted", m, n)
				}
			}
		}
	}
}

// P2.1: no old entries: nothing is said of the new ones, but the arguments must have the form.
func TestP2_1ExtensionOfNothing(t *testing.T) {
	none := digest.Sum("")
	for _, n := range []int{0, 1, 2, 3, 100, math.MaxInt} {
		for _, root := range []string{none, digest.Leaf("a"), strings.Repeat("\x00", 32)} {
			if !digest.VerifyExtension(none, 0, root, n, nil) || !digest.VerifyExtension(none, 0, root, n, []string{}) {
				t.Errorf("%d entries do not begin with none", n)
			}
			if digest.VerifyExtension(none, 0, root, n, []string{root}) || digest.VerifyExtension(digest.Leaf("a"), 0, root, n, nil) {
				t.Errorf("%d entries: a wrong proof or old root is accepted", n)
			}
		}
		for _, root := range []string{"", "x", none[:31], none + "x"} {
			if digest.VerifyExtension(none, 0, root, n, nil) {
				t.Errorf("%d entries: a root of %d bytes is accepted", n, len(root))
			}
		}
	}
}

// P2.1: as many old entries as new ones: the roots must be the same, whatever they are.
func TestP2_1ExtensionByNothing(t *testing.T) {
	a, b := digest.Leaf("a"), digest.Leaf("b")
	for _, n := range []int{1, 2, 3, 4, 100, math.MaxInt} {
		if !digest.VerifyExtension(a, n, a, n, nil) {
			t.Errorf("%d entries do not begin with themselves", n)
		}
		if digest.VerifyExtension(a, n, b, n, nil) || digest.VerifyExtension(a, n, a, n, []string{a}) || digest.VerifyExtension("x", n, "x", n, nil) {
			t.Errorf("%d entries: a wrong proof or root is accepted", n)
		}
	}
}

func TestP2_1VerifyExtensionRange(t *testing.T) {
	none, a := digest.Sum(""), digest.Leaf("a")
	for _, x := range [][2]int{
		{-1, 0}, {-1, 1}, {-1, -1}, {1, 0}, {2, 1}, {0, -1}, {math.MinInt, math.MinInt}, {math.MinInt, 1},
		{math.MaxInt, 1}, {1, math.MinInt}, {0, math.MinInt}, {math.MinInt, math.MaxInt},
	} {
		for _, proof := range [][]string{nil, {a}, {a, a}} {
			if digest.VerifyExtension(a, x[0], a, x[1], proof) || digest.VerifyExtension(none, x[0], none, x[1], proof) {
				t.Errorf("%d of %d entries: accepted", x[0], x[1])
			}
		}
	}
}

// P2.1: old, root and all elements must be digests, also where Node would not mind.
func TestP2_1VerifyExtensionElements(t *testing.T) {
	a := digest.Leaf("a")
	for _, x := range []string{"", "x", a[:31], a + "x", strings.Repeat(a, 2)} {
		if digest.VerifyExtension(a, 1, digest.Node(a, x), 2, []string{x}) {
			t.Errorf("an element of %d bytes is accepted", len(x))
		}
		if digest.VerifyExtension(x, 1, digest.Node(x, a), 2, []string{a}) {
			t.Errorf("an old root of %d bytes is accepted", len(x))
		}
		if digest.VerifyExtension(digest.Node(x, a), 3, digest.Node(x, digest.Node(a, a)), 4, []string{a, a, x}) {
			t.Errorf("a last element of %d bytes is accepted", len(x))
		}
	}
}

// P2.1: lists of which only the ways that the proof needs are known.
func TestP2_1VerifyExtensionHuge(t *testing.T) {
	r := rand.New(rand.NewSource(5))
	for _, n := range hugeSizes() {
		for _, m := range append(somewhere(r, n), 2, 4, 1<<31, 1<<31+1) {
			if m == 0 {
				continue
			}
			old, root, proof := extend(r, m, n)
			if !digest.VerifyExtension(old, m, root, n, proof) {
				t.Errorf("the extension of %d to %d entries is not accepted", m, n)
			}
			if digest.VerifyExtension(old, m, root, n, append(proof, root)) || digest.VerifyExtension(root, m, old, n, proof) || digest.VerifyExtension(old, m, root, n, nil) {
				t.Errorf("what is no extension of %d to %d entries is accepted", m, n)
			}
		}
	}
}

// extend invents a list of n entries that begins with m others, fewer than n, and
// returns the two roots and the proof.
func extend(r *rand.Rand, m int, n int) (string, string, []string) {
	at, last := m-1, n-1
	for at%2 == 1 {
		at, last = at/2, last/2
	}
	first := randomString(r, 32)
	second := first
	var proof []string
	if !isPower(m) {
		proof = append(proof, first)
	}
	for last > 0 {
		x := randomString(r, 32)
		switch {
		case at%2 == 1:
			first, second, proof = sha("\x01", x, first), sha("\x01", x, second), append(proof, x)
		case at < last:
			second, proof = sha("\x01", second, x), append(proof, x)
		}
		at, last = at/2, last/2
	}
	return first, second, proof
}

func TestP2_2Extensions(t *testing.T) {
	for _, n := range sizes() {
		l := entries(n)
		root := digest.Root(l)
		for m := 0; m <= n; m++ {
			proof, err := digest.Extension(l, m)
			if err != api.OK || !digest.VerifyExtension(digest.Root(l[:m]), m, root, n, proof) {
				t.Errorf("the extension of %d to %d entries is not accepted", m, n)
			}
			if len(proof) > 2*bits.Len(uint(n)) {
				t.Errorf("the extension of %d to %d entries has %d elements", m, n, len(proof))
			}
		}
	}
}

// P2.4: whatever proof is tried, one old root at most is accepted.
func TestP2_4OneOldRoot(t *testing.T) {
	for n := 1; n <= 4; n++ {
		l := entries(n)
		root, pool := digest.Root(l), treeDigests(l)
		type pair struct{ m, n int }
		accepted := map[pair]string{}
		sequences(pool, 3, func(proof []string) {
			for at := (pair{n: 1}); at.n <= n+1; at.n++ {
				for at.m = 0; at.m <= at.n; at.m++ {
					for _, old := range pool {
						if !digest.VerifyExtension(old, at.m, root, at.n, proof) {
							continue
						}
						if other, ok := accepted[at]; ok && other != old {
							t.Errorf("%x and %x are accepted as roots of old entries: %v", old, other, at)
						}
						accepted[at] = old
					}
				}
			}
		})
		for m := range l {
			if accepted[pair{m, n}] != digest.Root(l[:m]) {
				t.Errorf("the first %d of %d entries are not accepted by any proof", m, n)
			}
		}
	}
}
