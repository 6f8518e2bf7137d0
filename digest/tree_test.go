package digest_test

import (
	"math"
	"math/bits"
	"math/rand"
	"slices"
	"strconv"
	"strings"
	"testing"

	"dialtone/api"
	"dialtone/digest"
)

// entries returns a list of n entries, all different.
func entries(n int) []string {
	var l []string
	for i := range n {
		l = append(l, strings.Repeat("e", i%5)+strconv.Itoa(i))
	}
	return l
}

// sizes are the lengths of the lists that are tried: all small ones, and those
// around the powers of two.
func sizes() []int {
	var l []int
	for n := range 71 {
		l = append(l, n)
	}
	return append(l, 127, 128, 129, 255, 256, 257, 300)
}

// levels returns the tree of a list with entries, from the leaves up to the root:
// neighbours are joined, and one that has no neighbour moves up as it is.
func levels(l []string) [][]string {
	var level []string
	for _, s := range l {
		level = append(level, sha("\x00", s))
	}
	all := [][]string{level}
	for len(level) > 1 {
		var next []string
		for i := 0; i+1 < len(level); i += 2 {
			next = append(next, sha("\x01", level[i], level[i+1]))
		}
		if len(level)%2 == 1 {
			next = append(next, level[len(level)-1])
		}
		all, level = append(all, next), next
	}
	return all
}

// wantRoot is the root of l, from its levels.
func wantRoot(l []string) string {
	if len(l) == 0 {
		return sha("")
	}
	all := levels(l)
	return all[len(all)-1][0]
}

// wantProof is the proof of the entry i: its neighbours on all levels where it has one.
func wantProof(all [][]string, i int) []string {
	var proof []string
	for _, level := range all {
		if i^1 < len(level) {
			proof = append(proof, level[i^1])
		}
		i /= 2
	}
	return proof
}

// accepts is Verify by the binary digits of i and of the index of the last entry.
func accepts(root string, n int, i int, s string, proof []string) bool {
	if i < 0 || i >= n {
		return false
	}
	value, at, last := sha("\x00", s), i, n-1
	for _, x := range proof {
		if len(x) != 32 || last == 0 {
			return false
		}
		if at%2 == 1 || at == last {
			for at%2 == 0 {
				at, last = at/2, last/2
			}
			value = sha("\x01", x, value)
		} else {
			value = sha("\x01", value, x)
		}
		at, last = at/2, last/2
	}
	return last == 0 && value == root
}

func TestP2_1Roots(t *testing.T) {
	for _, n := range sizes() {
		if got, want := digest.Root(entries(n)), wantRoot(entries(n)); got != want {
			t.Errorf("Root of %d entries = %x, want %x", n, got, want)
		}
	}
	if odd := oddStrings(); digest.Root(odd) != wantRoot(odd) {
		t.Error("Root of odd strings")
	}
	if digest.Root(nil) != digest.Sum("") || digest.Root([]string{}) != digest.Sum("") {
		t.Error("Root of no entries")
	}
	same := []string{"a", "a", "a"}
	if digest.Root(same) != digest.Node(digest.Node(digest.Leaf("a"), digest.Leaf("a")), digest.Leaf("a")) {
		t.Error("Root of entries that are the same")
	}
}

func TestP2_1Proofs(t *testing.T) {
	for _, n := range sizes() {
		l := entries(n)
		all := levels(l)
		for i := range n {
			got, err := digest.Proof(l, i)
			if want := wantProof(all, i); err != api.OK || !slices.Equal(got, want) {
				t.Errorf("Proof of %d in %d entries: %x, error %d; want %x", i, n, got, err, want)
			}
		}
	}
	three, err := digest.Proof([]string{"a", "b", "c"}, 2)
	if want := digest.Node(digest.Leaf("a"), digest.Leaf("b")); err != api.OK || !slices.Equal(three, []string{want}) {
		t.Errorf("Proof of 2 in three entries: %x, error %d", three, err)
	}
}

func TestP2_1NoSuchEntry(t *testing.T) {
	for _, n := range []int{0, 1, 2, 3, 7} {
		for _, i := range []int{-1, n, n + 1, math.MinInt, math.MaxInt} {
			if proof, err := digest.Proof(entries(n), i); len(proof) != 0 || err != api.ErrArg {
				t.Errorf("Proof of %d in %d entries: %x, error %d; want ErrArg", i, n, proof, err)
			}
		}
	}
}

// checkVerify compares Verify with accepts.
func checkVerify(t *testing.T, root string, n int, i int, s string, proof []string) {
	t.Helper()
	got := digest.Verify(root, n, i, s, proof)
	if want := accepts(root, n, i, s, proof); got != want {
		t.Errorf("Verify(%.8x, %d, %d, %.20q, %d elements) = %v", root, n, i, s, len(proof), got)
	}
}

// P2.1: proofs for other entries, indices and lengths, and proofs that were changed.
func TestP2_1Verify(t *testing.T) {
	r := rand.New(rand.NewSource(2))
	for n := 1; n <= 17; n++ {
		l := entries(n)
		root := digest.Root(l)
		for i := range n {
			proof, _ := digest.Proof(l, i)
			for otherN := -1; otherN <= n+2; otherN++ {
				for otherI := -1; otherI <= n+2; otherI++ {
					checkVerify(t, root, otherN, otherI, l[i], proof)
				}
			}
			for _, s := range append(l, "", "x") {
				checkVerify(t, root, n, i, s, proof)
			}
			for _, p := range changedProofs(r, proof) {
				if digest.Verify(root, n, i, l[i], p) {
					t.Errorf("a changed proof of %d in %d entries is accepted", i, n)
				}
			}
		}
	}
}

// changedProofs are proofs that differ from this one by an element, a byte, or the order.
func changedProofs(r *rand.Rand, proof []string) [][]string {
	all := [][]string{append(slices.Clone(proof), digest.Sum("")), append([]string{digest.Sum("")}, proof...)}
	for j, x := range proof {
		flipped := []byte(x)
		flipped[r.Intn(len(flipped))] ^= 1 << r.Intn(8)
		for _, y := range []string{string(flipped), x + "\x00", x[:31], "", x + x} {
			p := slices.Clone(proof)
			p[j] = y
			all = append(all, p)
		}
		all = append(all, slices.Delete(slices.Clone(proof), j, j+1), slices.Insert(slices.Clone(proof), j, x))
		if j > 0 {
			p := slices.Clone(proof)
			p[j-1], p[j] = p[j], p[j-1]
			all = append(all, p)
		}
	}
	return all
}

// P2.1: elements of a proof must be digests, also where Node would not mind.
func TestP2_1VerifyElements(t *testing.T) {
	a := digest.Leaf("a")
	for _, x := range []string{"", "x", a[:31], a + "x", strings.Repeat(a, 2)} {
		if digest.Verify(digest.Node(a, x), 2, 0, "a", []string{x}) || digest.Verify(digest.Node(x, a), 2, 1, "a", []string{x}) {
			t.Errorf("an element of %d bytes is accepted", len(x))
		}
	}
}

// hugeSizes are lengths of lists that nobody can build.
func hugeSizes() []int {
	l := []int{math.MaxInt, math.MaxInt - 1, 1<<62 - 1, 1 << 62, 1<<62 + 1, 1<<32 - 1, 1 << 32, 1<<32 + 1}
	return append(l, 0x2AAAAAAAAAAAAAAA, 0x5555555555555555)
}

// somewhere returns numbers from 0 to below n, those at the ends among them.
func somewhere(r *rand.Rand, n int) []int {
	l := []int{0, 1, n - 1, n - 2, n / 2, n/2 - 1, n/2 + 1}
	for range 20 {
		l = append(l, r.Intn(n))
	}
	return l
}

// P2.1: lists of which only a way from an entry to the root is known.
func TestP2_1VerifyHuge(t *testing.T) {
	r := rand.New(rand.NewSource(3))
	for _, n := range hugeSizes() {
		for _, i := range somewhere(r, n) {
			root, proof := wayUp(r, n, i, "entry")
			if !digest.Verify(root, n, i, "entry", proof) {
				t.Errorf("the entry %d of %d is not accepted", i, n)
			}
			if digest.Verify(root, n, i, "other", proof) || digest.Verify(root, n, i, "entry", append(proof, root)) || digest.Verify(root, n, i, "entry", proof[1:]) {
				t.Errorf("what is not the entry %d of %d is accepted", i, n)
			}
		}
		for _, i := range []int{-1, n, math.MinInt, math.MaxInt} {
			checkVerify(t, digest.Leaf("a"), n, i, "a", nil)
		}
	}
	for _, n := range []int{0, -1, math.MinInt, math.MinInt + 1} {
		for _, i := range []int{0, -1, n, n - 1, n + 1, math.MaxInt} {
			for _, proof := range [][]string{nil, {digest.Sum("")}} {
				if digest.Verify(digest.Leaf("a"), n, i, "a", proof) {
					t.Errorf("an entry %d of %d is accepted", i, n)
				}
			}
		}
	}
}

// wayUp invents a list of n entries of which s is the entry i, and returns its
// root and the proof.
func wayUp(r *rand.Rand, n int, i int, s string) (string, []string) {
	value, at, last := sha("\x00", s), i, n-1
	var proof []string
	for last > 0 {
		x := randomString(r, 32)
		switch {
		case at%2 == 1:
			value, proof = sha("\x01", x, value), append(proof, x)
		case at < last:
			value, proof = sha("\x01", value, x), append(proof, x)
		}
		at, last = at/2, last/2
	}
	return value, proof
}

// R3: arguments are not changed, nor is what lies behind them in memory.
func TestP2_1ArgumentsStay(t *testing.T) {
	memory := append(entries(11), "behind")
	proofs := append(wantProof(levels(entries(11)), 4), "behind")
	keptEntries, keptProofs := slices.Clone(memory), slices.Clone(proofs)
	l, proof := memory[:11], proofs[:len(proofs)-1]
	digest.Root(l)
	digest.Proof(l, 4)
	digest.Extension(l, 6)
	digest.Verify(digest.Root(l), 11, 4, l[4], proof)
	digest.VerifyExtension(digest.Root(l), 6, digest.Root(l), 11, proof)
	if !slices.Equal(memory, keptEntries) || !slices.Equal(proofs, keptProofs) {
		t.Error("an argument was changed")
	}
}

func TestP2_2Proofs(t *testing.T) {
	for _, n := range sizes() {
		l := entries(n)
		root := digest.Root(l)
		for i := range n {
			proof, err := digest.Proof(l, i)
			if err != api.OK || !digest.Verify(root, n, i, l[i], proof) {
				t.Errorf("the proof of %d in %d entries is not accepted", i, n)
			}
			if len(proof) > bits.Len(uint(n)) {
				t.Errorf("the proof of %d in %d entries has %d elements", i, n, len(proof))
			}
		}
	}
}

// treeDigests are the digests that a liar about a list can lay hands on: all of
// its tree, and those of trees over other parts of it.
func treeDigests(l []string) []string {
	set := map[string]bool{digest.Sum(""): true}
	for from := range l {
		for to := from + 1; to <= len(l); to++ {
			set[digest.Root(l[from:to])] = true
		}
	}
	var all []string
	for x := range set {
		all = append(all, x)
	}
	slices.Sort(all)
	return all
}

// sequences calls f for all sequences of at most most elements of the pool.
func sequences(pool []string, most int, f func(l []string)) {
	var extend func(l []string)
	extend = func(l []string) {
		f(l)
		if len(l) == most {
			return
		}
		for _, x := range pool {
			extend(append(slices.Clone(l), x))
		}
	}
	extend(nil)
}

// P2.3: whatever proof is tried, one entry at most is accepted for an index.
func TestP2_3OneEntry(t *testing.T) {
	for n := 1; n <= 4; n++ {
		l := entries(n)
		root, pool := digest.Root(l), treeDigests(l)
		type place struct{ n, i int }
		accepted := map[place]string{}
		tries := append(entries(n), pool...)
		for _, a := range pool {
			for _, b := range pool {
				tries = append(tries, a+b)
			}
		}
		sequences(pool, 2, func(proof []string) {
			for at := (place{n: 1}); at.n <= n+1; at.n++ {
				for at.i = 0; at.i < at.n; at.i++ {
					for _, s := range tries {
						if !digest.Verify(root, at.n, at.i, s, proof) {
							continue
						}
						if other, ok := accepted[at]; ok && other != s {
							t.Errorf("%x and %x are accepted as the entry %v", s, other, at)
						}
						accepted[at] = s
					}
				}
			}
		})
		for i, s := range l {
			if accepted[place{n, i}] != s {
				t.Errorf("the entry %d of %d is not accepted by any proof", i, n)
			}
		}
	}
}

// P2.3: neither a node nor a record of a chain passes for an entry.
func TestP2_3NodeIsNoEntry(t *testing.T) {
	l := entries(4)
	first, second := digest.Root(l[:2]), digest.Root(l[2:])
	inner := digest.Leaf(l[0]) + digest.Leaf(l[1])
	for _, s := range []string{inner, "\x01" + inner, first} {
		if digest.Verify(digest.Root(l), 2, 0, s, []string{second}) {
			t.Errorf("the node %x is accepted as an entry", s)
		}
	}
	if digest.Leaf("a"+"b") == digest.Node("a", "b") || digest.Chain("a", "b") == digest.Node("a", "b") || digest.Chain("a", "b") == digest.Leaf("ab") || digest.Sum("ab") == digest.Leaf("ab") {
		t.Error("strings for different ends have the same digest")
	}
}
