package disk_test

import (
	"math/rand"
	"slices"
	"testing"

	"dialtone/api"
	"dialtone/disk"
)

// content returns the visible content of d.
func content(t *testing.T, d *disk.Disk) string {
	t.Helper()
	s, err := d.Read(0, d.Size())
	if err != api.OK || len(s) != d.Size() {
		t.Fatal(short(s), err)
	}
	return s
}

// place returns an offset on a disk of that size, and what can be written there.
func place(r *rand.Rand, size int) (int, string) {
	off := r.Intn(size + 1)
	return off, text(r, r.Intn(min(size-off, 5)+1))
}

// numbers returns 0, 1, 2 and so on, that many.
func numbers(n int) []int {
	var l []int
	for i := range n {
		l = append(l, i)
	}
	return l
}

func TestP9_2ReadsLastWritten(t *testing.T) {
	r := rand.New(rand.NewSource(93))
	for range 300 {
		d := made(t, 1+r.Intn(20))
		written := make([]byte, d.Size())
		for range 60 {
			off, s := place(r, d.Size())
			is(t, api.OK, d.Write(off, s))
			copy(written[off:], s)
			if r.Intn(4) == 0 {
				is(t, api.OK, d.Sync())
			}
			from := r.Intn(d.Size() + 1)
			to := from + r.Intn(d.Size()-from+1)
			if s, err := d.Read(from, to-from); s != string(written[from:to]) || err != api.OK {
				t.Fatal(from, to, s, err, string(written))
			}
		}
	}
}

// TestP9_2SyncedIsNotLost crashes disks that were synced, after a loss of power or without
// one, and looks at the bytes that no write replaced after the Sync.
func TestP9_2SyncedIsNotLost(t *testing.T) {
	r := rand.New(rand.NewSource(94))
	for range 300 {
		d := made(t, 1+r.Intn(20))
		for range 20 {
			for range r.Intn(4) {
				off, s := place(r, d.Size())
				is(t, api.OK, d.Write(off, s))
			}
			is(t, api.OK, d.Sync())
			synced := content(t, d)
			replaced := make([]bool, d.Size())
			writes := r.Intn(5)
			is(t, api.OK, d.Cut(writes+r.Intn(2)))
			for range writes {
				off, s := place(r, d.Size())
				is(t, api.OK, d.Write(off, s))
				for i := range s {
					replaced[off+i] = true
				}
			}
			d.Sync() // does nothing without power; otherwise all bytes are as they were, or replaced
			is(t, api.OK, d.Crash(someKeep(r, d.Pending()), r.Intn(8)-2))
			for i, b := range []byte(content(t, d)) {
				if !replaced[i] && b != synced[i] {
					t.Fatal(i, b, synced[i])
				}
			}
		}
	}
}

// TestP9_3EachByte tries all sets of surviving writes, torn at all places.
func TestP9_3EachByte(t *testing.T) {
	r := rand.New(rand.NewSource(95))
	for range 60 {
		size := 1 + r.Intn(12)
		durable := text(r, size)
		var writes []piece
		for range 5 {
			off, s := place(r, size)
			writes = append(writes, piece{off, s})
		}
		for set := range 1 << len(writes) {
			keep := slices.DeleteFunc(numbers(len(writes)), func(i int) bool { return set>>i&1 == 0 })
			for torn := -1; torn <= 6; torn++ {
				d := made(t, size)
				is(t, api.OK, d.Write(0, durable), d.Sync())
				for _, w := range writes {
					is(t, api.OK, d.Write(w.off, w.s))
				}
				is(t, api.OK, d.Crash(keep, torn))
				checkBytes(t, content(t, d), durable, writes, keep)
			}
		}
	}
}

// checkBytes checks that each byte of what a crash left is its durable value, or the value
// that a surviving write gave it.
func checkBytes(t *testing.T, left string, durable string, writes []piece, keep []int) {
	t.Helper()
	for i := range left {
		may := []byte{durable[i]}
		for _, k := range keep {
			if w := writes[k]; w.off <= i && i < w.off+len(w.s) {
				may = append(may, w.s[i-w.off])
			}
		}
		if !slices.Contains(may, left[i]) {
			t.Fatalf("%q %q %v %v: byte %d", left, durable, writes, keep, i)
		}
	}
}

func TestP9_3AllOrNone(t *testing.T) {
	r := rand.New(rand.NewSource(96))
	for i := range 1000 {
		d := made(t, 1+r.Intn(20))
		off, s := place(r, d.Size())
		is(t, api.OK, d.Write(off, s), d.Sync())
		durable := content(t, d)
		for range r.Intn(10) {
			off, s := place(r, d.Size())
			is(t, api.OK, d.Write(off, s))
		}
		want, keep := durable, []int(nil)
		if i%2 == 0 {
			want, keep = content(t, d), numbers(d.Pending())
			r.Shuffle(len(keep), func(i, j int) { keep[i], keep[j] = keep[j], keep[i] })
		}
		if i%3 == 0 {
			is(t, api.OK, d.Cut(0))
		}
		is(t, api.OK, d.Crash(keep, -1))
		has(t, d, want)
		// the content after a crash is durable: a further one takes nothing away
		is(t, api.OK, d.Crash(keep, 0))
		has(t, d, want)
	}
}

// TestP9_4Cut makes calls between the writes that must not count, and checks that the power
// is lost at the last of the writes and comes back by a crash only.
func TestP9_4Cut(t *testing.T) {
	r := rand.New(rand.NewSource(97))
	d := made(t, 10)
	for n := 1; n <= 60; n++ {
		is(t, api.OK, d.Cut(n))
		for range n {
			for range r.Intn(3) {
				is(t, api.ErrDisk, d.Write(10, "x"))
				is(t, api.ErrArg, d.Cut(-1))
				content(t, d)
				is(t, api.OK, d.Sync())
			}
			off, s := place(r, 10)
			is(t, api.OK, d.Write(off, s))
		}
		for range 3 {
			is(t, api.ErrPower, d.Write(0, "a"), d.Write(0, ""), d.Write(11, "b"), d.Sync(), d.Cut(0), d.Cut(1), d.Cut(-1))
			if s, err := d.Read(0, 1); s != "" || err != api.ErrPower {
				t.Error(s, err)
			}
		}
		is(t, api.OK, d.Crash(nil, -1))
		// the power stays, however much is written, until the next cut
		for range 2 * n {
			off, s := place(r, 10)
			is(t, api.OK, d.Write(off, s))
		}
		is(t, api.OK, d.Sync())
	}
}

// TestP9_4Independent makes calls on two disks in turn, each of which does what its own model
// does.
func TestP9_4Independent(t *testing.T) {
	r := rand.New(rand.NewSource(98))
	for range 300 {
		pairs := []*pair{newPair(t, 1+r.Intn(8)), newPair(t, 1+r.Intn(8))}
		for range 100 {
			p := pairs[r.Intn(2)]
			x := someStep(r, len(p.m.durable), len(p.m.pending))
			p.do(t, x)
			for _, q := range pairs {
				q.look(t, x)
			}
		}
	}
}
