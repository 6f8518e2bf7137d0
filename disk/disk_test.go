package disk_test

import (
	"math"
	"slices"
	"testing"

	"dialtone/api"
	"dialtone/disk"
)

// has checks that the visible content of d is want.
func has(t *testing.T, d *disk.Disk, want string) {
	t.Helper()
	if s, err := d.Read(0, d.Size()); s != want || err != api.OK {
		t.Error(short(s), err, "is not", short(want))
	}
}

// is checks that the calls, of which the results are given, returned what they should.
func is(t *testing.T, want api.Errno, results ...api.Errno) {
	t.Helper()
	for i, err := range results {
		if err != want {
			t.Errorf("call %d: %d is not %d", i, err, want)
		}
	}
}

func TestP9_1New(t *testing.T) {
	for _, size := range []int{math.MinInt, -4, -1, 0, api.MaxDisk + 1, 1 << 40, math.MaxInt} {
		if d, err := disk.New(size); d != nil || err != api.ErrArg {
			t.Error(size, d, err)
		}
	}
	for _, size := range []int{1, 2, 1000, api.MaxDisk} {
		d := made(t, size)
		if d.Size() != size || d.Pending() != 0 {
			t.Error(d.Size(), d.Pending(), size)
		}
		has(t, d, string(make([]byte, size)))
	}
}

func TestP9_1Nil(t *testing.T) {
	var d *disk.Disk
	for _, n := range []int{math.MinInt, -1, 0, 1, math.MaxInt} {
		is(t, api.ErrNil, d.Write(n, "a"), d.Write(n, ""), d.Sync(), d.Cut(n), d.Crash([]int{n}, n), d.Crash(nil, n))
		if s, err := d.Read(n, n); s != "" || err != api.ErrNil {
			t.Error(n, s, err)
		}
	}
	if d.Size() != 0 || d.Pending() != 0 {
		t.Error(d.Size(), d.Pending())
	}
}

func TestP9_1Examples(t *testing.T) {
	d := made(t, 4)
	is(t, api.OK, d.Write(0, "ab"), d.Write(1, "xy"))
	has(t, d, "axy\x00")
	is(t, api.OK, d.Crash([]int{0, 1}, 1))
	has(t, d, "ax\x00\x00")

	d = made(t, 4)
	is(t, api.ErrDisk, d.Write(2, "abc"))
	is(t, api.OK, d.Write(4, ""))
	if s, err := d.Read(0, 5); s != "" || err != api.ErrDisk {
		t.Error(s, err)
	}

	d = made(t, 1)
	is(t, api.OK, d.Write(0, "a"), d.Crash(nil, -1))
	has(t, d, "\x00")
	is(t, api.OK, d.Write(0, "a"), d.Sync(), d.Write(0, "b"), d.Crash(nil, -1))
	has(t, d, "a")

	d = made(t, 1)
	is(t, api.OK, d.Write(0, "a"), d.Write(0, "b"), d.Crash([]int{1, 0, 7, 0}, -1))
	has(t, d, "b")

	d = made(t, 1)
	is(t, api.OK, d.Cut(1), d.Write(0, "a"))
	is(t, api.ErrPower, d.Write(0, "b"))
	is(t, api.OK, d.Crash([]int{0}, -1))
	has(t, d, "a")
}

func TestP9_1WriteEdges(t *testing.T) {
	for _, c := range []struct {
		off  int
		s    string
		want api.Errno
	}{
		{0, "abcd", api.OK}, {0, "abcde", api.ErrDisk}, {1, "abc", api.OK}, {1, "abcd", api.ErrDisk},
		{3, "a", api.OK}, {3, "ab", api.ErrDisk}, {4, "", api.OK}, {4, "a", api.ErrDisk}, {5, "", api.ErrDisk},
		{0, "", api.OK}, {-1, "", api.ErrDisk}, {-1, "a", api.ErrDisk}, {-4, "abcd", api.ErrDisk},
		{math.MinInt, "", api.ErrDisk}, {math.MinInt, "a", api.ErrDisk},
		{math.MaxInt, "", api.ErrDisk}, {math.MaxInt, "a", api.ErrDisk}, {math.MaxInt - 1, "ab", api.ErrDisk},
	} {
		p := newPair(t, 4)
		p.do(t, step{call: "write", s: "pqrs"})
		if err := p.d.Write(c.off, c.s); err != c.want || p.m.write(c.off, c.s) != c.want {
			t.Error(c, err)
		}
		p.look(t, step{})
	}
}

func TestP9_1ReadEdges(t *testing.T) {
	d := made(t, 4)
	is(t, api.OK, d.Write(0, "abcd"))
	for _, c := range []struct {
		off, n int
		s      string
		want   api.Errno
	}{
		{0, 4, "abcd", api.OK}, {0, 5, "", api.ErrDisk}, {1, 2, "bc", api.OK}, {3, 1, "d", api.OK},
		{3, 2, "", api.ErrDisk}, {0, 0, "", api.OK}, {4, 0, "", api.OK}, {4, 1, "", api.ErrDisk},
		{5, 0, "", api.ErrDisk}, {5, -1, "", api.ErrDisk}, {2, -1, "", api.ErrDisk}, {-1, 2, "", api.ErrDisk},
		{-1, 0, "", api.ErrDisk}, {math.MinInt, math.MinInt, "", api.ErrDisk}, {math.MinInt, 1, "", api.ErrDisk},
		{1, math.MinInt, "", api.ErrDisk}, {math.MaxInt, math.MaxInt, "", api.ErrDisk},
		{1, math.MaxInt, "", api.ErrDisk}, {math.MaxInt, 1, "", api.ErrDisk}, {math.MinInt, math.MaxInt, "", api.ErrDisk},
	} {
		if s, err := d.Read(c.off, c.n); s != c.s || err != c.want {
			t.Errorf("%d %d: %q %d", c.off, c.n, s, err)
		}
	}
	if d.Pending() != 1 {
		t.Error(d.Pending())
	}
}

func TestP9_1EmptyWrites(t *testing.T) {
	d := made(t, 2)
	is(t, api.OK, d.Write(0, "ab"), d.Write(0, ""), d.Write(2, ""))
	if d.Pending() != 3 {
		t.Error(d.Pending())
	}
	// an empty write counts as the last one that survives, and is what is torn then
	is(t, api.OK, d.Crash([]int{0, 2}, 1))
	has(t, d, "ab")
	is(t, api.OK, d.Cut(1), d.Write(1, ""))
	is(t, api.ErrPower, d.Write(0, "x"), d.Sync())
}

func TestP9_1Torn(t *testing.T) {
	for torn, want := range map[int]string{
		math.MinInt: "aXYZe", -1: "aXYZe", 0: "abc.e", 1: "aXc.e", 2: "aXY.e", 3: "aXYZe", 4: "aXYZe", math.MaxInt: "aXYZe",
	} {
		d := made(t, 5)
		is(t, api.OK, d.Write(0, "....e"), d.Sync(), d.Write(0, "abc"), d.Write(1, "XYZ"), d.Write(4, "-"))
		is(t, api.OK, d.Crash([]int{1, 0}, torn))
		has(t, d, want)
		// nothing of the crash is left: neither a write nor what was torn
		is(t, api.OK, d.Write(0, "12345"), d.Crash([]int{0, 1, 2}, -1))
		has(t, d, "12345")
	}
}

func TestP9_1CutEdges(t *testing.T) {
	d := made(t, 2)
	for _, n := range []int{-1, math.MinInt} {
		is(t, api.OK, d.Cut(1))
		is(t, api.ErrArg, d.Cut(n))
		is(t, api.OK, d.Write(0, "a"))
		is(t, api.ErrPower, d.Cut(n), d.Cut(0), d.Cut(1), d.Sync())
		is(t, api.OK, d.Crash(nil, -1))
	}
	is(t, api.OK, d.Cut(math.MaxInt), d.Write(0, "ab"), d.Write(0, ""), d.Sync(), d.Cut(0))
	is(t, api.ErrPower, d.Write(0, "c"))
	is(t, api.OK, d.Crash(nil, -1))
	has(t, d, "ab")
	// the later cut counts, whether it is nearer or not
	is(t, api.OK, d.Cut(1), d.Cut(2), d.Write(0, "c"), d.Cut(1), d.Write(1, "d"))
	is(t, api.ErrPower, d.Write(0, "e"))
	is(t, api.OK, d.Crash([]int{1}, -1))
	has(t, d, "ad")
	// neither a crash nor a cut at once leaves one scheduled
	is(t, api.OK, d.Cut(1), d.Crash(nil, -1), d.Write(0, "p"), d.Write(0, "q"), d.Sync())
	is(t, api.OK, d.Cut(1), d.Cut(0), d.Crash(nil, -1), d.Write(0, "r"), d.Write(1, "s"), d.Sync())
	has(t, d, "rs")
}

// TestP9_1FirstError checks that a disk without power says so, whatever else is wrong.
func TestP9_1FirstError(t *testing.T) {
	d := made(t, 3)
	is(t, api.OK, d.Write(0, "abc"), d.Sync(), d.Write(0, "x"), d.Write(1, "y"), d.Cut(0))
	for _, n := range []int{math.MinInt, -1, 0, 3, 4, math.MaxInt} {
		is(t, api.ErrPower, d.Write(n, ""), d.Write(n, "abcd"), d.Cut(n), d.Sync())
		if s, err := d.Read(n, n); s != "" || err != api.ErrPower {
			t.Error(n, s, err)
		}
	}
	if d.Pending() != 2 || d.Size() != 3 {
		t.Error(d.Pending(), d.Size())
	}
	is(t, api.OK, d.Crash([]int{1}, -1))
	has(t, d, "ayc")
}

// TestP9_1Refused checks that a call that returns an error changes nothing, neither what is
// on the disk nor when its power is cut.
func TestP9_1Refused(t *testing.T) {
	d := made(t, 3)
	is(t, api.OK, d.Write(0, "abc"), d.Sync(), d.Write(0, "x"), d.Cut(2))
	for range 5 {
		is(t, api.ErrDisk, d.Write(-1, "z"), d.Write(3, "z"), d.Write(0, "wxyz"), d.Write(4, ""))
		is(t, api.ErrArg, d.Cut(-1))
		if _, err := d.Read(2, 2); err != api.ErrDisk || d.Pending() != 1 {
			t.Error(err, d.Pending())
		}
	}
	has(t, d, "xbc")
	is(t, api.OK, d.Write(1, "y"), d.Write(2, "z"))
	is(t, api.ErrPower, d.Write(0, "-"), d.Sync())
	is(t, api.OK, d.Crash([]int{0, 1, 2}, -1))
	has(t, d, "xyz")
}

func TestP9_1Arguments(t *testing.T) {
	keep := []int{2, 0, 2, 9, -1, 5, 5}
	before := slices.Clone(keep)
	d := made(t, 3)
	is(t, api.OK, d.Write(0, "a"), d.Write(1, "b"), d.Write(2, "c"), d.Crash(keep[:5], 0))
	if !slices.Equal(keep, before) {
		t.Error("the argument is changed", keep)
	}
	has(t, d, "a\x00\x00")
	// an empty list is like none
	is(t, api.OK, d.Write(0, "z"), d.Crash([]int{}, 1))
	has(t, d, "a\x00\x00")
}

// TestP9_1Memory checks that what was read does not change when the disk does.
func TestP9_1Memory(t *testing.T) {
	d := made(t, 3)
	is(t, api.OK, d.Write(0, "abc"))
	pending := content(t, d)
	is(t, api.OK, d.Sync())
	synced := content(t, d)
	is(t, api.OK, d.Write(0, "pqr"), d.Sync(), d.Write(0, "xyz"), d.Crash([]int{0}, -1))
	if pending != "abc" || synced != "abc" {
		t.Errorf("%q %q", pending, synced)
	}
}
