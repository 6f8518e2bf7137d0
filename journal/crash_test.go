package journal_test

import (
	"math/rand"
	"slices"
	"strings"
	"testing"

	"dialtone/api"
	"dialtone/disk"
	"dialtone/journal"
)

// failure is a power failure: after how many writes it happens, which of the pending ones
// survive it, and how much of the last one of them.
type failure struct {
	cut  int
	keep []int
	torn int
}

// failures returns all of them that can matter for a call that writes at most twice, and at
// most that many bytes.
func failures(bytes int) []failure {
	var l []failure
	for cut := range 4 {
		l = append(l, failure{cut, nil, -1}, failure{cut, []int{0}, -1}, failure{cut, []int{0, 1}, -1})
		for torn := range bytes + 1 {
			l = append(l, failure{cut, []int{0}, torn})
		}
	}
	return l
}

// appendThrough appends a group while that failure is due, crashes the disk, and opens it
// again. It returns the new journal, which has the group completely or not at all, and with
// it if Append says so.
func appendThrough(t *testing.T, d *disk.Disk, j *journal.Journal, group []string, f failure) *journal.Journal {
	t.Helper()
	before := j.Records()
	after := slices.Concat(before, group)
	is(t, api.OK, d.Cut(f.cut))
	err := j.Append(group)
	if l := j.Records(); err == api.OK && !slices.Equal(l, after) || err != api.OK && !slices.Equal(l, before) {
		t.Fatal(f, err, shorts(l))
	}
	is(t, api.OK, d.Crash(f.keep, f.torn))
	k := open(t, d)
	l := k.Records()
	if !slices.Equal(l, after) && (err == api.OK || !slices.Equal(l, before)) {
		t.Fatal(f, err, shorts(l), "is neither", shorts(before), "nor", shorts(after))
	}
	return k
}

// openThrough opens d while that failure is due, and crashes it.
func openThrough(t *testing.T, d *disk.Disk, f failure) {
	t.Helper()
	is(t, api.OK, d.Cut(f.cut))
	j, err := journal.Open(d)
	if err != api.OK && err != api.ErrPower || (j == nil) == (err == api.OK) {
		t.Fatal(f, j, err)
	}
	is(t, api.OK, d.Crash(f.keep, f.torn))
}

// TestP10_2EachFailure lets the power fail in all ways while a group is appended, and then in
// some ways while the disk is opened again.
func TestP10_2EachFailure(t *testing.T) {
	inner := stored([]string{"x"}) // looks like a record where it is none
	again := []failure{
		{9, nil, -1}, {0, nil, -1}, {1, nil, -1}, {1, []int{0}, -1}, {1, []int{0}, 1}, {1, []int{0}, 30}, {2, nil, -1},
	}
	for _, group := range [][]string{{"second"}, {"second", "third"}, {"", "", ""}, {inner}, {"\x01\x01\x01", inner + "\x00"}} {
		for _, before := range [][]string{nil, {"first"}} {
			for _, f := range failures(need(t, group)) {
				for _, g := range again {
					failTwice(t, before, group, f, g)
				}
			}
		}
	}
}

// failTwice appends a group to records while the first failure is due, and opens the disk
// while the second one is. After that, a shorter group is appended, which would show what is
// left of the first one.
func failTwice(t *testing.T, before []string, group []string, f failure, g failure) {
	t.Helper()
	d, j := start(t, 300)
	is(t, api.OK, j.Append(before), d.Cut(f.cut))
	err := j.Append(group)
	is(t, api.OK, d.Crash(f.keep, f.torn))
	openThrough(t, d, g)
	k := open(t, d)
	l := k.Records()
	if !slices.Equal(l, slices.Concat(before, group)) && (err == api.OK || !slices.Equal(l, before)) {
		t.Fatal(f, g, err, shorts(l))
	}
	is(t, api.OK, k.Append([]string{"z"}))
	has(t, open(t, d), k.Room(), append(l, "z")...)
}

// TestP10_2ManyFailures goes through failures one after the other on one disk.
func TestP10_2ManyFailures(t *testing.T) {
	r := rand.New(rand.NewSource(102))
	for range 300 {
		size := 40 + r.Intn(1500)
		d, j := start(t, size)
		for range 40 {
			f := failure{r.Intn(5), [][]int{nil, {0}, {1, 0}}[r.Intn(3)], r.Intn(size+5) - 4}
			if r.Intn(3) == 0 {
				openThrough(t, d, f)
				j = open(t, d)
			}
			j = appendThrough(t, d, j, someGroup(r), f)
		}
	}
}

// TestP10_2Survives checks that what an Append that returned OK has appended does not need
// any pending write, also when further groups were not appended.
func TestP10_2Survives(t *testing.T) {
	r := rand.New(rand.NewSource(103))
	for range 200 {
		d, j := start(t, 2000)
		for range 10 {
			err := j.Append(someGroup(r))
			if d.Pending() != 0 {
				t.Fatal(err, d.Pending())
			}
			l := j.Records()
			is(t, api.OK, d.Crash(nil, 0))
			k := open(t, d)
			has(t, k, j.Room(), l...)
			if r.Intn(2) == 0 {
				j = k
			}
		}
	}
}

// TestP10_2Large lets the power fail while a group of long records is appended.
func TestP10_2Large(t *testing.T) {
	group := []string{strings.Repeat("x", 65536), strings.Repeat("\x01\x00", 32768), "", strings.Repeat("\x01", 65536)}
	for cut := range 4 {
		for _, torn := range []int{-1, 0, 1, 65000, 65571, 65572, 65573, 140000} {
			d, j := start(t, 1<<19)
			is(t, api.OK, j.Append([]string{"first"}))
			j = appendThrough(t, d, j, group, failure{cut, []int{0}, torn})
			l := j.Records()
			is(t, api.OK, j.Append([]string{"z"}))
			has(t, open(t, d), j.Room(), append(l, "z")...)
		}
	}
}
