package journal_test

import (
	"slices"
	"strings"
	"testing"

	"dialtone/api"
	"dialtone/disk"
	"dialtone/journal"
)

// start returns a journal on a new disk.
func start(t *testing.T, size int) (*disk.Disk, *journal.Journal) {
	t.Helper()
	d := made(t, size)
	return d, open(t, d)
}

// open returns the journal on d.
func open(t *testing.T, d *disk.Disk) *journal.Journal {
	t.Helper()
	j, err := journal.Open(d)
	if j == nil || err != api.OK {
		t.Fatal(j, err)
	}
	return j
}

// has checks the records of j, and its room.
func has(t *testing.T, j *journal.Journal, room int, records ...string) {
	t.Helper()
	if l := j.Records(); !slices.Equal(l, records) || j.Room() != room {
		t.Fatal(shorts(l), j.Room(), "is not", shorts(records), room)
	}
}

// is checks that the calls, of which the results are given, returned what they should.
func is(t *testing.T, want api.Errno, results ...api.Errno) {
	t.Helper()
	for i, err := range results {
		if err != want {
			t.Fatalf("call %d: %d is not %d", i, err, want)
		}
	}
}

// content returns the visible content of d.
func content(t *testing.T, d *disk.Disk) string {
	t.Helper()
	s, err := d.Read(0, d.Size())
	if err != api.OK || len(s) != d.Size() {
		t.Fatal(short(s), err)
	}
	return s
}

// filled returns a disk on which that content is durable.
func filled(t *testing.T, content string) *disk.Disk {
	t.Helper()
	d := made(t, len(content))
	is(t, api.OK, d.Write(0, content), d.Sync())
	return d
}

// refused checks that a disk cannot be opened, and that it is left as it was.
func refused(t *testing.T, d *disk.Disk, want api.Errno) {
	t.Helper()
	before := content(t, d)
	if j, err := journal.Open(d); j != nil || err != want {
		t.Error(short(before), j, err)
	}
	if content(t, d) != before || d.Pending() != 0 {
		t.Error(short(before), "is changed")
	}
}

func TestP10_1Examples(t *testing.T) {
	_, j := start(t, 200)
	has(t, j, 200)
	is(t, api.OK, j.Append([]string{"ab", ""}))
	has(t, j, 130, "ab", "")
	is(t, api.ErrFull, j.Append([]string{strings.Repeat("x", 96)}))
	has(t, j, 130, "ab", "")
	is(t, api.OK, j.Append([]string{strings.Repeat("x", 95)}))
	has(t, j, 0, "ab", "", strings.Repeat("x", 95))
}

// TestP10_1Stored checks each byte of what is stored, against digests that were calculated
// with another program.
func TestP10_1Stored(t *testing.T) {
	d, j := start(t, 80)
	is(t, api.OK, j.Append([]string{"ab", ""}))
	want := "\x01\x04ab" +
		"\xa5\x23\xfa\xa0\xc0\x92\xaf\x11\xd6\x70\xfe\x35\x85\x49\x65\x48\x30\xa6\x08\x8d\x56\xe9\x91\xee\xd1\xed\x39\x47\x79\x93\xdd\xd9" +
		"\x01\x00" +
		"\x78\xcf\xf2\x8e\xbc\xb9\x7f\x4c\x58\x87\x99\xf0\x9e\x28\x40\x1f\x42\x27\xcb\x9b\xf3\xf2\x4f\xf4\x66\x58\xc3\xe7\xd0\x25\x7b\x31" +
		strings.Repeat("\x00", 10)
	if s := content(t, d); s != want || d.Pending() != 0 {
		t.Errorf("%x %d", s, d.Pending())
	}
}

func TestP10_1Nil(t *testing.T) {
	if j, err := journal.Open(nil); j != nil || err != api.ErrNil {
		t.Error(j, err)
	}
	var j *journal.Journal
	is(t, api.ErrNil, j.Append(nil), j.Append([]string{"a"}), j.Append([]string{strings.Repeat("x", 65537)}))
	if l := j.Records(); len(l) != 0 || j.Room() != 0 {
		t.Error(l, j.Room())
	}
}

func TestP10_1Damaged(t *testing.T) {
	one, two := stored([]string{"ab"}), stored([]string{"ab", "cd"})
	zeros := strings.Repeat("\x00", 40)
	long := strings.Repeat("x", 65537)
	for _, s := range []string{
		"\x02", "\xff", "\x02" + zeros, one + "\x02", one + "\x80" + zeros, // neither 0 nor 1
		"\x01", "\x01\x04a", "\x01\x04ab", one[:len(one)-1], one + "\x01", one + two[:len(two)-1], // the disk ends
		"\x01" + zeros, one + "\x01" + zeros, one + one, two, two + one, // the head is not that of the records
		"\x01\x03ab" + one[4:], "\x01\x84\x00ab" + one[4:], "\x01\x80" + zeros, // no length
		"\x01\xff\xff\xff\xff\xff\xff\xff\xff\x7f" + zeros, "\x01\xff\xff\xff\xff\xff\xff\xff\xff\xff\x01" + zeros,
		stored([]string{long}), stored([]string{long}) + zeros, // a string that is too long
	} {
		refused(t, filled(t, s), api.ErrDamaged)
	}
	for _, s := range []string{one, one + "\x00", one + zeros, one + two, one + two + zeros, "\x00", zeros} {
		d := filled(t, s)
		l, end, ok := found(s)
		if !ok {
			t.Fatal(short(s))
		}
		has(t, open(t, d), len(s)-end, l...)
	}
}

// TestP10_1Cleaned checks what Open writes: all bytes after the records, in one write.
func TestP10_1Cleaned(t *testing.T) {
	one := stored([]string{"ab"})
	zeros := strings.Repeat("\x00", 12)
	for _, rest := range []string{
		zeros[:11] + "\x01", zeros[:1] + "\x01" + zeros[:10], "\x00\x04ab" + zeros[:8], "\x00" + strings.Repeat("\xff", 11),
	} {
		for _, before := range []string{"", one} {
			d := filled(t, before+rest)
			has(t, open(t, d), 12, allOf(before)...)
			if d.Pending() != 0 || content(t, d) != before+zeros {
				t.Errorf("%q %d", content(t, d), d.Pending())
			}
			is(t, api.OK, d.Crash(nil, -1))
			if content(t, d) != before+zeros {
				t.Error("not synced")
			}
			cleanedOnce(t, before+rest, before+zeros)
		}
	}
}

// allOf returns the records of a content.
func allOf(content string) []string {
	l, _, _ := found(content)
	return l
}

// cleanedOnce lets the power fail at the first write of Open, which is not synced then, and
// at a second one, which there is not.
func cleanedOnce(t *testing.T, before string, after string) {
	t.Helper()
	for _, keep := range [][]int{nil, {0}} {
		d := filled(t, before)
		is(t, api.OK, d.Cut(1))
		if j, err := journal.Open(d); j != nil || err != api.ErrPower || d.Pending() != 1 {
			t.Error(j, err, d.Pending())
		}
		is(t, api.OK, d.Crash(keep, -1))
		if s := content(t, d); s != before && keep == nil || s != after && keep != nil {
			t.Errorf("%q", s)
		}
	}
	d := filled(t, before)
	is(t, api.OK, d.Cut(2))
	open(t, d)
	is(t, api.OK, d.Write(0, ""))
	is(t, api.ErrPower, d.Sync())
}

func TestP10_1NoPower(t *testing.T) {
	for _, s := range []string{"\x00\x00", "\x00\x01", "\x02\x02"} {
		d := filled(t, s)
		is(t, api.OK, d.Cut(0))
		if j, err := journal.Open(d); j != nil || err != api.ErrPower {
			t.Error(j, err)
		}
		is(t, api.OK, d.Crash(nil, -1))
		if content(t, d) != s {
			t.Error("changed")
		}
	}
}

// TestP10_1Broken lets each call of the disk fail that an Append makes. The error comes once;
// then the journal is broken, even if the disk has power again.
func TestP10_1Broken(t *testing.T) {
	for cut := range 3 {
		d, j := start(t, 200)
		is(t, api.OK, j.Append([]string{"first"}), d.Cut(cut))
		is(t, api.ErrPower, j.Append([]string{"second"}))
		for range 2 {
			has(t, j, 161, "first")
			is(t, api.ErrJournal, j.Append([]string{"third"}), j.Append(nil), j.Append([]string{}))
			is(t, api.ErrJournal, j.Append([]string{strings.Repeat("x", 500)}), j.Append([]string{strings.Repeat("x", 65537)}))
			is(t, api.OK, d.Crash(nil, -1))
		}
		k := open(t, d)
		is(t, api.OK, k.Append([]string{"fourth"}))
		has(t, k, 121, "first", "fourth")
		has(t, j, 161, "first")
	}
}

// TestP10_1Refused checks that an Append that is refused before it calls the disk does not
// call it, and breaks nothing.
func TestP10_1Refused(t *testing.T) {
	d, j := start(t, 200)
	is(t, api.OK, j.Append([]string{"ab"}))
	before := content(t, d)
	is(t, api.OK, d.Cut(1))
	long := strings.Repeat("x", 65537)
	is(t, api.OK, j.Append(nil), j.Append([]string{}))
	is(t, api.ErrFull, j.Append([]string{long[:65536]}), j.Append([]string{"a", long[:130]}), j.Append(make([]string, 5)))
	// a string that is too long is the first error, wherever it is
	is(t, api.ErrJournal, j.Append([]string{long}), j.Append([]string{long, "a"}), j.Append([]string{"a", long}))
	is(t, api.ErrJournal, j.Append([]string{long[:65536], long}))
	has(t, j, 164, "ab")
	is(t, api.OK, d.Write(0, ""))
	is(t, api.ErrPower, d.Sync())
	// without power, what is refused, or does nothing, is still no error of the disk
	is(t, api.OK, j.Append(nil))
	is(t, api.ErrFull, j.Append(make([]string, 5)))
	is(t, api.ErrJournal, j.Append([]string{long}))
	is(t, api.OK, d.Crash(nil, -1))
	if content(t, d) != before {
		t.Error("changed")
	}
	is(t, api.OK, j.Append([]string{"cd"}))
	has(t, j, 128, "ab", "cd")
}

// TestP10_1TwoWrites checks the order in which an Append writes: what is visible, and what is
// durable, when the power fails at the first write and at the second one, and that there is
// no third one.
func TestP10_1TwoWrites(t *testing.T) {
	all := allStored([]string{"ab", "cd", "e"})
	old, zeros := len(stored([]string{"ab"})), strings.Repeat("\x00", 200)
	for _, c := range []struct {
		cut        int
		keep       []int
		torn       int
		want       api.Errno
		begin, end int // the bytes of the group that are on the disk
	}{
		{1, nil, -1, api.ErrPower, 0, 0},
		{1, []int{0}, -1, api.ErrPower, old + 1, len(all)},
		{1, []int{0}, 3, api.ErrPower, old + 1, old + 4},
		{2, nil, -1, api.ErrPower, old + 1, len(all)},
		{2, []int{0}, 0, api.ErrPower, old + 1, len(all)},
		{2, []int{0}, -1, api.ErrPower, old, len(all)},
		{3, nil, -1, api.OK, old, len(all)},
	} {
		d, j := start(t, 200)
		is(t, api.OK, j.Append([]string{"ab"}), d.Cut(c.cut))
		is(t, c.want, j.Append([]string{"cd", "e"}))
		if c.want == api.OK {
			is(t, api.OK, d.Write(0, ""))
		}
		is(t, api.ErrPower, d.Sync())
		is(t, api.OK, d.Crash(c.keep, c.torn))
		group := all[c.begin:c.end]
		want := all[:old] + zeros[:max(c.begin-old, 0)] + group
		want += zeros[len(want):]
		if s := content(t, d); s != want {
			t.Errorf("%v\n%x\n%x", c, s, want)
		}
	}
}

// TestP10_1Lengths appends records of lengths at which the encoding of the length changes, and
// of the greatest length.
func TestP10_1Lengths(t *testing.T) {
	d, j := start(t, 1<<18)
	var want []string
	room := 1 << 18
	for _, c := range []struct{ length, more int }{
		{0, 34}, {1, 34}, {63, 34}, {64, 35}, {127, 35}, {128, 35}, {8191, 35}, {8192, 36}, {65535, 36}, {65536, 36},
	} {
		s := strings.Repeat(string(rune('a'+len(want))), c.length)
		is(t, api.OK, j.Append([]string{s}))
		want = append(want, s)
		room -= c.length + c.more
		has(t, j, room, want...)
	}
	if s := content(t, d); s != allStored(want)+strings.Repeat("\x00", room) {
		t.Error(short(s))
	}
	has(t, open(t, d), room, want...)
}

// TestP10_1Others checks that a journal goes by what it keeps, whatever others do to its disk.
func TestP10_1Others(t *testing.T) {
	d, j := start(t, 150)
	k := open(t, d)
	is(t, api.OK, j.Append([]string{"ab"}))
	has(t, k, 150)
	is(t, api.OK, k.Append([]string{"xyz"}))
	has(t, j, 114, "ab")
	has(t, open(t, d), 113, "xyz")
	is(t, api.OK, d.Write(0, strings.Repeat("\xff", 36)))
	is(t, api.OK, j.Append([]string{"cd"}))
	has(t, j, 78, "ab", "cd")
	refused(t, d, api.ErrDamaged)
	is(t, api.OK, d.Write(0, stored([]string{"ab"})))
	has(t, open(t, d), 78, "ab", "cd")
}

// TestP10_1Memory checks that arguments are neither changed nor kept, and that results are
// new memory.
func TestP10_1Memory(t *testing.T) {
	d, j := start(t, 200)
	l := []string{"ab", "cd", "ef", "gh"}
	is(t, api.OK, j.Append(l[:2]))
	if !slices.Equal(l, []string{"ab", "cd", "ef", "gh"}) {
		t.Error(l)
	}
	l[0], l[1] = "x", "y"
	has(t, j, 128, "ab", "cd")
	got := j.Records()
	got[0] = "z"
	_ = append(got[:1], "z", "z", "z")
	has(t, j, 128, "ab", "cd")
	got = j.Records()
	is(t, api.OK, j.Append([]string{"ij"}))
	if more := append(got, "z"); !slices.Equal(got, []string{"ab", "cd"}) || len(more) != 3 {
		t.Error(got, more)
	}
	has(t, j, 92, "ab", "cd", "ij")
	has(t, open(t, d), 92, "ab", "cd", "ij")
}

// TestP10_1Independent checks that two journals on two disks do not know of each other.
func TestP10_1Independent(t *testing.T) {
	d, j := start(t, 200)
	e, k := start(t, 100)
	is(t, api.OK, j.Append([]string{"a"}), d.Cut(0))
	is(t, api.ErrPower, j.Append([]string{"b"}))
	is(t, api.OK, k.Append([]string{"c"}), k.Append([]string{"d"}))
	has(t, j, 165, "a")
	has(t, k, 30, "c", "d")
	has(t, open(t, e), 30, "c", "d")
}
