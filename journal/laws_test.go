package journal_test

import (
	"math/rand"
	"slices"
	"strings"
	"testing"

	"dialtone/api"
	"dialtone/disk"
	"dialtone/journal"
	"dialtone/wire"
)

// writesNothing opens d again, and checks that this writes nothing.
func writesNothing(t *testing.T, d *disk.Disk, room int, records ...string) {
	t.Helper()
	before := content(t, d)
	is(t, api.OK, d.Cut(1))
	has(t, open(t, d), room, records...)
	if content(t, d) != before || d.Pending() != 0 {
		t.Fatal(short(before), d.Pending())
	}
	is(t, api.OK, d.Write(0, ""), d.Crash(nil, -1))
	if content(t, d) != before {
		t.Fatal(short(before))
	}
}

func TestP10_3OpensAgain(t *testing.T) {
	r := rand.New(rand.NewSource(104))
	for range 500 {
		d, j := start(t, 1+r.Intn(2000))
		writesNothing(t, d, d.Size())
		for range 6 {
			j.Append(someGroup(r))
			writesNothing(t, d, j.Room(), j.Records()...)
		}
	}
}

// tryContent opens a disk with that content. What is accepted is compared with what is
// stored of the records, and with what Append stores of them.
func tryContent(t *testing.T, s string) {
	t.Helper()
	l, end, ok := found(s)
	if !ok {
		refused(t, filled(t, s), api.ErrDamaged)
		return
	}
	d := filled(t, s)
	j := open(t, d)
	has(t, j, len(s)-end, l...)
	after := content(t, d)
	if after != allStored(l)+strings.Repeat("\x00", len(s)-end) || after[:end] != s[:end] {
		t.Fatal(short(s), short(after))
	}
	writesNothing(t, d, len(s)-end, l...)
	e, k := start(t, len(s))
	for _, record := range l {
		is(t, api.OK, k.Append([]string{record}))
	}
	if content(t, e) != after {
		t.Fatal(short(after), short(content(t, e)))
	}
}

// TestP10_3AnyContent tries contents that are stored records with some bytes changed, left
// out or put between them, and some that are not.
func TestP10_3AnyContent(t *testing.T) {
	r := rand.New(rand.NewSource(105))
	for range 20000 {
		s := ""
		if l := someGroup(r); r.Intn(8) != 0 && (len(l) == 0 || len(l[len(l)-1]) < 1000) {
			s = allStored(l)
		}
		s += text(r, r.Intn(3))
		for range r.Intn(3) {
			from := r.Intn(len(s) + 1)
			to := min(len(s), from+r.Intn(3))
			s = s[:from] + text(r, r.Intn(3)) + s[to:]
		}
		tryContent(t, s+string(make([]byte, 1+r.Intn(60))))
	}
}

// TestP10_3SmallContents tries all contents of up to four of some bytes, at the beginning and
// after a record.
func TestP10_3SmallContents(t *testing.T) {
	for size := range 5 {
		for n := range 1 << (3 * size) {
			var b strings.Builder
			for rest := n + 1<<(3*size); rest > 1; rest /= 8 {
				b.WriteByte("\x00\x01\x02\x03\x04\x7f\x80\xff"[rest%8])
			}
			if size > 0 {
				tryContent(t, b.String())
			}
			tryContent(t, stored([]string{"a"})+b.String())
		}
	}
}

// lengths returns the offsets of the bytes that encode the lengths of records, and the
// offsets at which the records begin.
func lengths(t *testing.T, records []string) (map[int]bool, []int) {
	t.Helper()
	l, at := map[int]bool{}, 0
	var begins []int
	for _, s := range records {
		begins = append(begins, at)
		text, err := wire.PutString(s)
		if err != api.OK {
			t.Fatal(err)
		}
		for i := range len(text) - len(s) {
			l[at+1+i] = true
		}
		at += 1 + len(text) + 32
	}
	return l, begins
}

// TestP10_4EachByte changes each byte of some stored records to each other value.
func TestP10_4EachByte(t *testing.T) {
	for _, records := range [][]string{{"ab", "", "\x00\x01"}, {"", strings.Repeat("x", 64)}, {stored([]string{"a"})}} {
		whole := allStored(records)
		isLength, begins := lengths(t, records)
		for at := range whole {
			for value := range 256 {
				if byte(value) == whole[at] {
					continue
				}
				s := whole[:at] + string([]byte{byte(value)}) + whole[at+1:] + strings.Repeat("\x00", 9)
				i := slices.Index(begins, at)
				switch {
				case isLength[at]:
					// nothing is said of it but that it is no longer what was stored
					if l, _, ok := found(s); ok && slices.Equal(l, records) {
						t.Error(at, value)
					}
					tryContent(t, s)
				case value == 0 && i >= 0:
					has(t, open(t, filled(t, s)), len(s)-at, records[:i]...)
				default:
					refused(t, filled(t, s), api.ErrDamaged)
				}
			}
		}
	}
}

// TestP10_4Large changes single bytes of long records, and of one of many.
func TestP10_4Large(t *testing.T) {
	r := rand.New(rand.NewSource(106))
	many := make([]string, 300)
	for i := range many {
		many[i] = text(r, r.Intn(70))
	}
	for _, records := range [][]string{many, {strings.Repeat("x", 65536), "", strings.Repeat("\x01", 8192)}} {
		whole := allStored(records)
		isLength, begins := lengths(t, records)
		for range 150 {
			at := r.Intn(len(whole))
			value := whole[at] ^ byte(1<<r.Intn(8))
			if isLength[at] || value == 0 && slices.Contains(begins, at) {
				continue
			}
			refused(t, filled(t, whole[:at]+string([]byte{value})+whole[at+1:]), api.ErrDamaged)
		}
	}
}

// need returns the number of bytes by which the room decreases.
func need(t *testing.T, l []string) int {
	t.Helper()
	n := 0
	for _, s := range l {
		text, err := wire.PutString(s)
		if err != api.OK {
			t.Fatal(err)
		}
		n += 33 + len(text)
	}
	return n
}

// TestP10_5Room appends groups to disks that have exactly enough room for them, one byte less
// and one byte more.
func TestP10_5Room(t *testing.T) {
	r := rand.New(rand.NewSource(107))
	for range 300 {
		group := slices.DeleteFunc(someGroup(r), func(s string) bool { return len(s) > 65536 })
		for _, before := range [][]string{nil, {"ab"}, {"", "cd"}} {
			for more := -1; more <= 1; more++ {
				size := need(t, before) + need(t, group) + more
				if size < max(1, need(t, before)) {
					continue
				}
				d, j := start(t, size)
				is(t, api.OK, j.Append(before))
				checkRoom(t, d, j, group)
			}
		}
	}
}

// checkRoom appends a group, and checks that the room decreases by what it needs, or that
// the group is too long, and changes nothing.
func checkRoom(t *testing.T, d *disk.Disk, j *journal.Journal, group []string) {
	t.Helper()
	room, records, before := j.Room(), j.Records(), content(t, d)
	if n := need(t, group); n <= room {
		is(t, api.OK, j.Append(group))
		has(t, j, room-n, slices.Concat(records, group)...)
		return
	}
	is(t, api.OK, d.Cut(1))
	is(t, api.ErrFull, j.Append(group), j.Append(group))
	has(t, j, room, records...)
	if content(t, d) != before || d.Pending() != 0 {
		t.Fatal("changed")
	}
	is(t, api.OK, d.Crash(nil, -1))
	if room >= 34 {
		is(t, api.OK, j.Append([]string{""}))
		has(t, j, room-34, append(records, "")...)
	}
}

// TestP10_5Greatest fills a disk of the greatest size: with one group of as many records as
// there can be, and with the longest records.
func TestP10_5Greatest(t *testing.T) {
	d, j := start(t, api.MaxDisk)
	many := make([]string, api.MaxDisk/34)
	is(t, api.ErrFull, j.Append(make([]string, len(many)+1)))
	is(t, api.OK, j.Append(many))
	has(t, j, api.MaxDisk-34*len(many), many...)
	has(t, open(t, d), api.MaxDisk-34*len(many), many...)
	is(t, api.ErrFull, j.Append([]string{""}))

	d, j = start(t, api.MaxDisk)
	var records []string
	for range 63 {
		long := strings.Repeat("y", 65536)
		records = append(records, long)
		is(t, api.OK, j.Append(records[len(records)-1:]))
	}
	rest := api.MaxDisk - 63*(65536+36)
	has(t, j, rest, records...)
	is(t, api.ErrFull, j.Append([]string{strings.Repeat("z", rest-35)}))
	records = append(records, strings.Repeat("z", rest-36))
	is(t, api.OK, j.Append(records[63:]))
	has(t, j, 0, records...)
	has(t, open(t, d), 0, records...)
}

// TestP10_5Endless checks that a group that no disk can hold is refused at once.
func TestP10_5Endless(t *testing.T) {
	_, j := start(t, 100)
	group := make([]string, 20000)
	long := strings.Repeat("x", 65536)
	for i := range group {
		group[i] = long
	}
	is(t, api.ErrFull, j.Append(group))
	has(t, j, 100)
	is(t, api.OK, j.Append([]string{"a"}))
}
