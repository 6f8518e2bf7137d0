package journal_test

import (
	"crypto/sha256"
	"encoding/binary"
	"fmt"
	"math/rand"
	"slices"
	"strconv"
	"strings"
	"testing"

	"dialtone/api"
	"dialtone/disk"
	"dialtone/journal"
)

// headOf returns the head of records.
func headOf(records []string) string {
	head := make([]byte, 32)
	for _, s := range records {
		sum := sha256.Sum256(slices.Concat([]byte{2}, head, []byte(s)))
		head = sum[:]
	}
	return string(head)
}

// stored returns the last one of some records as it is stored.
func stored(records []string) string {
	last := records[len(records)-1]
	length := binary.AppendUvarint(nil, 2*uint64(len(last)))
	return "\x01" + string(length) + last + headOf(records)
}

// allStored returns all the records as they are stored, one after the other.
func allStored(records []string) string {
	var b strings.Builder
	for i := range records {
		b.WriteString(stored(records[:i+1]))
	}
	return b.String()
}

// found returns the records that are stored in a content, and their end; false if it is
// damaged.
func found(content string) ([]string, int, bool) {
	var records []string
	end := 0
	for end < len(content) && content[end] != 0 {
		length, n := binary.Uvarint([]byte(content[end+1:]))
		if n <= 0 || length/2 > min(65536, uint64(len(content)-end-1-n)) {
			return nil, 0, false
		}
		text := content[end+1+n:][:length/2]
		records = append(records, text)
		s := stored(records)
		if len(s) > len(content)-end || content[end:][:len(s)] != s {
			return nil, 0, false
		}
		end += len(s)
	}
	return records, end, true
}

// model is a journal as the chapter describes it, on a disk of its own.
type model struct {
	d       *disk.Disk
	records []string
	end     int
	broken  bool
}

// opened is Open.
func opened(d *disk.Disk) (*model, api.Errno) {
	content, err := d.Read(0, d.Size())
	if err != api.OK {
		return nil, err
	}
	records, end, ok := found(content)
	if !ok {
		return nil, api.ErrDamaged
	}
	for i := end; i < len(content); i++ {
		if content[i] == 0 {
			continue
		}
		if err := d.Write(end, string(make([]byte, len(content)-end))); err != api.OK {
			return nil, err
		}
		if err := d.Sync(); err != api.OK {
			return nil, err
		}
		break
	}
	return &model{d: d, records: records, end: end}, api.OK
}

// append is Append.
func (m *model) append(l []string) api.Errno {
	if m.broken || slices.ContainsFunc(l, func(s string) bool { return len(s) > 65536 }) {
		return api.ErrJournal
	}
	after := slices.Concat(m.records, l)
	s := allStored(after)[len(allStored(m.records)):]
	switch {
	case len(s) > m.room():
		return api.ErrFull
	case s == "":
		return api.OK
	}
	m.broken = true
	if err := m.d.Write(m.end+1, s[1:]); err != api.OK {
		return err
	}
	if err := m.d.Sync(); err != api.OK {
		return err
	}
	if err := m.d.Write(m.end, "\x01"); err != api.OK {
		return err
	}
	if err := m.d.Sync(); err != api.OK {
		return err
	}
	*m = model{d: m.d, records: after, end: m.end + len(s)}
	return api.OK
}

func (m *model) room() int {
	return m.d.Size() - m.end
}

// pair is a disk with two journals that know nothing of each other (or with none), and the
// same once more with models, to which the same is done.
type pair struct {
	d, e     *disk.Disk
	journals [2]*journal.Journal
	models   [2]*model
}

func newPair(t *testing.T, size int) *pair {
	t.Helper()
	p := &pair{d: made(t, size), e: made(t, size)}
	p.do(t, step{call: "open"})
	return p
}

// made returns a new disk.
func made(t *testing.T, size int) *disk.Disk {
	t.Helper()
	d, err := disk.New(size)
	if d == nil || err != api.OK {
		t.Fatal(size, d, err)
	}
	return d
}

// step is a call for the journal or the disk: its name, two numbers, a string and two lists.
type step struct {
	call string
	a, b int // which one of the journals, if the call is for one, is a
	s    string
	l    []string
	keep []int
}

// String is how a failed test names the call.
func (x step) String() string {
	return fmt.Sprint(x.call, " ", x.a, " ", x.b, " ", short(x.s), " ", shorts(x.l), " ", x.keep)
}

// short returns s in quotes, or how it begins if it is long.
func short(s string) string {
	if len(s) > 80 {
		return strconv.Quote(s[:80]) + ".."
	}
	return strconv.Quote(s)
}

func shorts(l []string) string {
	if len(l) > 8 {
		return shorts(l[:8]) + ".."
	}
	var b strings.Builder
	for _, s := range l {
		b.WriteString(short(s) + " ")
	}
	return b.String()
}

// do makes the call for both, and compares what it returns, and what can be seen after it.
func (p *pair) do(t *testing.T, x step) {
	t.Helper()
	var got, want api.Errno
	switch x.call {
	case "open":
		p.journals[x.a], got = journal.Open(p.d)
		p.models[x.a], want = opened(p.e)
	case "append":
		if p.models[x.a] == nil {
			want = api.ErrNil
		} else {
			want = p.models[x.a].append(x.l)
		}
		got = p.journals[x.a].Append(x.l)
	case "write":
		got, want = p.d.Write(x.a, x.s), p.e.Write(x.a, x.s)
	case "sync":
		got, want = p.d.Sync(), p.e.Sync()
	case "cut":
		got, want = p.d.Cut(x.a), p.e.Cut(x.a)
	case "crash":
		got, want = p.d.Crash(x.keep, x.b), p.e.Crash(x.keep, x.b)
	}
	if got != want {
		t.Fatal(x, got, "is not", want)
	}
	p.look(t, x)
}

// look compares what can be seen of the journals and of the disk after the call x.
func (p *pair) look(t *testing.T, x step) {
	t.Helper()
	for i, j := range p.journals {
		m := p.models[i]
		if (j == nil) != (m == nil) {
			t.Fatal("after", x, j, m)
		}
		if m == nil {
			m = &model{d: nil}
		}
		if l := j.Records(); !slices.Equal(l, m.records) || j.Room() != m.room() {
			t.Fatal("after", x, i, shorts(l), j.Room(), "is not", shorts(m.records), m.room())
		}
	}
	if p.d.Pending() != p.e.Pending() {
		t.Fatal("after", x, p.d.Pending(), "is not", p.e.Pending())
	}
	got, err := p.d.Read(0, p.d.Size())
	want, wanted := p.e.Read(0, p.e.Size())
	if got != want || err != wanted {
		t.Fatal("after", x, short(got), err, "is not", short(want), wanted)
	}
}

// text returns some bytes, that many.
func text(r *rand.Rand, n int) string {
	var b strings.Builder
	for range n {
		b.WriteByte("abc\x00\x00\x01\x02\x80\xff"[r.Intn(9)])
	}
	return b.String()
}

// someGroup returns a few records, most of them short.
func someGroup(r *rand.Rand) []string {
	var l []string
	for range r.Intn(5) {
		n := r.Intn(4)
		if r.Intn(6) == 0 {
			n = r.Intn(80)
		}
		l = append(l, text(r, n))
	}
	if r.Intn(20) == 0 {
		l = append(l, strings.Repeat("x", 65535+r.Intn(3)))
	}
	return l
}

// someStep returns a call that suits a disk of that size; calls for the first one of the
// journals are the most frequent ones.
func someStep(r *rand.Rand, size int) step {
	which := r.Intn(6) / 5
	switch r.Intn(20) {
	case 0, 1, 2:
		return step{call: "open", a: which}
	case 3, 4, 5:
		return step{call: "crash", b: r.Intn(size+4) - 2, keep: [][]int{nil, {0}, {1}, {0, 1}}[r.Intn(4)]}
	case 6, 7, 8:
		return step{call: "cut", a: r.Intn(7)}
	case 9:
		return step{call: "sync"}
	case 10:
		off := r.Intn(size + 1)
		return step{call: "write", a: off, s: text(r, r.Intn(min(size-off, 3)+1))}
	case 11:
		off := r.Intn(size + 1)
		return step{call: "write", a: off, s: string(make([]byte, r.Intn(size-off+1)))}
	}
	return step{call: "append", a: which, l: someGroup(r)}
}

func TestP10_1RandomSteps(t *testing.T) {
	r := rand.New(rand.NewSource(101))
	for i := range 3000 {
		p := newPair(t, 1+r.Intn([]int{40, 200, 500, 2000}[i%4]))
		for range 60 {
			p.do(t, someStep(r, p.d.Size()))
		}
	}
}

// TestP10_1AllSteps tries all lists of five of some calls, where two records without text fit
// on the disk, and no third one.
func TestP10_1AllSteps(t *testing.T) {
	steps := []step{
		{call: "open"},
		{call: "open", a: 1},
		{call: "append", l: []string{""}},
		{call: "append", l: []string{"", "\x01"}},
		{call: "append", a: 1, l: []string{"a"}},
		{call: "append"},
		{call: "cut", a: 0},
		{call: "cut", a: 1},
		{call: "cut", a: 2},
		{call: "crash", keep: []int{0}, b: -1},
		{call: "crash", keep: []int{0}, b: 20},
	}
	const calls = 5
	lists := 1
	for range calls {
		lists *= len(steps)
	}
	for list := range lists {
		p := newPair(t, 2*34+9)
		for rest := list + lists; rest > 1; rest /= len(steps) {
			p.do(t, steps[rest%len(steps)])
		}
	}
}
