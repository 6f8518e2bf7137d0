package disk_test

import (
	"fmt"
	"math"
	"math/rand"
	"slices"
	"strconv"
	"strings"
	"testing"

	"dialtone/api"
	"dialtone/disk"
)

// model is a disk as the chapter describes it: the visible content is worked out anew
// whenever it is needed.
type model struct {
	durable []byte
	pending []piece
	lost    bool
	cut     int // 0 if no cut is scheduled
}

// piece is a pending write.
type piece struct {
	off int
	s   string
}

// put returns a copy of b in which s replaces the bytes from off on.
func put(b []byte, off int, s string) []byte {
	return slices.Concat(b[:off], []byte(s), b[off+len(s):])
}

func (m *model) visible() []byte {
	b := slices.Clone(m.durable)
	for _, p := range m.pending {
		b = put(b, p.off, p.s)
	}
	return b
}

func (m *model) write(off int, s string) api.Errno {
	switch {
	case m.lost:
		return api.ErrPower
	case off < 0 || off > len(m.durable) || off+len(s) > len(m.durable):
		return api.ErrDisk
	}
	m.pending = append(m.pending, piece{off, s})
	if m.cut > 0 {
		m.cut--
		m.lost = m.cut == 0
	}
	return api.OK
}

func (m *model) sync() api.Errno {
	if m.lost {
		return api.ErrPower
	}
	m.durable, m.pending = m.visible(), nil
	return api.OK
}

func (m *model) read(off int, n int) (string, api.Errno) {
	switch {
	case m.lost:
		return "", api.ErrPower
	case off < 0 || n < 0 || off > len(m.durable) || n > len(m.durable) || off+n > len(m.durable):
		return "", api.ErrDisk
	}
	return string(m.visible()[off : off+n]), api.OK
}

func (m *model) cutAfter(n int) api.Errno {
	switch {
	case m.lost:
		return api.ErrPower
	case n < 0:
		return api.ErrArg
	}
	m.cut, m.lost = n, n == 0
	return api.OK
}

func (m *model) crash(keep []int, torn int) api.Errno {
	last := -1
	for i := range m.pending {
		if slices.Contains(keep, i) {
			last = i
		}
	}
	for i, p := range m.pending {
		if !slices.Contains(keep, i) {
			continue
		}
		if i == last && 0 <= torn && torn < len(p.s) {
			p.s = p.s[:torn]
		}
		m.durable = put(m.durable, p.off, p.s)
	}
	m.pending, m.lost, m.cut = nil, false, 0
	return api.OK
}

// pair is a disk and its model, to which the same is done.
type pair struct {
	d *disk.Disk
	m model
}

func newPair(t *testing.T, size int) *pair {
	t.Helper()
	return &pair{made(t, size), model{durable: make([]byte, size)}}
}

// made returns a new disk.
func made(t *testing.T, size int) *disk.Disk {
	t.Helper()
	d, err := disk.New(size)
	if d == nil || err != api.OK {
		t.Fatal(size, d, err)
	}
	return d
}

// step is a call: its name, two numbers, a string and a list.
type step struct {
	call string
	a, b int
	s    string
	keep []int
}

// String is how a failed test names the call.
func (x step) String() string {
	return fmt.Sprint(x.call, " ", x.a, " ", x.b, " ", short(x.s), " ", x.keep)
}

// short returns s in quotes, or how it begins if it is long.
func short(s string) string {
	if len(s) > 80 {
		return strconv.Quote(s[:80]) + ".."
	}
	return strconv.Quote(s)
}

// do makes the call on the disk and on the model, and compares what they return, and what
// can be seen of both of them after it.
func (p *pair) do(t *testing.T, x step) {
	t.Helper()
	var got, want api.Errno
	var read, wanted string
	switch x.call {
	case "write":
		got, want = p.d.Write(x.a, x.s), p.m.write(x.a, x.s)
	case "sync":
		got, want = p.d.Sync(), p.m.sync()
	case "read":
		read, got = p.d.Read(x.a, x.b)
		wanted, want = p.m.read(x.a, x.b)
	case "cut":
		got, want = p.d.Cut(x.a), p.m.cutAfter(x.a)
	case "crash":
		got, want = p.d.Crash(x.keep, x.a), p.m.crash(x.keep, x.a)
	}
	if got != want || read != wanted {
		t.Fatal(x, short(read), got, "is not", short(wanted), want)
	}
	p.look(t, x)
}

// look compares what can be seen of the disk and of the model after the call x.
func (p *pair) look(t *testing.T, x step) {
	t.Helper()
	size := len(p.m.durable)
	if p.d.Size() != size || p.d.Pending() != len(p.m.pending) {
		t.Fatal(x, p.d.Size(), p.d.Pending(), "is not", size, len(p.m.pending))
	}
	read, got := p.d.Read(0, size)
	wanted, want := p.m.read(0, size)
	if got != want || read != wanted {
		t.Fatal("after", x, short(read), got, "is not", short(wanted), want)
	}
}

// text returns some bytes, that many.
func text(r *rand.Rand, n int) string {
	var b strings.Builder
	for range n {
		b.WriteByte("abcxyz\x00\x01\xff"[r.Intn(9)])
	}
	return b.String()
}

// someStep returns a call that suits a disk of that size, or, now and then, does not.
func someStep(r *rand.Rand, size int, pending int) step {
	off := r.Intn(size + 1)
	n := r.Intn(size - off + 1)
	if r.Intn(12) == 0 {
		off = []int{-1, size + 1, math.MinInt, math.MaxInt, r.Intn(size + 1)}[r.Intn(5)]
		n = r.Intn(size + 3)
	}
	switch r.Intn(20) {
	case 0, 1, 2:
		return step{call: "sync"}
	case 3, 4:
		if r.Intn(12) == 0 {
			n = []int{-1, math.MinInt, math.MaxInt}[r.Intn(3)]
		}
		return step{call: "read", a: off, b: n}
	case 5:
		return step{call: "cut", a: []int{-1, 0, 1, 2, 3, 5, 8}[r.Intn(7)]}
	case 6, 7:
		return step{call: "crash", a: r.Intn(size+4) - 2, keep: someKeep(r, pending)}
	}
	return step{call: "write", a: off, s: text(r, n)}
}

// someKeep returns numbers of pending writes, with some repetitions and some that are no
// number of one.
func someKeep(r *rand.Rand, pending int) []int {
	var keep []int
	for i := range pending {
		for r.Intn(3) != 0 {
			keep = append(keep, i)
		}
	}
	for r.Intn(3) == 0 {
		keep = append(keep, []int{-1, pending, pending + 1, math.MinInt, math.MaxInt}[r.Intn(5)])
	}
	r.Shuffle(len(keep), func(i, j int) { keep[i], keep[j] = keep[j], keep[i] })
	return keep
}

func TestP9_1RandomSteps(t *testing.T) {
	r := rand.New(rand.NewSource(91))
	for i := range 1500 {
		p := newPair(t, 1+r.Intn([]int{1, 3, 8, 40}[i%4]))
		for range 100 {
			p.do(t, someStep(r, len(p.m.durable), len(p.m.pending)))
		}
	}
}

// TestP9_1AllSteps tries all lists of five of some calls on a disk of two bytes.
func TestP9_1AllSteps(t *testing.T) {
	steps := []step{
		{call: "write", a: 0, s: "ab"},
		{call: "write", a: 1, s: "x"},
		{call: "write", a: 2},
		{call: "write", a: 1, s: "yz"},
		{call: "sync"},
		{call: "cut", a: 0},
		{call: "cut", a: 2},
		{call: "crash", a: -1, keep: []int{1}},
		{call: "crash", a: 1, keep: []int{2, 0}},
		{call: "crash", a: 0, keep: []int{1, 0}},
	}
	const calls = 5
	lists := 1
	for range calls {
		lists *= len(steps)
	}
	for list := range lists {
		p := newPair(t, 2)
		for rest := list + lists; rest > 1; rest /= len(steps) {
			p.do(t, steps[rest%len(steps)])
		}
	}
}

// TestP9_1LargeDisk goes through calls on a disk of the greatest size.
func TestP9_1LargeDisk(t *testing.T) {
	p := newPair(t, api.MaxDisk)
	r := rand.New(rand.NewSource(92))
	for _, x := range []step{
		{call: "write", a: 0, s: text(r, api.MaxDisk)},
		{call: "write", a: api.MaxDisk - 3, s: "end"},
		{call: "write", a: api.MaxDisk - 3, s: "over"},
		{call: "sync"},
		{call: "write", a: 0, s: "begin"},
		{call: "write", a: 5, s: text(r, api.MaxDisk-5)},
		{call: "crash", a: api.MaxDisk / 2, keep: []int{1, 0}},
		{call: "write", a: 1, s: "z"},
		{call: "crash", a: -1},
		{call: "read", a: 0, b: api.MaxDisk + 1},
	} {
		p.do(t, x)
	}
}
