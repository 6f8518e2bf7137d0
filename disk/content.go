package disk

// content is all bytes of a disk.
type content []byte

// write is bytes that replace those from an offset on.
type write struct {
	off  int
	text string
}

// has reports whether the n bytes from off on are bytes of c. (The sum of off and n may be
// too large for an int.)
func (c content) has(off int, n int) bool {
	return 0 <= off && 0 <= n && n <= len(c)-off
}

// take lets w replace bytes of c.
func (c content) take(w write) {
	copy(c[w.off:], w.text)
}

// torn returns what remains of w if only that many bytes of it are written.
func (w write) torn(bytes int) write {
	return write{off: w.off, text: w.text[:min(bytes, len(w.text))]}
}

// surviving returns the pending writes whose numbers occur in keep, in their order.
func (d *Disk) surviving(keep []int) []write {
	survives := make([]bool, len(d.pending))
	for _, i := range keep {
		if 0 <= i && i < len(survives) {
			survives[i] = true
		}
	}
	var l []write
	for i, w := range d.pending {
		if survives[i] {
			l = append(l, w)
		}
	}
	return l
}

// forget ends all pending writes. They are cleared, as the disk would keep their bytes
// otherwise.
func (d *Disk) forget() {
	clear(d.pending)
	d.pending = d.pending[:0]
}
