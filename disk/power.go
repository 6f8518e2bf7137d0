package disk

// power says whether a disk has lost its power, and when it will: after left more writes,
// unless left is 0.
type power struct {
	lost bool
	left int
}

// cutAfter schedules the loss of the power after n more writes; it is lost now if n is 0.
func (p *power) cutAfter(n int) {
	*p = power{lost: n == 0, left: n}
}

// wrote counts a write.
func (p *power) wrote() {
	if p.left > 0 {
		p.cutAfter(p.left - 1)
	}
}

// restart gives the power back.
func (p *power) restart() {
	*p = power{}
}
