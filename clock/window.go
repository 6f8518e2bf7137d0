package clock

import "dialtone/api"

// window is the true seconds from first to last; there are none if first is greater.
type window struct {
	first int
	last  int
}

// narrow takes from the window what lies before low or after high.
func (w *window) narrow(low int, high int) {
	w.first = max(w.first, low)
	w.last = min(w.last, high)
}

// showing returns the window of the true seconds at which the valid clock c may show the
// second local.
func showing(c api.Clock, local int) window {
	w := window{0, api.MaxTime}
	eachBounds(c, local, w.narrow)
	return w
}

// eachBounds calls use with the lower and the upper bound that each reading of c gives.
func eachBounds(c api.Clock, local int, use func(low int, high int)) {
	for _, r := range c.Readings {
		least, greatest := Spread(c.Drift, distance(r.Local, local))
		switch {
		case local > r.Local:
			use(r.Low+least, r.High+greatest)
		case local < r.Local:
			use(r.Low-greatest, r.High-least)
		default:
			// the clock may show this second already before the reading, and still after it
			use(r.Low-greatest, r.High+greatest)
		}
	}
}

func distance(a int, b int) int {
	return max(a, b) - min(a, b)
}
