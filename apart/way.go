package apart

import "polygons/plane"

// way is a direction, and how far.
type way struct {
	x, y int64
}

// along gives the way of a segment.
func along(s plane.Segment) way {
	return way{x: int64(s.B.X) - int64(s.A.X), y: int64(s.B.Y) - int64(s.A.Y)}
}

// turn is above 0, if one turns left from the way to the other; below 0, if
// right; 0, if they are on one line.
func (w way) turn(other way) int64 {
	return w.x*other.y - w.y*other.x
}

func (w way) back() way {
	return way{x: -w.x, y: -w.y}
}

// right gives the way that is turned a quarter to the right.
func (w way) right() way {
	return way{x: w.y, y: -w.x}
}

func amount(n int64) int64 {
	if n < 0 {
		return -n
	}
	return n
}
