package plane

import "polygons/api"

// How two segments meet.
const (
	Apart    = 0 // they have no point in common
	Touching = 1 // a single one, an end of one of them or of both
	Crossing = 2 // a single one, an end of neither
	Along    = 3 // more than one
)

// Segment goes from A to B.
type Segment struct {
	A, B api.Pt
}

// Side tells where a spot lies: 1 left of the way from A to B, -1 right of it,
// 0 on its line.
func (s Segment) Side(p Spot) int {
	alongX := int64(s.B.X) - int64(s.A.X)
	alongY := int64(s.B.Y) - int64(s.A.Y)
	awayX := p.X - int64(s.A.X)*p.W
	awayY := p.Y - int64(s.A.Y)*p.W
	return sign(alongX*awayY - alongY*awayX)
}

// Has tells whether a spot lies on the segment, its ends included.
func (s Segment) Has(p Spot) bool {
	if s.Side(p) != 0 {
		return false
	}
	return isBetween(int64(s.A.X)*p.W, p.X, int64(s.B.X)*p.W) && isBetween(int64(s.A.Y)*p.W, p.Y, int64(s.B.Y)*p.W)
}

// isBetween tells whether m lies between the two ends, whichever is the greater.
func isBetween(end int64, m int64, other int64) bool {
	return end <= m && m <= other || other <= m && m <= end
}

// Meet tells how two segments meet.
func Meet(s Segment, t Segment) int {
	sideA := s.Side(At(t.A))
	sideB := s.Side(At(t.B))
	otherA := t.Side(At(s.A))
	otherB := t.Side(At(s.B))
	if sideA == 0 && sideB == 0 && otherA == 0 && otherB == 0 {
		return meetOnLine(s.forward(), t.forward())
	}
	if sideA*sideB > 0 || otherA*otherB > 0 {
		return Apart
	}
	if sideA*sideB*otherA*otherB == 0 {
		return Touching
	}
	return Crossing
}

// meetOnLine tells how two segments meet that lie on one line and go forward.
func meetOnLine(s Segment, t Segment) int {
	first := s.A
	if Before(first, t.A) {
		first = t.A
	}
	last := s.B
	if Before(t.B, last) {
		last = t.B
	}
	if Before(first, last) {
		return Along
	}
	if first == last {
		return Touching
	}
	return Apart
}

// forward gives the same segment with A before B.
func (s Segment) forward() Segment {
	if Before(s.B, s.A) {
		return Segment{A: s.B, B: s.A}
	}
	return s
}

// Middles cuts the segment at those points of the rings that lie on it, and
// gives the middle of each part.
func (s Segment) Middles(rings [][]api.Pt) []Spot {
	var middles []Spot
	way := s.forward()
	from := way.A
	for from != way.B {
		to := way.nextCut(from, rings)
		middles = append(middles, Middle(from, to))
		from = to
	}
	return middles
}

// nextCut gives the cut that follows from on a segment that goes forward; its
// end, if there is none.
func (s Segment) nextCut(from api.Pt, rings [][]api.Pt) api.Pt {
	to := s.B
	for _, ring := range rings {
		for _, p := range ring {
			if Before(from, p) && Before(p, to) && s.Has(At(p)) {
				to = p
			}
		}
	}
	return to
}
