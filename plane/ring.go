package plane

import "polygons/api"

// Where a spot lies, seen from a ring that does not meet itself.
const (
	Outside = 0
	On      = 1
	Within  = 2
)

// Segments gives the segments of a ring, in their order.
func Segments(ring []api.Pt) []Segment {
	var segments []Segment
	for i := 1; i < len(ring); i++ {
		segments = append(segments, Segment{A: ring[i-1], B: ring[i]})
	}
	return segments
}

// Place tells where a spot lies. A ray from a spot within a ring meets the
// ring an odd number of times.
func Place(ring []api.Pt, p Spot) int {
	within := false
	for _, s := range Segments(ring) {
		if s.Has(p) {
			return On
		}
		if s.meetsRay(p) {
			within = !within
		}
	}
	if within {
		return Within
	}
	return Outside
}

// meetsRay tells whether the ray from a spot along the x axis meets the
// segment. An end on the ray counts as one below it: so a ring that only
// touches the ray meets it twice or not at all, and one that passes it meets
// it once, at a vertex too.
func (s Segment) meetsRay(p Spot) bool {
	aboveA := int64(s.A.Y)*p.W > p.Y
	aboveB := int64(s.B.Y)*p.W > p.Y
	if aboveA == aboveB {
		return false
	}
	if aboveB {
		return s.Side(p) > 0
	}
	return s.Side(p) < 0
}
