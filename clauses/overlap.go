package clauses

import (
	"polygons/api"
	"polygons/plane"
)

func overlap(polys [][][]api.Pt) bool {
	for j, other := range polys {
		for i := 0; i < j; i++ {
			if boundsCross(polys[i], other) || enters(polys[i], other) || enters(other, polys[i]) {
				return true
			}
		}
	}
	return false
}

func boundsCross(rings [][]api.Pt, others [][]api.Pt) bool {
	for _, ring := range rings {
		for _, other := range others {
			if cross(ring, other) {
				return true
			}
		}
	}
	return false
}

// enters tells whether a part of the rings lies in the polygon.
func enters(rings [][]api.Pt, polygon [][]api.Pt) bool {
	for _, ring := range rings {
		for _, s := range plane.Segments(ring) {
			for _, middle := range s.Middles(polygon) {
				if !isFree(polygon, middle) {
					return true
				}
			}
		}
	}
	return false
}

// isFree tells whether a spot lies outside the shell or within a hole, and on
// no ring.
func isFree(polygon [][]api.Pt, p plane.Spot) bool {
	free := false
	for i, ring := range polygon {
		place := plane.Place(ring, p)
		if place == plane.On {
			return false
		}
		if i == 0 && place == plane.Outside || i > 0 && place == plane.Within {
			free = true
		}
	}
	return free
}
