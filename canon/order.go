package canon

import (
	"polygons/api"
	"polygons/plane"
)

// inOrder gives the polygons in the order of their rings, one by one.
func inOrder(polys [][][]api.Pt) [][][]api.Pt {
	order := make([][][]api.Pt, len(polys))
	for i, rings := range polys {
		order[countAhead(polys, i)] = rings
	}
	return order
}

// countAhead counts the polygons that come ahead of one; those that are the
// same stay as they stand, so that each has a place of its own.
func countAhead(polys [][][]api.Pt, at int) int {
	count := 0
	for i, rings := range polys {
		how := comparePolygons(rings, polys[at])
		if how < 0 || how == 0 && i < at {
			count++
		}
	}
	return count
}

// comparePolygons gives -1, if the first comes ahead; 1, if the other does; 0,
// if they are the same.
func comparePolygons(rings [][]api.Pt, others [][]api.Pt) int {
	for i, ring := range rings {
		if i == len(others) {
			return 1
		}
		how := compareRings(ring, others[i])
		if how != 0 {
			return how
		}
	}
	if len(rings) < len(others) {
		return -1
	}
	return 0
}

// compareRings answers as comparePolygons does.
func compareRings(ring []api.Pt, other []api.Pt) int {
	for i, p := range ring {
		if i == len(other) || plane.Before(other[i], p) {
			return 1
		}
		if plane.Before(p, other[i]) {
			return -1
		}
	}
	if len(ring) < len(other) {
		return -1
	}
	return 0
}
