package plane

import "polygons/api"

// InSet tells whether a spot lies in one of the polygons, borders included
// (P9).
func InSet(polys [][][]api.Pt, p Spot) bool {
	for _, rings := range polys {
		if inPolygon(rings, p) {
			return true
		}
	}
	return false
}

func inPolygon(rings [][]api.Pt, p Spot) bool {
	for i, ring := range rings {
		place := Place(ring, p)
		if i == 0 && place == Outside || i > 0 && place == Within {
			return false
		}
	}
	return len(rings) > 0
}
