package clauses

import (
	"polygons/api"
	"polygons/plane"
)

// links has a group for each ring: rings from which there is a way to each
// other over the touch points so far have the same one.
type links struct {
	group []int
}

// hasWayRound tells whether there is a way round from ring to touch point to
// ring. There is one, just if a touch point joins two rings between which
// there is a way over other touch points.
func hasWayRound(rings [][]api.Pt) bool {
	var l links
	for i := range rings {
		l.group = append(l.group, i)
	}
	for _, p := range touchPoints(rings) {
		if !l.join(ringsAt(rings, p)) {
			return true
		}
	}
	return false
}

// join makes one group of the rings; false, if two of them had one already.
func (l *links) join(joined []int) bool {
	for i := 1; i < len(joined); i++ {
		old := l.group[joined[i]]
		first := l.group[joined[0]]
		if old == first {
			return false
		}
		for r, g := range l.group {
			if g == old {
				l.group[r] = first
			}
		}
	}
	return true
}

// touchPoints gives each touch point once: joined twice, it would seem a way
// round.
func touchPoints(rings [][]api.Pt) []api.Pt {
	var points []api.Pt
	for _, ring := range rings {
		for _, p := range ring {
			if !isAmong(points, p) && len(ringsAt(rings, p)) > 1 {
				points = append(points, p)
			}
		}
	}
	return points
}

func isAmong(points []api.Pt, p api.Pt) bool {
	for _, q := range points {
		if p == q {
			return true
		}
	}
	return false
}

// ringsAt gives the places in the list of the rings on which a point lies.
func ringsAt(rings [][]api.Pt, p api.Pt) []int {
	var at []int
	for i, ring := range rings {
		if plane.Place(ring, plane.At(p)) == plane.On {
			at = append(at, i)
		}
	}
	return at
}
