// Package clauses tells whether a set is valid (P7).
package clauses

import (
	"polygons/api"
	"polygons/plane"
)

// Least tells the least clause that does not hold somewhere in the set; Valid,
// if all hold. So each clause is asked only when those ahead of it hold of all
// rings.
func Least(polys [][][]api.Pt) int {
	for clause := api.Ring; clause <= api.Parted; clause++ {
		for _, rings := range polys {
			if !holds(clause, rings) {
				return clause
			}
		}
	}
	if overlap(polys) {
		return api.Overlap
	}
	return api.Valid
}

// holds asks a clause that speaks of one polygon alone.
func holds(clause int, rings [][]api.Pt) bool {
	switch clause {
	case api.Ring:
		return areSimple(rings)
	case api.Rings:
		return touchAtMost(rings)
	case api.Nested:
		return areNested(rings)
	}
	return !hasWayRound(rings)
}

func areSimple(rings [][]api.Pt) bool {
	for _, ring := range rings {
		if hasTwice(ring) || meetsItself(ring) {
			return false
		}
	}
	return true
}

// hasTwice tells whether two vertices are the same. The first point is left
// out: the last is the same one.
func hasTwice(ring []api.Pt) bool {
	for i := 1; i < len(ring); i++ {
		for j := i + 1; j < len(ring); j++ {
			if ring[i] == ring[j] {
				return true
			}
		}
	}
	return false
}

func meetsItself(ring []api.Pt) bool {
	segments := plane.Segments(ring)
	for j, t := range segments {
		for i := 0; i < j; i++ {
			want := plane.Apart
			if i+1 == j || i == 0 && j == len(segments)-1 {
				want = plane.Touching
			}
			if plane.Meet(segments[i], t) != want {
				return true
			}
		}
	}
	return false
}

func touchAtMost(rings [][]api.Pt) bool {
	for j, other := range rings {
		for i := 0; i < j; i++ {
			if cross(rings[i], other) {
				return false
			}
		}
	}
	return true
}

// cross tells whether two rings meet in more than single points that are ends
// of a segment.
func cross(ring []api.Pt, other []api.Pt) bool {
	segments := plane.Segments(other)
	for _, s := range plane.Segments(ring) {
		for _, t := range segments {
			how := plane.Meet(s, t)
			if how == plane.Crossing || how == plane.Along {
				return true
			}
		}
	}
	return false
}

func areNested(rings [][]api.Pt) bool {
	for i := 1; i < len(rings); i++ {
		for j, other := range rings {
			want := plane.Outside
			if j == 0 {
				want = plane.Within
			}
			if i != j && !lies(rings[i], other, want) {
				return false
			}
		}
	}
	return true
}

// lies tells whether all of a ring lies at one place of another, but for the
// points in which they touch.
func lies(ring []api.Pt, other []api.Pt, place int) bool {
	for _, s := range plane.Segments(ring) {
		for _, middle := range s.Middles([][]api.Pt{other}) {
			if plane.Place(other, middle) != place {
				return false
			}
		}
	}
	return true
}
