// Package apart finds a point that lies in just one of two sets (P10).
//
// Such a point lies at a place where the bounds of the sets part, on a bound
// or so close to it that no other bound is between. No number on the way there
// has more than 52 bits.
package apart

import (
	"polygons/api"
	"polygons/plane"
)

// search is for a point at the bounds of one set.
type search struct {
	other      [][][]api.Pt
	otherEdges []plane.Segment
	bothEdges  []plane.Segment
}

// Spot gives a spot that lies in just one of two valid sets, each written in
// the one way, so that it lies left of its segments. false: there is none. Then
// all bounds of each set are bounds of the other, so that the sets are the same.
func Spot(set [][][]api.Pt, other [][][]api.Pt) (plane.Spot, bool) {
	p, found := atBounds(set, other)
	if found {
		return p, true
	}
	return atBounds(other, set)
}

// atBounds looks at the middles of the parts into which vertices of both sets
// cut the bounds of the first. Through a middle goes one segment of the set and
// at most one of the other.
func atBounds(set [][][]api.Pt, other [][][]api.Pt) (plane.Spot, bool) {
	rings := ringsOf(set)
	others := ringsOf(other)
	var both [][]api.Pt
	both = append(both, rings...)
	both = append(both, others...)
	look := search{other: other, otherEdges: edgesOf(others), bothEdges: edgesOf(both)}
	for _, s := range edgesOf(rings) {
		for _, middle := range s.Middles(both) {
			p, found := look.at(s, middle)
			if found {
				return p, true
			}
		}
	}
	return plane.Spot{}, false
}

// at looks at the middle of a part of a segment of the set. It lies in the set
// itself; to the right of the segment is what does not.
func (l *search) at(s plane.Segment, middle plane.Spot) (plane.Spot, bool) {
	for _, t := range l.otherEdges {
		if t.Has(middle) {
			return l.atBoth(s, t, middle)
		}
	}
	if plane.InSet(l.other, middle) {
		return l.near(middle, along(s).right()), true
	}
	return middle, true
}

// atBoth looks at a middle through which a segment t of the other set goes: on
// it one stays in the other set. Where both go along each other nothing is
// sought: unless the sets are the same, their bounds part elsewhere.
func (l *search) atBoth(s plane.Segment, t plane.Segment, middle plane.Spot) (plane.Spot, bool) {
	turn := along(s).turn(along(t))
	if turn < 0 {
		return l.near(middle, along(t)), true
	}
	if turn > 0 {
		return l.near(middle, along(t).back()), true
	}
	return plane.Spot{}, false
}

// near goes from a spot such a part of the way that it meets no line of an edge
// but those on which the spot lies. An edge that lies ahead on the way is not
// met either: the edge that follows it at its nearer end is on another line.
func (l *search) near(p plane.Spot, w way) plane.Spot {
	parts := int64(1)
	for _, s := range l.bothEdges {
		needed := partsTo(p, w, s)
		if parts < needed {
			parts = needed
		}
	}
	return plane.Spot{X: p.X*parts + p.W*w.x, Y: p.Y*parts + p.W*w.y, W: p.W * parts}
}

// partsTo gives so many parts of the way that the first ends ahead of the
// segment's line, whether it lies ahead or behind.
func partsTo(p plane.Spot, w way, s plane.Segment) int64 {
	gap := way{x: int64(s.A.X)*p.W - p.X, y: int64(s.A.Y)*p.W - p.Y}
	off := amount(gap.turn(along(s)))
	if off == 0 {
		return 1
	}
	return amount(p.W*w.turn(along(s)))/off + 1
}

func ringsOf(polys [][][]api.Pt) [][]api.Pt {
	var all [][]api.Pt
	for _, rings := range polys {
		all = append(all, rings...)
	}
	return all
}

func edgesOf(rings [][]api.Pt) []plane.Segment {
	var all []plane.Segment
	for _, ring := range rings {
		all = append(all, plane.Segments(ring)...)
	}
	return all
}
