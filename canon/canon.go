// Package canon writes a valid set in the one way (P8).
package canon

import (
	"polygons/api"
	"polygons/plane"
)

// Form gives the points of a valid set in the one way, in lists of their own.
func Form(polys [][][]api.Pt) [][][]api.Pt {
	var forms [][][]api.Pt
	for _, rings := range polys {
		forms = append(forms, polygonForm(rings))
	}
	return inOrder(forms)
}

// polygonForm puts its holes in order as polygons of one ring each: so one
// order does for both.
func polygonForm(rings [][]api.Pt) [][]api.Pt {
	var form [][]api.Pt
	var holes [][][]api.Pt
	for i, ring := range rings {
		if i == 0 {
			form = append(form, ringForm(ring, true))
		} else {
			holes = append(holes, [][]api.Pt{ringForm(ring, false)})
		}
	}
	for _, hole := range inOrder(holes) {
		form = append(form, hole...)
	}
	return form
}

// ringForm goes through the corners from the least one on, forward or
// backward, and back to it.
func ringForm(ring []api.Pt, left bool) []api.Pt {
	vertices := corners(ring)
	count := len(vertices)
	if count == 0 {
		return nil
	}
	first := least(vertices)
	step := 1
	if turnsLeft(vertices, first) != left {
		step = count - 1
	}
	form := make([]api.Pt, count+1)
	for i := range form {
		form[i] = vertices[(first+i*step)%count]
	}
	return form
}

// corners gives the vertices at which the ring turns. The first point is left
// out: the last is the same one.
func corners(ring []api.Pt) []api.Pt {
	var vertices []api.Pt
	for i := 1; i < len(ring); i++ {
		next := ring[1]
		if i+1 < len(ring) {
			next = ring[i+1]
		}
		way := plane.Segment{A: ring[i-1], B: ring[i]}
		if way.Side(plane.At(next)) != 0 {
			vertices = append(vertices, ring[i])
		}
	}
	return vertices
}

// least gives the place in the list of the least vertex.
func least(vertices []api.Pt) int {
	first := 0
	for i, p := range vertices {
		if plane.Before(p, vertices[first]) {
			first = i
		}
	}
	return first
}

// turnsLeft tells it of one vertex. At the least one, which sticks out, a ring
// turns as it goes round.
func turnsLeft(vertices []api.Pt, at int) bool {
	count := len(vertices)
	way := plane.Segment{A: vertices[(at+count-1)%count], B: vertices[at]}
	return way.Side(plane.At(vertices[(at+1)%count])) > 0
}
