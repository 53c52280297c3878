// Package wkt reads and writes sets as well-known text (P4).
package wkt

import (
	"polygons/api"
	"polygons/decimal"
	"polygons/texts"
)

// Read tells the lists that a text says: ErrSyntax, if it is none of the
// format, ErrRange, if a number in it may not be.
func Read(s string) ([][][]api.Pt, api.Errno) {
	r := &texts.Reader{Rest: s}
	polys := set(r)
	return r.Answer(polys)
}

func set(r *texts.Reader) [][][]api.Pt {
	r.Need("MULTIPOLYGON")
	gap := r.Blanks()
	if gap > 0 {
		empty := r.Word("EMPTY")
		if empty {
			return nil
		}
	}
	return polygons(r)
}

func polygons(r *texts.Reader) [][][]api.Pt {
	var polys [][][]api.Pt
	for more := r.Need("("); more; more = r.Next(")") {
		rings := polygon(r)
		polys = append(polys, rings)
	}
	return polys
}

func polygon(r *texts.Reader) [][]api.Pt {
	var rings [][]api.Pt
	for more := r.Need("("); more; more = r.Next(")") {
		points := ring(r)
		rings = append(rings, points)
	}
	return rings
}

func ring(r *texts.Reader) []api.Pt {
	var points []api.Pt
	for more := r.Need("("); more; more = r.Next(")") {
		p := point(r)
		points = append(points, p)
	}
	return points
}

func point(r *texts.Reader) api.Pt {
	r.Blanks()
	x := number(r)
	gap := r.Blanks()
	if gap == 0 {
		r.Bad = true
	}
	y := number(r)
	return api.Pt{X: x, Y: y}
}

func number(r *texts.Reader) int {
	length := decimal.Length(r.Rest)
	return r.Coordinate(length)
}
