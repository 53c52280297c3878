// Package json reads and writes sets as GeoJSON has them (P6).
package json

import (
	"polygons/api"
	"polygons/texts"
)

// The names that count, and the one value that type may have.
const (
	typeName = "type"
	typeText = "MultiPolygon"
	listName = "coordinates"
)

// Read tells the lists that a text says: ErrSyntax, if it is none of the
// format, ErrRange, if a coordinate in it may not be.
func Read(s string) ([][][]api.Pt, api.Errno) {
	r := &texts.Reader{Rest: s}
	polys := set(r)
	return r.Answer(polys)
}

func set(r *texts.Reader) [][][]api.Pt {
	var polys [][][]api.Pt
	types := 0
	places := 0
	for more := r.Begin("{", "}"); more; more = r.Next("}") {
		name := memberName(r)
		switch {
		case same(name, typeName):
			types++
			typeValue(r)
		case same(name, listName):
			places++
			polys = polygons(r)
		default:
			value(r, api.MaxDeep)
		}
	}
	if types != 1 || places != 1 {
		r.Bad = true
	}
	return polys
}

func typeValue(r *texts.Reader) {
	found := characters(r)
	if !same(found, typeText) {
		r.Bad = true
	}
}

func polygons(r *texts.Reader) [][][]api.Pt {
	var polys [][][]api.Pt
	for more := r.Begin("[", "]"); more; more = r.Next("]") {
		rings := polygon(r)
		polys = append(polys, rings)
	}
	return polys
}

func polygon(r *texts.Reader) [][]api.Pt {
	var rings [][]api.Pt
	for more := r.Begin("[", "]"); more; more = r.Next("]") {
		points := ring(r)
		rings = append(rings, points)
	}
	return rings
}

func ring(r *texts.Reader) []api.Pt {
	var points []api.Pt
	for more := r.Begin("[", "]"); more; more = r.Next("]") {
		p := point(r)
		points = append(points, p)
	}
	return points
}

func point(r *texts.Reader) api.Pt {
	r.Need("[")
	x := coordinate(r)
	r.Need(",")
	y := coordinate(r)
	r.Need("]")
	return api.Pt{X: x, Y: y}
}

func coordinate(r *texts.Reader) int {
	r.Blanks()
	length := numberLength(r.Rest)
	return r.Coordinate(length)
}
