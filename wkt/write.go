package wkt

import (
	"polygons/api"
	"polygons/texts"
)

// Write writes the lists of a set.
func Write(polys [][][]api.Pt) string {
	if len(polys) == 0 {
		return "MULTIPOLYGON EMPTY"
	}
	marks := texts.Marks{Open: "(", Comma: ", ", Shut: ")", Between: " "}
	return "MULTIPOLYGON " + marks.Set(polys)
}
