package json

import (
	"polygons/api"
	"polygons/texts"
)

// Write writes the lists of a set.
func Write(polys [][][]api.Pt) string {
	marks := texts.Marks{Open: "[", Comma: ",", Shut: "]", Ahead: "[", Between: ",", Behind: "]"}
	list := marks.Set(polys)
	return "{\"" + typeName + "\":\"" + typeText + "\",\"" + listName + "\":" + list + "}"
}
