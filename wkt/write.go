package wkt

import (
	"polygons/api"
	"polygons/decimal"
)

// Write writes the lists of a set.
func Write(polys [][][]api.Pt) string {
	if len(polys) == 0 {
		return "MULTIPOLYGON EMPTY"
	}
	text := ""
	for i, rings := range polys {
		text += comma(i)
		text += ringsText(rings)
	}
	return "MULTIPOLYGON (" + text + ")"
}

func ringsText(rings [][]api.Pt) string {
	text := ""
	for i, points := range rings {
		text += comma(i)
		text += pointsText(points)
	}
	return "(" + text + ")"
}

func pointsText(points []api.Pt) string {
	text := ""
	for i, p := range points {
		text += comma(i)
		text += decimal.Text(p.X)
		text += " "
		text += decimal.Text(p.Y)
	}
	return "(" + text + ")"
}

// comma is what stands ahead of a list's member.
func comma(i int) string {
	if i == 0 {
		return ""
	}
	return ", "
}
