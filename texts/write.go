package texts

import (
	"polygons/api"
	"polygons/decimal"
)

// Marks are what a format writes around the members of a list and between
// them, and around a point's two numbers and between them.
type Marks struct {
	Open, Comma, Shut      string
	Ahead, Between, Behind string
}

// Set writes a list of polygons.
func (m Marks) Set(polys [][][]api.Pt) string {
	text := ""
	for i, rings := range polys {
		text += m.gap(i)
		text += m.polygon(rings)
	}
	return m.Open + text + m.Shut
}

func (m Marks) polygon(rings [][]api.Pt) string {
	text := ""
	for i, points := range rings {
		text += m.gap(i)
		text += m.ring(points)
	}
	return m.Open + text + m.Shut
}

func (m Marks) ring(points []api.Pt) string {
	text := ""
	for i, p := range points {
		text += m.gap(i)
		text += m.point(p)
	}
	return m.Open + text + m.Shut
}

func (m Marks) point(p api.Pt) string {
	x := decimal.Text(p.X)
	y := decimal.Text(p.Y)
	return m.Ahead + x + m.Between + y + m.Behind
}

// gap is what stands ahead of a list's member.
func (m Marks) gap(i int) string {
	if i == 0 {
		return ""
	}
	return m.Comma
}
