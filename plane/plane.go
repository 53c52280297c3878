// Package plane tells exactly how points, segments and rings lie.
//
// Products are of int64: a product of two coordinates has more than 32 bits,
// and an int may have no more.
package plane

import "polygons/api"

// Spot is the point X/W, Y/W, in units; W is above 0. A middle of two points
// is one that need not be an api.Pt.
type Spot struct {
	X, Y, W int64
}

// At gives a point as a spot.
func At(p api.Pt) Spot {
	return Spot{X: int64(p.X), Y: int64(p.Y), W: 1}
}

// Middle gives the spot halfway between two points.
func Middle(p api.Pt, q api.Pt) Spot {
	return Spot{X: int64(p.X) + int64(q.X), Y: int64(p.Y) + int64(q.Y), W: 2}
}

// Before tells the order of points: by X, then Y. Along a segment they stand
// in this order, or in the opposite one.
func Before(p api.Pt, q api.Pt) bool {
	return p.X < q.X || p.X == q.X && p.Y < q.Y
}

func sign(n int64) int {
	if n > 0 {
		return 1
	}
	if n < 0 {
		return -1
	}
	return 0
}
