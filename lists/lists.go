// Package lists checks and copies the lists of points that sets are made of.
package lists

import "polygons/api"

// minPoints: a triangle, and the point that closes it.
const minPoints = 4

// Fault tells the first of ErrMany, ErrForm and ErrRange that applies to the
// lists; OK, if they make a set (P3).
func Fault(polys [][][]api.Pt) api.Errno {
	if tooMany(polys) {
		return api.ErrMany
	}
	for _, rings := range polys {
		if misformed(rings) {
			return api.ErrForm
		}
	}
	for _, rings := range polys {
		if outOfRange(rings) {
			return api.ErrRange
		}
	}
	return api.OK
}

// Copy gives the same lists in memory of their own, without spare room.
func Copy(polys [][][]api.Pt) [][][]api.Pt {
	fresh := make([][][]api.Pt, len(polys))
	for i, rings := range polys {
		fresh[i] = copyRings(rings)
	}
	return fresh
}

func copyRings(rings [][]api.Pt) [][]api.Pt {
	fresh := make([][]api.Pt, len(rings))
	for i, ring := range rings {
		points := make([]api.Pt, len(ring))
		copy(points, ring)
		fresh[i] = points
	}
	return fresh
}

// tooMany stops at the first count that is too great, so that long lists are
// not walked through.
func tooMany(polys [][][]api.Pt) bool {
	if len(polys) > api.MaxPolys {
		return true
	}
	ringCount := 0
	pointCount := 0
	for _, rings := range polys {
		ringCount += len(rings)
		if ringCount > api.MaxRings {
			return true
		}
		for _, ring := range rings {
			pointCount += len(ring)
			if pointCount > api.MaxPoints {
				return true
			}
		}
	}
	return false
}

func misformed(rings [][]api.Pt) bool {
	if len(rings) == 0 {
		return true
	}
	for _, ring := range rings {
		if len(ring) < minPoints || ring[0] != ring[len(ring)-1] {
			return true
		}
	}
	return false
}

func outOfRange(rings [][]api.Pt) bool {
	for _, ring := range rings {
		for _, p := range ring {
			if isFar(p.X) || isFar(p.Y) {
				return true
			}
		}
	}
	return false
}

// isFar compares with both ends: the least int has no amount.
func isFar(c int) bool {
	return c > api.MaxCoord || c < -api.MaxCoord
}
