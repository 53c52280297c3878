package apart

import (
	"math/big"
	"testing"

	"polygons/api"
	"polygons/canon"
	"polygons/plane"
)

const far = api.MaxCoord

// one: a polygon, its rings' points by twos.
func one(rings ...[]int) [][][]api.Pt {
	var poly [][]api.Pt
	for _, l := range rings {
		var r []api.Pt
		for i := 0; i+1 < len(l); i += 2 {
			r = append(r, api.Pt{X: l[i], Y: l[i+1]})
		}
		poly = append(poly, append(r, r[0]))
	}
	return canon.Form([][][]api.Pt{poly})
}

// triangles: all whose corners lie in a small square.
func triangles(side int) [][][][]api.Pt {
	var all [][][][]api.Pt
	count := side * side
	for i := range count {
		for j := range i {
			for k := range j {
				m := one([]int{i / side, i % side, j / side, j % side, k / side, k % side})
				if len(m[0][0]) > 0 {
					all = append(all, m)
				}
			}
		}
	}
	return all
}

// P10: all pairs of small triangles, and of a square with such a hole and one
// without or with another. Their numbers are so small that plane.InSet tells
// of the spots.
func TestSpot(t *testing.T) {
	sets := append(triangles(4), nil, one([]int{-1, -1, 4, -1, 4, 4, -1, 4}))
	for _, m := range triangles(3) {
		hole := []int{}
		for _, p := range m[0][0][1:] {
			hole = append(hole, p.X, p.Y)
		}
		sets = append(sets, one([]int{-1, -1, 4, -1, 4, 4, -1, 4}, hole))
	}
	for i, m := range sets {
		for j, o := range sets {
			p, found := Spot(m, o)
			if found != (i != j) {
				t.Fatalf("P10: Spot(%v, %v) = %v, %v", m, o, p, found)
			}
			if found && plane.InSet(m, p) == plane.InSet(o, p) {
				t.Fatalf("P10: Spot(%v, %v) = %v is in both or in neither", m, o, p)
			}
		}
	}
}

// P10: bounds that meet in all their middles: every second corner is moved, the
// others are moved back.
func TestSpotInMiddles(t *testing.T) {
	for _, move := range [][2]int{{1, 1}, {1, 0}, {0, -1}, {-2, 1}, {-1, -1}, {3, 3}} {
		x, y := move[0], move[1]
		m, o := one([]int{0, 0, 8, 0, 8, 8, 0, 8}), one([]int{x, y, 8 - x, -y, 8 + x, 8 + y, -x, 8 - y})
		p, found := Spot(m, o)
		if !found || plane.InSet(m, p) == plane.InSet(o, p) {
			t.Errorf("P10: Spot(%v, %v) = %v, %v", m, o, p, found)
		}
	}
}

// P10: where a segment of the other set goes through a middle, the spot lies on
// it, right of the set's segment; where it goes along, there is none.
func TestAtBoth(t *testing.T) {
	s := plane.Segment{A: api.Pt{X: 0, Y: 0}, B: api.Pt{X: 8, Y: 0}}
	middle := plane.Middle(s.A, s.B)
	for _, x := range []int{-4, -1, 0, 1, 4} {
		for _, y := range []int{-3, 0, 3} {
			u := plane.Segment{A: api.Pt{X: 4 - x, Y: -y}, B: api.Pt{X: 4 + x, Y: y}}
			look := search{bothEdges: []plane.Segment{s, u, {A: u.A, B: api.Pt{X: 20, Y: -y}}, {A: u.B, B: api.Pt{X: 20, Y: y}}}}
			p, found := look.atBoth(s, u, middle)
			if found != (y != 0) || found && (!u.Has(p) || s.Side(p) >= 0) {
				t.Errorf("P10: at %v and %v: %v, %v", s, u, p, found)
			}
		}
	}
}

// side: Side with numbers of any size.
func side(s plane.Segment, p plane.Spot) int {
	number := func(n int) *big.Int { return big.NewInt(int64(n)) }
	x := new(big.Int).Sub(big.NewInt(p.X), new(big.Int).Mul(number(s.A.X), big.NewInt(p.W)))
	y := new(big.Int).Sub(big.NewInt(p.Y), new(big.Int).Mul(number(s.A.Y), big.NewInt(p.W)))
	x.Mul(x, number(s.B.Y-s.A.Y))
	y.Mul(y, number(s.B.X-s.A.X))
	return y.Cmp(x)
}

// P10: what is near lies on the same side of each line as the spot, and on the
// way, of lines with the steepest and the flattest ways through the whole plane.
func TestNear(t *testing.T) {
	ends := []int{-far, 1 - far, 0, 1, far}
	var edges []plane.Segment
	for _, a := range ends {
		for _, b := range ends {
			for _, c := range ends {
				for _, d := range ends {
					if a != c || b != d {
						edges = append(edges, plane.Segment{A: api.Pt{X: a, Y: b}, B: api.Pt{X: c, Y: d}})
					}
				}
			}
		}
	}
	look := search{bothEdges: edges}
	for _, s := range edges {
		p := plane.Middle(s.A, s.B)
		for _, w := range []way{along(s), along(s).back(), along(s).right()} {
			q := look.near(p, w)
			gap := way{x: q.X - p.X*(q.W/p.W), y: q.Y - p.Y*(q.W/p.W)}
			if q.W < p.W || gap != (way{x: p.W * w.x, y: p.W * w.y}) {
				t.Fatalf("near %v on the way %v: %v", p, w, q)
			}
			for _, u := range edges {
				if ahead := side(u, p); ahead != 0 && side(u, q) != ahead {
					t.Fatalf("near %v on the way %v: %v lies beyond %v", p, w, q, u)
				}
			}
		}
	}
}

// hasWithin: does a triangle that goes round to the left have the spot, not on
// its ring?
func hasWithin(m [][][]api.Pt, p plane.Spot) bool {
	within := true
	for _, s := range plane.Segments(m[0][0]) {
		within = within && side(s, p) > 0
	}
	return within
}

// P10: the middle of the first segment lies beside a segment of the other
// triangle by the least there is, so that the divisor has 35 bits or more.
func TestLeastGap(t *testing.T) {
	set := one([]int{-far, -far, far - 1, far, -far, far})
	other := one([]int{-far, 1 - far, far, -far, far, far})
	p, found := Spot(set, other)
	if !found || hasWithin(set, p) || !hasWithin(other, p) || p.W < 1<<34 {
		t.Errorf("P10: Spot = %v, %v", p, found)
	}
}

// P10: the same set has no spot, whichever rings touch.
func TestNoSpot(t *testing.T) {
	for _, m := range [][][][]api.Pt{
		nil,
		one([]int{0, 0, 8, 0, 8, 8, 0, 8}, []int{0, 4, 2, 2, 2, 6}, []int{2, 4, 4, 2, 4, 6}),
		one([]int{-far, -far, far, far - 1, far, far}),
	} {
		if p, found := Spot(m, canon.Form(m)); found || p != (plane.Spot{}) {
			t.Errorf("P10: Spot of %v from itself = %v, %v", m, p, found)
		}
	}
}
