package clauses

import (
	"slices"
	"testing"

	"polygons/api"
)

// dice: numbers that look thrown, the same at every run.
type dice struct {
	state uint64
}

func (d *dice) below(n int) int {
	d.state = d.state*6364136223846793005 + 1442695040888963407
	return int(d.state >> 33 % uint64(n))
}

func (d *dice) point(side int) api.Pt {
	return api.Pt{X: d.below(side) * api.Unit, Y: d.below(side) * api.Unit}
}

func (d *dice) ring(side int) []api.Pt {
	var r []api.Pt
	for range 3 + d.below(3) {
		r = append(r, d.point(side))
	}
	return append(r, r[0])
}

// simple: mostly a ring that does not meet itself.
func (d *dice) simple(side int) []api.Pt {
	for {
		if r := d.ring(side); oracleRing(r) || d.below(60) == 0 {
			return r
		}
	}
}

func box(side int) []api.Pt {
	m := (side - 1) * api.Unit
	return []api.Pt{{X: 0, Y: 0}, {X: m, Y: 0}, {X: m, Y: m}, {X: 0, Y: m}, {X: 0, Y: 0}}
}

// with: the set and one ring more, a hole of polygon i or a shell.
func with(polys [][][]api.Pt, i int, r []api.Pt) [][][]api.Pt {
	more := make([][][]api.Pt, len(polys))
	copy(more, polys)
	if i == len(polys) {
		return append(more, [][]api.Pt{r})
	}
	more[i] = append(slices.Clone(polys[i]), r)
	return more
}

// keep: of how many rings at which a clause does not hold one is kept.
var keep = [6]int{1, 8, 60, 2, 1, 60}

// set: grown ring by ring; a ring at which a clause does not hold is mostly
// thrown again, so that there are great sets at the edge of being valid.
func (d *dice) set() [][][]api.Pt {
	side := 4 + d.below(6)
	polys := [][][]api.Pt{{box(side)}}
	if d.below(3) == 0 {
		polys = [][][]api.Pt{{d.simple(side)}}
	}
	rings := 1
	for range 5 + d.below(30) {
		more := with(polys, d.below(min(len(polys)+1, 4)), d.simple(side))
		holds := oracle(more)
		bad := max(slices.Index(holds[:], false), 0)
		if d.below(keep[bad]) > 0 {
			continue
		}
		polys = more
		rings++
		if bad != api.Valid || rings == api.MaxRings {
			break
		}
	}
	return polys
}

// P7: the least clause, as the oracle has it, of many sets.
func TestLeast(t *testing.T) {
	d := &dice{state: 7}
	seen := [6]int{}
	several := 0
	for range 6000 {
		polys := d.set()
		holds := oracle(polys)
		want := max(slices.Index(holds[:], false), 0)
		seen[want]++
		if want > 0 && slices.Contains(holds[want+1:], false) {
			several++
		}
		if least := Least(polys); least != want {
			t.Fatalf("P7: Least(%v) = %d, want %d of %v", polys, least, want, holds)
		}
	}
	t.Log(seen, several)
	for clause, n := range seen {
		if n < 100 {
			t.Errorf("only %d sets with clause %d", n, clause)
		}
	}
	if several < 100 {
		t.Errorf("only %d sets in which several clauses do not hold", several)
	}
}

// otherwise: the same rings begun elsewhere, turned round, holes and polygons
// in another order, and the plane stretched and slanted up to the greatest
// coordinates.
func (d *dice) otherwise(polys [][][]api.Pt) [][][]api.Pt {
	a, b, c, e := 1, 0, 0, 1
	for again := true; again; again = a*e == b*c {
		a, b, c, e = d.below(7200)-3600, d.below(7200)-3600, d.below(7200)-3600, d.below(7200)-3600
	}
	var other [][][]api.Pt
	for _, rings := range polys {
		var l [][]api.Pt
		for _, r := range rings {
			n := len(r) - 1
			from, step := d.below(n), 1+d.below(2)*(n-2)
			var o []api.Pt
			for i := range n + 1 {
				p := r[(from+i*step)%n]
				o = append(o, api.Pt{X: (p.X*a + p.Y*b) / api.Unit, Y: (p.X*c + p.Y*e) / api.Unit})
			}
			l = slices.Insert(l, min(len(l), 1+d.below(len(l)+1)), o)
		}
		other = slices.Insert(other, d.below(len(other)+1), l)
	}
	moveToEdge(other)
	return other
}

// moveToEdge: the least X becomes the least there is, the greatest Y the
// greatest.
func moveToEdge(polys [][][]api.Pt) {
	left, top := polys[0][0][0].X, polys[0][0][0].Y
	for _, rings := range polys {
		for _, r := range rings {
			for _, p := range r {
				left, top = min(left, p.X), max(top, p.Y)
			}
		}
	}
	for _, rings := range polys {
		for _, r := range rings {
			for i, p := range r {
				r[i] = api.Pt{X: p.X - left - api.MaxCoord, Y: p.Y - top + api.MaxCoord}
			}
		}
	}
}

// P7: none of that makes another clause.
func TestOtherwise(t *testing.T) {
	d := &dice{state: 11}
	for range 4000 {
		polys := d.set()
		want := Least(polys)
		other := d.otherwise(polys)
		for _, rings := range other {
			for _, r := range rings {
				for _, p := range r {
					if max(p.X, -p.X, p.Y, -p.Y) > api.MaxCoord {
						t.Fatalf("the point %v is none", p)
					}
				}
			}
		}
		if least := Least(other); least != want {
			t.Fatalf("P7: Least(%v) = %d, but of %v %d", other, least, polys, want)
		}
	}
}
