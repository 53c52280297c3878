package polygons

import (
	"cmp"
	"reflect"
	"slices"
	"testing"

	"polygons/api"
)

func mustCanonical(t *testing.T, x *Shape) *Shape {
	t.Helper()
	y, e := x.Canonical()
	if y == nil || e != api.OK {
		t.Fatalf("P8: Canonical of %v = %v, %d, want a set", x.Points(), y, e)
	}
	return y
}

// P8: of sets as they are drawn, and of what comes out again.
func TestCanonical(t *testing.T) {
	for _, c := range [][2]string{
		{"", ""},
		{"B", "B"},
		{"S(4 4, 0 4, 0 2, 0 0, 4 0, 4 4)", "B"},
		{"B H(1 1, 2 1, 2 2, 1 1)", "B H(1 1, 2 2, 2 1, 1 1)"},
		// begun elsewhere, turned round
		{"S(4 0, 4 4, 0 4, 0 0, 4 0)", "B"},
		{"S(0 0, 0 4, 4 4, 4 0, 0 0)", "B"},
		{"S(0 4, 4 4, 4 0, 0 0, 0 4)", "B"},
		{"S(1 3, 0 2, 0 1, 2 0, 1 3)", "S(0 1, 2 0, 1 3, 0 2, 0 1)"},
		{"S(-1 0.0625, 0 -1, 2 0, -1 0.5, -1 0.0625)", "S(-1 0.0625, 0 -1, 2 0, -1 0.5, -1 0.0625)"},
		// vertices at which the ring does not turn: the first too, several, at the least X
		{"S(2 0, 4 0, 4 4, 0 4, 0 0, 2 0)", "B"},
		{"S(0 1, 0 0, 1 0, 2 0, 3 0, 4 0, 4 4, 3 4, 0 4, 0 3, 0 2, 0 1)", "B"},
		{"S(2 2, 0 0, 2 0, 4 0, 4 4, 3 3, 2 2)", "S(0 0, 4 0, 4 4, 0 0)"},
		{"B H(1 2, 1 1, 3 1, 3 2, 3 3, 1 3, 1 2)", "B H(1 1, 1 3, 3 3, 3 1, 1 1)"},
		{"S(0 0, 3 1, 6 2, 6 3, 0 0)", "S(0 0, 6 2, 6 3, 0 0)"},
		{"S(0 0, 3 1.0625, 6 2, 6 3, 0 0)", "S(0 0, 3 1.0625, 6 2, 6 3, 0 0)"},
		{"S(0 0, 3 0.9375, 6 2, 6 3, 0 0)", "S(0 0, 3 0.9375, 6 2, 6 3, 0 0)"},
		// at a point where another ring touches
		{"S(0 2, 0 0, 4 0, 4 4, 0 4, 0 2) H(0 2, 1 1, 1 3, 0 2)", "B H(0 2, 1 3, 1 1, 0 2)"},
		{"S(0 0, 4 0, 4 2, 4 4, 0 4, 0 0) S(4 2, 6 1, 6 2, 6 3, 4 2)", "B S(4 2, 6 1, 6 3, 4 2)"},
		// holes in order: by X, by Y, by a later point
		{"B H(3 1, 3.5 1, 3 2, 3 1) H(1 1, 2 1, 1 2, 1 1)", "B H(1 1, 1 2, 2 1, 1 1) H(3 1, 3 2, 3.5 1, 3 1)"},
		{"B H(1 3, 2 3, 2 3.5, 1 3) H(1 2, 2 2, 2 2.5, 1 2) H(1 1, 2 1, 2 1.5, 1 1)", "B H(1 1, 2 1.5, 2 1, 1 1) H(1 2, 2 2.5, 2 2, 1 2) H(1 3, 2 3.5, 2 3, 1 3)"},
		{"B H(1 1, 3 1, 3 1.5, 1 1) H(1 1, 2 2, 2 3, 1 1)", "B H(1 1, 2 3, 2 2, 1 1) H(1 1, 3 1.5, 3 1, 1 1)"},
		{"B H(1 1, 2 1, 2 1.5, 1 1) H(1 1, 2 2, 2 2.5, 1 1)", "B H(1 1, 2 1.5, 2 1, 1 1) H(1 1, 2 2.5, 2 2, 1 1)"},
		// polygons in order; a shell does not go among the holes
		{"S(5 0, 6 0, 6 1, 5 0) B S(-1 0, -1 2, -2 1, -1 0)", "S(-2 1, -1 0, -1 2, -2 1) B S(5 0, 6 0, 6 1, 5 0)"},
		{"S(0 5, 4 5, 4 6, 0 5) B H(1 1, 2 1, 2 2, 1 1)", "B H(1 1, 2 2, 2 1, 1 1) S(0 5, 4 5, 4 6, 0 5)"},
		{"S(0 0, 4 1, 4 2, 0 0) S(0 0, 1 2, 0 2, 0 0) S(0 0, 4 -2, 4 -1, 0 0)", "S(0 0, 1 2, 0 2, 0 0) S(0 0, 4 -2, 4 -1, 0 0) S(0 0, 4 1, 4 2, 0 0)"},
		{"B H(0 2, 1 1, 1 3, 0 2)", "B H(0 2, 1 3, 1 1, 0 2)"},
		// the greatest coordinates
		{"S(2048 2048, -2048 -2048, 2048 2047.9375, 2048 2048)", "S(-2048 -2048, 2048 2047.9375, 2048 2048, -2048 -2048)"},
		{"S(0 0, -2048 -2048, 2048 2047.9375, 2048 2048, 0 0)", "S(-2048 -2048, 2048 2047.9375, 2048 2048, -2048 -2048)"},
		{"S(2048 2048, -0.0625 0, -2048 -2048, 2048 2047.9375, 2048 2048)", "S(-2048 -2048, 2048 2047.9375, 2048 2048, -0.0625 0, -2048 -2048)"},
	} {
		x, want := drawn(t, c[0]), drawn(t, c[1])
		ahead := x.Points()
		y := mustCanonical(t, x)
		if p := y.Points(); !reflect.DeepEqual(p, want.Points()) {
			t.Errorf("P8: Canonical of %s = %v, want %v", c[0], p, want.Points())
		}
		if !reflect.DeepEqual(x.Points(), ahead) {
			t.Errorf("P2: Canonical changed %s", c[0])
		}
		if again := mustCanonical(t, y); !reflect.DeepEqual(again.Points(), y.Points()) {
			t.Errorf("P8: Canonical of %s taken again = %v", c[0], again.Points())
		}
	}
}

// faulty: a set for each clause that does not hold.
var faulty = [6]string{
	api.Ring:    "S(0 0, 2 2, 2 0, 0 2, 0 0)",
	api.Rings:   "B H(3 1, 5 1, 5 3, 3 3, 3 1)",
	api.Nested:  "B H(5 5, 6 5, 6 6, 5 5)",
	api.Parted:  "B H(0 2, 2 1, 4 2, 2 3, 0 2)",
	api.Overlap: "B B",
}

// P8: of what is not valid there is none, whichever clause does not hold.
func TestCanonicalInvalid(t *testing.T) {
	for _, s := range faulty[api.Ring:] {
		if y, e := drawn(t, s).Canonical(); y != nil || e != api.ErrInvalid {
			t.Errorf("P8: Canonical of %s = %v, %d, want ErrInvalid", s, y, e)
		}
	}
}

// P2: the set that comes out has nothing of the other's memory, and its lists
// are fresh.
func TestCanonicalIsFresh(t *testing.T) {
	x := drawn(t, "S(4 0, 4 4, 0 4, 0 2, 0 0, 4 0) H(2 1, 2 2, 1 1, 2 1) S(5 0, 6 0, 6 1, 5 0)")
	want := drawn(t, "B H(1 1, 2 2, 2 1, 1 1) S(5 0, 6 0, 6 1, 5 0)").Points()
	y := mustCanonical(t, x)
	for range 2 {
		p := y.Points()
		if !reflect.DeepEqual(p, want) {
			t.Fatalf("P2: Canonical = %v", p)
		}
		if cap(p) != 2 || cap(p[0]) != 2 || cap(p[1]) != 1 || cap(p[0][0]) != 5 || cap(p[0][1]) != 4 || cap(p[1][0]) != 4 {
			t.Errorf("P2: spare room in %v", p)
		}
		p[0][0][1] = api.Pt{X: 99, Y: 99}
		p[0][1] = nil
		p[1] = nil
		l := x.Points()
		l[0][0][0] = api.Pt{X: 77, Y: 77}
	}
	if again := mustCanonical(t, x); !reflect.DeepEqual(again.Points(), want) {
		t.Errorf("P2: a set changed: %v", again.Points())
	}
}

// area: twice that of a ring, above 0 if it goes round to the left.
func area(r []api.Pt) int {
	sum := 0
	for i := range len(r) - 1 {
		sum += r[i].X*r[i+1].Y - r[i].Y*r[i+1].X
	}
	return sum
}

func comparePoints(p api.Pt, q api.Pt) int {
	return cmp.Or(cmp.Compare(p.X, q.X), cmp.Compare(p.Y, q.Y))
}

func compareLists(r []api.Pt, s []api.Pt) int {
	return slices.CompareFunc(r, s, comparePoints)
}

func comparePolys(p [][]api.Pt, q [][]api.Pt) int {
	return slices.CompareFunc(p, q, compareLists)
}

// isWritten: all that P8 says of how a set is written.
func isWritten(m [][][]api.Pt) bool {
	good := slices.IsSortedFunc(m, comparePolys)
	for _, rings := range m {
		good = good && slices.IsSortedFunc(rings[1:], compareLists)
		for i, r := range rings {
			good = good && (area(r) > 0) == (i == 0) && r[0] == slices.MinFunc(r, comparePoints)
			for j := range len(r) - 2 {
				good = good && area([]api.Pt{r[j], r[j+1], r[j+2], r[j]}) != 0
			}
		}
	}
	return good
}

// P8: thrown sets: written so, valid, the same when written otherwise, and the
// same points of the plane.
func TestCanonicalThrown(t *testing.T) {
	const side = 9
	d := &dice{state: 23}
	rings, most := 0, 0
	for range 1500 {
		m := d.valid(side)
		x := mustMake(t, m)
		y := mustCanonical(t, x)
		form := y.Points()
		if !isWritten(form) || y.Validate() != api.Valid {
			t.Fatalf("P8: Canonical of %v = %v", m, form)
		}
		for range 3 {
			other := d.otherwise(m)
			if z := mustCanonical(t, mustMake(t, other)); !reflect.DeepEqual(z.Points(), form) {
				t.Fatalf("P8: Canonical of %v = %v, of %v %v", m, form, other, z.Points())
			}
		}
		for range 60 {
			s := smallSpot(d.below(2*side), d.below(2*side), 2)
			if s.in(m) != s.in(form) {
				t.Fatalf("P8: Canonical of %v = %v: %v is in one of them", m, form, s)
			}
		}
		for _, l := range m {
			rings += len(l)
			most = max(most, len(l))
		}
	}
	t.Log(rings, most)
}
