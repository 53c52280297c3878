package polygons

import (
	"math/big"
	"reflect"
	"regexp"
	"testing"

	"polygons/api"
)

var wholeForm = regexp.MustCompile(`^(0|-?[1-9][0-9]*)$`)

// whole: a number as P10 has it written.
func whole(t *testing.T, s string) *big.Int {
	t.Helper()
	n, good := new(big.Int).SetString(s, 10)
	if !good || !wholeForm.MatchString(s) {
		t.Fatalf("P10: %q is no number", s)
	}
	return n
}

// parted holds the point that is given against what it must be, both ways
// round, and tells the amount of the greatest number.
func parted(t *testing.T, m [][][]api.Pt, o [][][]api.Pt) *big.Int {
	t.Helper()
	most := new(big.Int)
	x, y := mustMake(t, m), mustMake(t, o)
	for range 2 {
		p, q, d, e := x.Separate(y)
		if e != api.OK {
			t.Fatalf("P10: Separate of %v from %v: %d", x.Points(), y.Points(), e)
		}
		s := spot{whole(t, p), whole(t, q), whole(t, d)}
		if s.d.Sign() <= 0 || s.in(m) == s.in(o) {
			t.Fatalf("P10: Separate of %v from %v = %s, %s, %s, in the first: %v, in the other: %v", x.Points(), y.Points(), p, q, d, s.in(m), s.in(o))
		}
		for _, n := range []*big.Int{s.p, s.q, s.d} {
			if n.CmpAbs(most) > 0 {
				most.Abs(n)
			}
		}
		x, y = y, x
	}
	return most
}

func mustBeSame(t *testing.T, m [][][]api.Pt, o [][][]api.Pt) {
	t.Helper()
	if p, q, d, e := mustMake(t, m).Separate(mustMake(t, o)); p != "" || q != "" || d != "" || e != api.ErrSame {
		t.Fatalf("P10: Separate of %v from %v = %q, %q, %q, %d, want ErrSame", m, o, p, q, d, e)
	}
}

// separateBy: ErrSame just if Canonical is the same, else a point.
func separateBy(t *testing.T, m [][][]api.Pt, o [][][]api.Pt) *big.Int {
	t.Helper()
	x, y := mustCanonical(t, mustMake(t, m)), mustCanonical(t, mustMake(t, o))
	if reflect.DeepEqual(x.Points(), y.Points()) {
		mustBeSame(t, m, o)
		return new(big.Int)
	}
	return parted(t, m, o)
}

// P10: each drawn set from each other.
func TestSeparate(t *testing.T) {
	const hole = " H(1 1, 3 1, 3 3, 1 3, 1 1)"
	sets := []string{
		"", "B", "S(0 0, 4 0, 4 4, 0 2, 0 0)", "S(0 0, 4 0, 4 2, 0 4, 0 0)", "B" + hole, "B H(1 1, 2 1, 1 2, 1 1)",
		"B" + hole + " S(1 2, 2 1, 3 2, 2 3, 1 2)",
		"B" + hole + " S(1 1, 2 1.0625, 3 1, 2.9375 2, 3 3, 2 2.9375, 1 3, 1.0625 2, 1 1)",
		// the other's hole, and what lies beside it along its whole bound
		"S(1 1, 3 1, 3 3, 1 3, 1 1)", "S(4 0, 8 0, 8 4, 4 4, 4 0)", "S(4 0, 8 0, 4 4, 4 0)", "S(4 1, 8 1, 8 3, 4 3, 4 1)",
		// bounds that cross in the middle, at a vertex, and elsewhere
		"S(2 -2, 6 2, 2 6, -2 2, 2 -2)", "S(0 2, 2 0, 4 2, 2 4, 0 2)", "S(2 -1, 3 5, 1 5, 2 -1)", "S(-1 2, 5 1, 5 3, -1 2)", "S(2 2, 6 1, 6 3, 2 2)", "S(1 1, 5 5, 1 5, 1 1)", "S(0.5 0.5, 3.5 -0.5, 4.5 4.5, -0.5 3.5, 0.5 0.5)", "S(-4 0, 4 -0.0625, 4 0.0625, -4 0)",
		// one touches the other
		"B S(4 2, 6 1, 6 3, 4 2)", "S(4 2, 6 1, 6 3, 4 2)", "B H(0 2, 1 1, 1 3, 0 2)", "S(0 2, 1 1, 1 3, 0 2)",
		// a vertex more that lies a unit off
		"S(0 0, 2 -0.0625, 4 0, 4 4, 0 4, 0 0)", "S(0 0, 2 0.0625, 4 0, 4 4, 0 4, 0 0)", "S(0 0, 4 0, 4 4, 0 4, 0.0625 2, 0 0)", "B H(1 1, 1 1.0625, 1.0625 1, 1 1)", "B S(4 4, 4 4.0625, 4.0625 4, 4 4)",
		// the greatest coordinates
		"S(-2048 -2048, 2048 2047.9375, 2048 2048, -2048 -2048)", "S(-2048 -2048, 2048 2047.875, 2048 2047.9375, -2048 -2048)", "S(-2048 -2048, 2048 2047.875, 2048 2048, -2048 -2048)", "S(-2048 -2048, 2048 -2048, 2048 2048, -2048 2048, -2048 -2048)", "S(-2048 -2048, 2048 -2048, 2048 2048, -2047.9375 2048, -2048 -2048)", "S(-2048 -2048, 2047.9375 2047.875, 2048 2048, -2048 -2048)",
		"S(-2048 -2048, 2047.9375 2048, -2048 2048, -2048 -2048)", "S(-2048 -2047.9375, 2048 -2048, 2048 2048, -2048 -2047.9375)",
	}
	for i, s := range sets {
		m := drawn(t, s).Points()
		for j, u := range sets {
			if i == j {
				mustBeSame(t, m, drawn(t, u).Points())
			} else {
				parted(t, m, drawn(t, u).Points())
			}
		}
	}
}

// P10: the same sets, written otherwise.
func TestSeparateSame(t *testing.T) {
	for _, c := range [][2]string{
		{"", ""},
		{"B", "S(0 0, 0 4, 2 4, 4 4, 4 0, 0 0)"},
		{"B", "S(2 0, 4 0, 4 4, 0 4, 0 0, 2 0)"},
		{"B H(1 1, 2 1, 2 2, 1 1)", "S(4 4, 4 0, 0 0, 0 4, 4 4) H(2 1, 2 2, 1 1, 1.5 1, 2 1)"},
		{"B H(0 2, 1 1, 1 3, 0 2)", "S(0 0, 4 0, 4 4, 0 4, 0 2, 0 0) H(1 1, 1 3, 0 2, 1 1)"},
		{"B S(4 2, 6 1, 6 3, 4 2) H(5 2, 5.5 2, 5.5 2.25, 5 2)", "S(6 3, 6 1, 4 2, 6 3) H(5.5 2, 5.5 2.25, 5 2, 5.5 2) S(4 4, 4 2, 4 0, 0 0, 0 4, 4 4)"},
		{"S(-2048 -2048, 2048 2047.9375, 2048 2048, -2048 -2048)", "S(2048 2048, 2048 2047.9375, -2048 -2048, 1 1, 2048 2048)"},
	} {
		m, o := drawn(t, c[0]).Points(), drawn(t, c[1]).Points()
		mustBeSame(t, m, o)
		mustBeSame(t, o, m)
	}
}

// P10: ErrInvalid, whichever of the two is not valid, ahead of ErrSame.
func TestSeparateErrors(t *testing.T) {
	for _, s := range faulty[api.Ring:] {
		bad := drawn(t, s)
		for _, c := range [][2]*Shape{{bad, drawn(t, "B")}, {drawn(t, "B"), bad}, {bad, bad}, {bad, drawn(t, s)}, {bad, drawn(t, faulty[api.Ring])}, {drawn(t, ""), bad}} {
			if p, q, d, e := c[0].Separate(c[1]); p != "" || q != "" || d != "" || e != api.ErrInvalid {
				t.Errorf("P10: Separate of %v from %v = %q, %q, %q, %d, want ErrInvalid", c[0].Points(), c[1].Points(), p, q, d, e)
			}
		}
	}
}

// P2: neither set changes, and nothing hangs on calls ahead.
func TestSeparateChangesNothing(t *testing.T) {
	x, y := drawn(t, "S(4 4, 4 0, 0 0, 0 4, 4 4) H(2 1, 2 2, 1 1, 1.5 1, 2 1)"), drawn(t, "S(4 4, 4 2, 4 0, 0 0, 0 4, 4 4)")
	m, o := x.Points(), y.Points()
	p, q, d, e := x.Separate(y)
	x.Canonical()
	y.Separate(x)
	x.Has(3, 3, 7)
	y.Separate(y)
	if u, v, w, f := x.Separate(y); u != p || v != q || w != d || f != e {
		t.Errorf("P2: Separate = %s, %s, %s, %d, then %s, %s, %s, %d", p, q, d, e, u, v, w, f)
	}
	if !reflect.DeepEqual(x.Points(), m) || !reflect.DeepEqual(y.Points(), o) {
		t.Errorf("P2: Separate changed a set: %v, %v", x.Points(), y.Points())
	}
}

// near: a set that parts from a valid one by little: by a ring more or less, by
// a vertex that is moved by a unit, or by nothing.
func (d *dice) near(m [][][]api.Pt, low int, high int) [][][]api.Pt {
	if len(m) == 0 || d.below(3) == 0 {
		return d.grown(m, 9, 10)
	}
	i := d.below(len(m))
	j := d.below(len(m[i]))
	from := m[i][j][d.below(len(m[i][j]))]
	to := api.Pt{X: min(max(from.X+d.below(3)-1, low), high), Y: min(max(from.Y+d.below(3)-1, low), high)}
	o := moved(m, func(p api.Pt) api.Pt {
		if p == from {
			return to
		}
		return p
	})
	if d.below(4) == 0 {
		o[i] = o[i][:1]
	}
	if isValid(o) {
		return o
	}
	return m
}

// swayed: a set whose bounds meet those of the other in the middles of rings
// with an even number of vertices: every second one is moved, the others are
// moved back.
func (d *dice) swayed(m [][][]api.Pt) [][][]api.Pt {
	x, y := d.below(7)-3, d.below(7)-3
	o := moved(m, func(p api.Pt) api.Pt { return p })
	for _, rings := range o {
		for _, r := range rings {
			for i := range len(r) - 1 {
				if len(r)%2 == 1 {
					r[i] = api.Pt{X: r[i].X + x*(1-i%2*2), Y: r[i].Y + y*(1-i%2*2)}
				}
			}
			r[len(r)-1] = r[0]
		}
	}
	if isValid(o) {
		return o
	}
	return m
}

// P10: thrown sets, alike and not, small ones and such as reach to the greatest
// coordinates.
func TestSeparateThrown(t *testing.T) {
	const side = 9
	d := &dice{state: 41}
	for range 700 {
		m := d.valid(side)
		for _, o := range [][][][]api.Pt{d.valid(side), d.near(m, 0, side-1), d.otherwise(m), d.otherwise(d.near(m, 0, side-1))} {
			separateBy(t, m, o)
			far := d.stretch(side, m, o)
			separateBy(t, far[0], far[1])
		}
	}
}

// P10: sets at the greatest coordinates that part by a unit or two. The numbers
// are greater than an int of 32 bits.
func TestSeparateByLittle(t *testing.T) {
	const far = api.MaxCoord
	d := &dice{state: 43}
	most := new(big.Int)
	for i := range 1500 {
		m := d.stretch(9, d.valid(9))[0]
		if i%2 == 0 {
			m = moved(d.grown(nil, 2*far+1, 10), func(p api.Pt) api.Pt { return api.Pt{X: p.X - far, Y: p.Y - far} })
		}
		o := d.near(m, -far, far)
		for _, n := range []*big.Int{separateBy(t, m, o), separateBy(t, m, d.near(o, -far, far)), separateBy(t, m, d.swayed(m))} {
			if n.Cmp(most) > 0 {
				most = n
			}
		}
	}
	t.Log(most)
	if most.BitLen() <= 31 {
		t.Errorf("no number above %v", most)
	}
}
