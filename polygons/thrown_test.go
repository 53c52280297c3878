package polygons

import (
	"math/big"
	"slices"
	"testing"

	"polygons/api"
)

// dice: numbers that look thrown, the same at every run.
type dice struct {
	state uint64
}

func (d *dice) below(n int) int {
	d.state = d.state*6364136223846793005 + 1442695040888963407
	return int(d.state >> 33 % uint64(n))
}

func (d *dice) ring(side int) []api.Pt {
	var r []api.Pt
	for range 3 + d.below(4) {
		r = append(r, api.Pt{X: d.below(side), Y: d.below(side)})
	}
	return append(r, r[0])
}

func isValid(m [][][]api.Pt) bool {
	x, e := Make(m)
	return e == api.OK && x.Validate() == api.Valid
}

// withRing: the set and one ring more, a hole of polygon i or a shell.
func withRing(m [][][]api.Pt, i int, r []api.Pt) [][][]api.Pt {
	more := slices.Clone(m)
	if i == len(m) {
		return append(more, [][]api.Pt{r})
	}
	more[i] = append(slices.Clone(m[i]), r)
	return more
}

// grown: the set with some of the rings that were thrown, as far as it stays
// valid.
func (d *dice) grown(m [][][]api.Pt, side int, throws int) [][][]api.Pt {
	for range throws {
		more := withRing(m, d.below(len(m)+1), d.ring(side))
		if isValid(more) {
			m = more
		}
	}
	return m
}

// valid: a valid set in a square whose side is less than the number, mostly of
// several rings.
func (d *dice) valid(side int) [][][]api.Pt {
	var m [][][]api.Pt
	if d.below(2) == 0 {
		s := side - 1
		m = [][][]api.Pt{{ring(0, 0, s, 0, s, s, 0, s, 0, 0)}}
	}
	return d.grown(m, side, d.below(80))
}

// between: points of whole units between two, in their order.
func between(p api.Pt, q api.Pt) []api.Pt {
	dx, dy := q.X-p.X, q.Y-p.Y
	var l []api.Pt
	steps := int(new(big.Int).GCD(nil, nil, big.NewInt(int64(max(dx, -dx))), big.NewInt(int64(max(dy, -dy)))).Int64())
	for i := 1; i < steps; i++ {
		l = append(l, api.Pt{X: p.X + dx/steps*i, Y: p.Y + dy/steps*i})
	}
	return l
}

// otherwise: the same points of the plane: rings with more vertices, begun
// elsewhere, turned round, holes and polygons in another order.
func (d *dice) otherwise(m [][][]api.Pt) [][][]api.Pt {
	var other [][][]api.Pt
	for _, rings := range m {
		var l [][]api.Pt
		for _, r := range rings {
			l = slices.Insert(l, min(len(l), 1+d.below(len(l)+1)), d.ringOtherwise(r))
		}
		other = slices.Insert(other, d.below(len(other)+1), l)
	}
	return other
}

func (d *dice) ringOtherwise(r []api.Pt) []api.Pt {
	var o []api.Pt
	for i := range len(r) - 1 {
		o = append(o, r[i])
		for _, p := range between(r[i], r[i+1]) {
			if d.below(4) == 0 {
				o = append(o, p)
			}
		}
	}
	from := d.below(len(o))
	o = slices.Concat(o[from:], o[:from])
	if d.below(2) == 0 {
		slices.Reverse(o)
	}
	return append(o, o[0])
}

// stretch: the plane slanted and moved so that a square whose side is less than
// the number reaches up to the greatest coordinates. The same for all sets of
// one list.
func (d *dice) stretch(side int, sets ...[][][]api.Pt) [][][][]api.Pt {
	most := api.MaxCoord / (side - 1)
	a, b, c, e := 0, 0, 0, 0
	for a*e == b*c {
		a, b, c, e = d.below(2*most+1)-most, d.below(2*most+1)-most, d.below(2*most+1)-most, d.below(2*most+1)-most
	}
	left := min(0, a*(side-1)) + min(0, b*(side-1))
	top := max(0, c*(side-1)) + max(0, e*(side-1))
	var l [][][][]api.Pt
	for _, m := range sets {
		l = append(l, moved(m, func(p api.Pt) api.Pt {
			return api.Pt{X: a*p.X + b*p.Y - left - api.MaxCoord, Y: c*p.X + e*p.Y - top + api.MaxCoord}
		}))
	}
	return l
}

// moved: a set with each point moved.
func moved(m [][][]api.Pt, to func(api.Pt) api.Pt) [][][]api.Pt {
	var other [][][]api.Pt
	for _, rings := range m {
		var l [][]api.Pt
		for _, r := range rings {
			var o []api.Pt
			for _, p := range r {
				o = append(o, to(p))
			}
			l = append(l, o)
		}
		other = append(other, l)
	}
	return other
}

// spot: the point p/d, q/d.
type spot struct {
	p, q, d *big.Int
}

// gap: d times what lies between the spot and a point.
func (s spot) gap(p api.Pt) (*big.Int, *big.Int) {
	x := new(big.Int).Mul(big.NewInt(int64(p.X)), s.d)
	y := new(big.Int).Mul(big.NewInt(int64(p.Y)), s.d)
	return x.Sub(x, s.p), y.Sub(y, s.q)
}

// winds: how often the ring goes round the spot; true, if it lies on it.
func (s spot) winds(r []api.Pt) (int, bool) {
	count := 0
	for i := range len(r) - 1 {
		ax, ay := s.gap(r[i])
		bx, by := s.gap(r[i+1])
		turn := new(big.Int).Mul(ax, by)
		turn.Sub(turn, new(big.Int).Mul(ay, bx))
		away := new(big.Int).Mul(ax, bx)
		away.Add(away, new(big.Int).Mul(ay, by))
		if turn.Sign() == 0 && away.Sign() <= 0 {
			return 0, true
		}
		if ay.Sign() < 0 && by.Sign() >= 0 && turn.Sign() > 0 {
			count++
		}
		if ay.Sign() >= 0 && by.Sign() < 0 && turn.Sign() < 0 {
			count--
		}
	}
	return count, false
}

// in: does the spot lie in the set, borders too?
func (s spot) in(m [][][]api.Pt) bool {
	for _, rings := range m {
		in := true
		for i, r := range rings {
			count, on := s.winds(r)
			in = in && (on || (count != 0) == (i == 0))
		}
		if in {
			return true
		}
	}
	return false
}

func smallSpot(a int, b int, w int) spot {
	return spot{big.NewInt(int64(a)), big.NewInt(int64(b)), big.NewInt(int64(w))}
}

// The spots themselves, held against a drawing of half units, its least row first.
func TestSpots(t *testing.T) {
	m := [][][]api.Pt{{ring(0, 0, 4, 0, 4, 4, 0, 4, 0, 0), ring(1, 1, 3, 1, 3, 3, 1, 3, 1, 1)}, {ring(4, 4, 5, 6, 6, 5, 4, 4)}}
	rows := []string{
		"ooooooooo....",
		"ooooooooo....",
		"ooooooooo....",
		"ooo...ooo....",
		"ooo...ooo....",
		"ooo...ooo....",
		"ooooooooo....",
		"ooooooooo....",
		"ooooooooo....",
		".........oo..",
		".........oooo",
		"..........oo.",
		"..........o..",
	}
	for y, row := range rows {
		for x := range row {
			if in := smallSpot(x, y, 2).in(m); in != (row[x] == 'o') {
				t.Errorf("the spot %d/2 %d/2: %v", x, y, in)
			}
		}
	}
}
