package plane

import (
	"reflect"
	"testing"

	"polygons/api"
)

const far = api.MaxCoord

func pt(x int, y int) api.Pt {
	return api.Pt{X: x, Y: y}
}

func seg(a int, b int, c int, d int) Segment {
	return Segment{A: pt(a, b), B: pt(c, d)}
}

// grid: all points of a small square.
func grid(n int) []api.Pt {
	var l []api.Pt
	for x := range n {
		for y := range n {
			l = append(l, pt(x, y))
		}
	}
	return l
}

// Left of a way up along the x axis is where y is greater.
func TestSide(t *testing.T) {
	for _, c := range []struct {
		s    Segment
		p    Spot
		side int
	}{
		{seg(0, 0, 4, 0), At(pt(9, 1)), 1}, {seg(0, 0, 4, 0), At(pt(-9, -1)), -1}, {seg(0, 0, 4, 0), At(pt(9, 0)), 0}, {seg(4, 0, 0, 0), At(pt(9, 1)), -1},
		{seg(0, 0, 2, 1), Middle(pt(1, 0), pt(2, 1)), -1}, {seg(0, 0, 3, 1), Middle(pt(1, 0), pt(2, 1)), 0}, {seg(0, 0, 4, 1), Middle(pt(1, 0), pt(2, 1)), 1},
		{seg(-far, -far, far, far), At(pt(far-1, far)), 1}, {seg(-far, -far, far, far), At(pt(far, far-1)), -1}, {seg(-far, -far, far, far), Middle(pt(-far, far), pt(far, -far)), 0},
		{seg(-far, -far, far, far-1), Middle(pt(-far, -far), pt(far, far)), 1}, {seg(far, -far, -far, far), At(pt(far, far)), -1}, {seg(far, -far, -far, far), At(pt(-far, -far)), 1},
		{seg(3, 3, 3, 3), At(pt(8, 1)), 0},
	} {
		if side := c.s.Side(c.p); side != c.side {
			t.Errorf("Side of %v, %v = %d, want %d", c.s, c.p, side, c.side)
		}
	}
}

// commonPoints walks along s in small steps, counts the points that lie on t
// too, and tells whether one of them is an end. Between points of a square of
// 3 by 3 the steps miss none: segments that meet in one point do so at a part
// of their way whose divisor is at most 8.
func commonPoints(s Segment, t Segment) (int, bool) {
	const steps = 8 * 7 * 6 * 5
	count, end := 0, false
	for i := range steps + 1 {
		p := pt(s.A.X*(steps-i)+s.B.X*i, s.A.Y*(steps-i)+s.B.Y*i)
		if !liesOn(p, pt(t.A.X*steps, t.A.Y*steps), pt(t.B.X*steps, t.B.Y*steps)) {
			continue
		}
		count++
		for _, q := range []api.Pt{s.A, s.B, t.A, t.B} {
			end = end || p == pt(q.X*steps, q.Y*steps)
		}
		if s.A == s.B {
			break
		}
	}
	return count, end
}

func liesOn(p api.Pt, a api.Pt, b api.Pt) bool {
	if p.X < min(a.X, b.X) || p.X > max(a.X, b.X) || p.Y < min(a.Y, b.Y) || p.Y > max(a.Y, b.Y) {
		return false
	}
	return (p.X-a.X)*(b.Y-a.Y) == (p.Y-a.Y)*(b.X-a.X)
}

// All pairs of segments between points of a small square, segments of no
// length too, by the points that they have in common.
func TestMeet(t *testing.T) {
	seen := [4]int{}
	for _, a := range grid(3) {
		for _, b := range grid(3) {
			for _, c := range grid(3) {
				for _, d := range grid(3) {
					s, u := Segment{A: a, B: b}, Segment{A: c, B: d}
					count, end := commonPoints(s, u)
					want := Along
					if count == 0 {
						want = Apart
					} else if count == 1 && end {
						want = Touching
					} else if count == 1 {
						want = Crossing
					}
					seen[want]++
					if how := Meet(s, u); how != want {
						t.Fatalf("Meet(%v, %v) = %d, want %d", s, u, how, want)
					}
				}
			}
		}
	}
	for how, n := range seen {
		if n == 0 {
			t.Errorf("no pair that meets as %d", how)
		}
	}
}

func TestMeetFar(t *testing.T) {
	for _, c := range []struct {
		s, t Segment
		how  int
	}{
		{seg(-far, -far, far, far), seg(-far, far, far, -far), Crossing},
		{seg(-far, -far, far, far), seg(far-1, far, far, far-1), Crossing},
		{seg(-far, -far, far, far), seg(far-1, far-1, far, far-2), Touching},
		{seg(-far, -far, far, far), seg(far-1, far, far-2, far-1), Apart},
		{seg(-far, -far, far, far), seg(-far, 1-far, far-1, far), Apart},
		{seg(-far, -far, far, far-1), seg(-far, -far, far-1, far-2), Touching},
		{seg(-far, -far, far, far), seg(far-1, far-1, far-2, far-2), Along},
		{seg(-far, -far, 0, 0), seg(far, far, 0, 0), Touching},
		{seg(-far, -far, -1, -1), seg(far, far, 0, 0), Apart},
		{seg(far, -far, far, 0), seg(far, far, far, -1), Along},
		{seg(far, -far, far, 0), seg(far, far, far, 1), Apart},
	} {
		for _, how := range []int{Meet(c.s, c.t), Meet(c.t, c.s), Meet(Segment{A: c.s.B, B: c.s.A}, c.t)} {
			if how != c.how {
				t.Errorf("Meet(%v, %v) = %d, want %d", c.s, c.t, how, c.how)
			}
		}
	}
}

func TestHas(t *testing.T) {
	s := seg(1, 5, 4, 2)
	for _, c := range []struct {
		p   Spot
		has bool
	}{
		{At(pt(1, 5)), true}, {At(pt(4, 2)), true}, {At(pt(2, 4)), true}, {Middle(pt(1, 5), pt(4, 2)), true}, {At(pt(0, 6)), false}, {At(pt(5, 1)), false}, {At(pt(2, 3)), false}, {Middle(pt(2, 3), pt(3, 3)), false}, {Middle(pt(0, 6), pt(1, 5)), false},
	} {
		if has := s.Has(c.p); has != c.has {
			t.Errorf("Has %v = %v", c.p, has)
		}
	}
	if up := seg(3, 0, 3, 2); !up.Has(Middle(pt(3, 0), pt(3, 1))) || up.Has(At(pt(3, 3))) || up.Has(At(pt(3, -1))) {
		t.Error("Has of an upright segment")
	}
	if flat := seg(2, 3, 0, 3); !flat.Has(Middle(pt(0, 3), pt(1, 3))) || flat.Has(At(pt(3, 3))) || flat.Has(At(pt(-1, 3))) {
		t.Error("Has of a flat segment")
	}
}

func TestMiddles(t *testing.T) {
	rings := [][]api.Pt{{pt(4, 4), pt(0, 0), pt(8, 8), pt(5, 4), pt(9, 9), pt(4, 4)}, {pt(-1, -1), pt(7, 7), pt(4, 4), pt(-1, -1)}}
	want := []Spot{{X: 4, Y: 4, W: 2}, {X: 11, Y: 11, W: 2}, {X: 15, Y: 15, W: 2}}
	for _, s := range []Segment{seg(0, 0, 8, 8), seg(8, 8, 0, 0)} {
		if got := s.Middles(rings); !reflect.DeepEqual(got, want) {
			t.Errorf("Middles of %v = %v, want %v", s, got, want)
		}
		if got := s.Middles(nil); !reflect.DeepEqual(got, []Spot{{X: 8, Y: 8, W: 2}}) {
			t.Errorf("Middles of %v, not cut = %v", s, got)
		}
	}
	if got := seg(5, 9, 5, 0).Middles([][]api.Pt{{pt(5, 1), pt(5, 7), pt(4, 3)}}); !reflect.DeepEqual(got, []Spot{{X: 10, Y: 1, W: 2}, {X: 10, Y: 8, W: 2}, {X: 10, Y: 16, W: 2}}) {
		t.Errorf("Middles of an upright segment = %v", got)
	}
	if got := seg(5, 5, 5, 5).Middles(rings); len(got) != 0 {
		t.Errorf("Middles of a segment without length = %v", got)
	}
}

// pictures: rings whose inside is drawn. A row's first character stands for
// the spot a half to the left of 0; rows go down from the greatest y. Letters:
// o is on the ring, # within, . outside.
var pictures = []struct {
	ring []api.Pt
	rows []string
}{
	{[]api.Pt{pt(0, 0), pt(2, 0), pt(2, 1), pt(1, 1), pt(1, 2), pt(0, 2), pt(0, 0)}, []string{
		".......",
		".ooo...",
		".o#o...",
		".o#ooo.",
		".o###o.",
		".ooooo.",
		".......",
	}},
	{[]api.Pt{pt(0, 1), pt(1, 0), pt(2, 1), pt(1, 2), pt(0, 1)}, []string{
		".......",
		"...o...",
		"..o#o..",
		".o###o.",
		"..o#o..",
		"...o...",
		".......",
	}},
	{[]api.Pt{pt(0, 2), pt(1, 1), pt(2, 2), pt(2, 0), pt(0, 0), pt(0, 1), pt(0, 2)}, []string{
		".......",
		".o...o.",
		".oo.oo.",
		".o#o#o.",
		".o###o.",
		".ooooo.",
		".......",
	}},
	{[]api.Pt{pt(0, 0), pt(1, 1), pt(2, 0), pt(2, 2), pt(0, 2), pt(0, 0)}, []string{
		".......",
		".ooooo.",
		".o###o.",
		".o#o#o.",
		".oo.oo.",
		".o...o.",
		".......",
	}},
	{[]api.Pt{pt(0, 0), pt(2, 1), pt(0, 2), pt(0, 0)}, []string{
		".......",
		".o.....",
		".o#o...",
		".o###o.",
		".o#o...",
		".o.....",
		".......",
	}},
}

func TestPlace(t *testing.T) {
	for n, c := range pictures {
		back := make([]api.Pt, len(c.ring))
		for i, p := range c.ring {
			back[len(back)-1-i] = p
		}
		for i, row := range c.rows {
			for j := range row {
				p := Spot{X: int64(j - 1), Y: int64(len(c.rows) - 2 - i), W: 2}
				want := map[byte]int{'.': Outside, 'o': On, '#': Within}[row[j]]
				if place := Place(c.ring, p); place != want {
					t.Errorf("picture %d: Place of %v = %d, want %d", n, p, place, want)
				}
				if place := Place(back, p); place != want {
					t.Errorf("picture %d, turned round: Place of %v = %d, want %d", n, p, place, want)
				}
			}
		}
	}
	wide := []api.Pt{pt(-far, -far), pt(far, far-1), pt(far, far), pt(-far, -far)}
	for _, c := range []struct {
		p     Spot
		place int
	}{
		{Middle(pt(far, far), pt(far, far-1)), On}, {Middle(pt(-far, -far), pt(far, far)), On}, {Middle(pt(far, far-1), pt(far-1, far-1)), Within}, {Middle(pt(far-1, far-2), pt(far, far-1)), Outside}, {Middle(pt(far-1, far-1), pt(far-1, far)), Outside},
	} {
		if place := Place(wide, c.p); place != c.place {
			t.Errorf("Place of %v = %d, want %d", c.p, place, c.place)
		}
	}
}

func TestSegments(t *testing.T) {
	if got := Segments([]api.Pt{pt(0, 0), pt(1, 0), pt(0, 1), pt(0, 0)}); !reflect.DeepEqual(got, []Segment{seg(0, 0, 1, 0), seg(1, 0, 0, 1), seg(0, 1, 0, 0)}) {
		t.Errorf("Segments = %v", got)
	}
	if got := Segments(nil); len(got) != 0 {
		t.Errorf("Segments of nothing = %v", got)
	}
}

// P9: borders count; a hole counts in its own polygon alone.
func TestInSet(t *testing.T) {
	box := func(low int, high int) []api.Pt {
		return []api.Pt{pt(low, low), pt(high, low), pt(high, high), pt(low, high), pt(low, low)}
	}
	ringed := [][]api.Pt{box(0, 8), box(1, 3), box(4, 7)}
	sets := [][][][]api.Pt{{}, {{}}, {ringed}, {ringed, {box(5, 6)}}, {{box(5, 6)}, ringed}}
	for _, c := range []struct {
		p  Spot
		in []bool
	}{
		{At(pt(0, 0)), []bool{false, false, true, true, true}},
		{At(pt(8, 3)), []bool{false, false, true, true, true}},
		{At(pt(9, 3)), []bool{false, false, false, false, false}},
		{At(pt(-1, -1)), []bool{false, false, false, false, false}},
		{At(pt(1, 1)), []bool{false, false, true, true, true}},
		{At(pt(2, 2)), []bool{false, false, false, false, false}},
		{At(pt(4, 5)), []bool{false, false, true, true, true}},
		{Middle(pt(4, 5), pt(5, 5)), []bool{false, false, false, false, false}},
		{At(pt(5, 5)), []bool{false, false, false, true, true}},
		{Middle(pt(5, 5), pt(6, 6)), []bool{false, false, false, true, true}},
		{Middle(pt(3, 3), pt(4, 4)), []bool{false, false, true, true, true}},
	} {
		for i, m := range sets {
			if in := InSet(m, c.p); in != c.in[i] {
				t.Errorf("P9: InSet of set %d, %v = %v", i, c.p, in)
			}
		}
	}
}
