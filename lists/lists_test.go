package lists

import (
	"math"
	"reflect"
	"testing"

	"polygons/api"
)

// ring: points by twos.
func ring(l ...int) []api.Pt {
	r := []api.Pt{}
	for i := 0; i+1 < len(l); i += 2 {
		r = append(r, api.Pt{X: l[i], Y: l[i+1]})
	}
	return r
}

// same: a ring of n points, all the same.
func same(n int) []api.Pt {
	return make([]api.Pt, n)
}

// grid: polygons of rings of n points.
func grid(polys, rings, n int) [][][]api.Pt {
	m := make([][][]api.Pt, polys)
	for i := range m {
		for range rings {
			m[i] = append(m[i], same(n))
		}
	}
	return m
}

func one(rings ...[]api.Pt) [][][]api.Pt {
	return [][][]api.Pt{rings}
}

func TestFault(t *testing.T) {
	good := same(4)
	far := ring(0, 0, api.MaxCoord+1, 0, 0, 1, 0, 0)
	open := ring(0, 0, 1, 0, 1, 1, 0, 1)
	for i, c := range []struct {
		m [][][]api.Pt
		e api.Errno
	}{
		{nil, api.OK}, {[][][]api.Pt{}, api.OK}, {one(good), api.OK},
		// The counts, at their edges.
		{grid(api.MaxPolys, 1, 4), api.OK}, {grid(api.MaxPolys+1, 1, 4), api.ErrMany}, {grid(1, api.MaxRings, 4), api.OK}, {grid(1, api.MaxRings+1, 4), api.ErrMany}, {grid(6, 2, 4), api.OK}, {append(grid(6, 2, 4), grid(1, 1, 4)...), api.ErrMany}, {one(same(100)), api.OK}, {one(same(101)), api.ErrMany}, {one(same(50), same(50)), api.OK}, {one(same(50), same(51)), api.ErrMany}, {append(one(same(96)), one(same(4))...), api.OK}, {append(one(same(96)), one(same(5))...), api.ErrMany}, {grid(1<<16, 0, 0), api.ErrMany}, {one(same(1 << 20)), api.ErrMany},
		// The form, at its edges.
		{one(), api.ErrForm}, {append(one(good), one()...), api.ErrForm}, {one(nil), api.ErrForm}, {one(same(3)), api.ErrForm}, {one(good, same(3)), api.ErrForm}, {one(open), api.ErrForm}, {one(good, open), api.ErrForm}, {append(one(good), one(open)...), api.ErrForm}, {one(ring(0, 0, 1, 0, 1, 1, 1, 0)), api.ErrForm},
		// The range, at its edges, in each place.
		{one(ring(api.MaxCoord, -api.MaxCoord, -api.MaxCoord, api.MaxCoord, 0, 0, api.MaxCoord, -api.MaxCoord)), api.OK}, {one(far), api.ErrRange}, {one(ring(0, 0, -api.MaxCoord-1, 0, 0, 1, 0, 0)), api.ErrRange}, {one(ring(0, 0, 0, api.MaxCoord+1, 0, 1, 0, 0)), api.ErrRange}, {one(ring(0, 0, 0, -api.MaxCoord-1, 0, 1, 0, 0)), api.ErrRange}, {one(ring(0, 0, 0, math.MinInt, 0, 1, 0, 0)), api.ErrRange}, {one(ring(0, 0, math.MaxInt, 0, 0, 1, 0, 0)), api.ErrRange}, {one(ring(math.MinInt, 0, 0, 0, 0, 1, math.MinInt, 0)), api.ErrRange}, {one(good, far), api.ErrRange}, {append(one(good), one(far)...), api.ErrRange},
		// Several faults: ErrMany ahead of ErrForm ahead of ErrRange, wherever they stand.
		{append(one(far, open), grid(8, 1, 4)...), api.ErrMany}, {one(far, open), api.ErrForm}, {append(one(far), one()...), api.ErrForm}, {append(one(), grid(8, 0, 0)...), api.ErrMany}, {one(same(3), same(98)), api.ErrMany},
	} {
		if e := Fault(c.m); e != c.e {
			t.Errorf("P3: Fault of case %d = %d, want %d", i, e, c.e)
		}
	}
}

func TestCopy(t *testing.T) {
	r := append(make([]api.Pt, 0, 9), ring(0, 0, 1, 0, 1, 1, 0, 0)...)
	p := append(make([][]api.Pt, 0, 9), r, r)
	m := append(make([][][]api.Pt, 0, 9), p, p)
	want := [][][]api.Pt{{ring(0, 0, 1, 0, 1, 1, 0, 0), ring(0, 0, 1, 0, 1, 1, 0, 0)}, {ring(0, 0, 1, 0, 1, 1, 0, 0), ring(0, 0, 1, 0, 1, 1, 0, 0)}}
	c := Copy(m)
	if !reflect.DeepEqual(c, want) {
		t.Fatalf("P2: Copy = %v", c)
	}
	if cap(c) != 2 {
		t.Errorf("P2: spare room: %d polygons", cap(c))
	}
	for i := range c {
		if cap(c[i]) != 2 {
			t.Errorf("P2: spare room: %d rings", cap(c[i]))
		}
		for j := range c[i] {
			if cap(c[i][j]) != 4 {
				t.Errorf("P2: spare room: %d points", cap(c[i][j]))
			}
		}
	}
	// Lists that shared memory when they were handed in do not share it here.
	c[0][0][1].X = 77
	c[1][1] = nil
	want[0][0][1].X = 77
	want[1][1] = nil
	if !reflect.DeepEqual(c, want) || r[1].X != 1 {
		t.Errorf("P2: lists share memory: %v, %v", c, r)
	}
	if len(Copy(nil)) != 0 {
		t.Errorf("P2: Copy(nil) is not empty")
	}
}
