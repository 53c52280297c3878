package polygons

import (
	"math"
	"testing"

	"polygons/api"
)

type question struct {
	a, b, w int
	in      bool
}

func askAll(t *testing.T, set string, l []question) {
	t.Helper()
	x := drawn(t, set)
	for _, c := range l {
		for range 2 {
			if in, e := x.Has(c.a, c.b, c.w); in != c.in || e != api.OK {
				t.Errorf("P9: Has(%d, %d, %d) of %s = %v, %d, want %v", c.a, c.b, c.w, set, in, e, c.in)
			}
		}
	}
}

// P9: the document's own examples.
func TestHasExamples(t *testing.T) {
	askAll(t, "B H(1 1, 3 1, 3 3, 1 3, 1 1)", []question{
		{64, 10, 2, true}, {32, 32, 1, false}, {16, 32, 1, true}, {-1, 1, 7, false}, {0, 0, 1, true},
	})
}

// P9: within, outside, on a shell's ring and on a hole's, at corners, and close
// to all of them.
func TestHas(t *testing.T) {
	const most = api.MaxPart
	askAll(t, "", []question{{0, 0, 1, false}, {most, -most, most, false}})
	askAll(t, "B H(1 1, 3 1, 3 3, 1 3, 1 1)", []question{
		{8, 8, 1, true}, {65, 32, 1, false}, {64, 64, 1, true}, {64, 65, 1, false}, {65, 64, 1, false}, {-1, 0, 1, false}, {0, -1, 1, false}, {0, 63, 1, true},
		{16, 16, 1, true}, {17, 17, 1, false}, {15, 15, 1, true}, {48, 48, 1, true}, {47, 47, 1, false}, {20, 16, 1, true}, {20, 48, 1, true}, {48, 20, 1, true}, {48, 20, 2, true},
		{64 * 9999, 64 * 9999, 9999, true}, {64*9999 + 1, 64 * 9999, 9999, false}, {64 * 9999, 64*9999 + 1, 9999, false}, {64*9999 - 1, 64*9999 - 1, 9999, true}, {16 * 9999, 16*9999 + 1, 9999, true}, {16*9999 + 1, 16*9999 + 1, 9999, false}, {16*9999 - 1, 32 * 9999, 9999, true},
		{0, 0, most, true}, {1, 1, most, true}, {-1, 1, most, false}, {1, -1, most, false}, {0, 1, most, true}, {most, most, most, true}, {most, most, 1, false}, {-most, -most, 1, false}, {most, most, most / 64, true}, {most, most, most/64 - 1, false},
	})
	// within a hole, but in another polygon; the order of the polygons does nothing
	askAll(t, "B H(1 1, 3 1, 3 3, 1 3, 1 1) S(1 2, 2 1, 3 2, 2 3, 1 2)", []question{
		{32, 32, 1, true}, {17, 17, 1, false}, {24, 24, 1, true}, {49, 48, 2, true}, {47, 48, 2, false}, {16, 32, 1, true}, {32, 48, 1, true}, {33, 48, 1, true}, {33, 47, 1, true}, {34, 47, 1, false},
	})
	askAll(t, "S(1 2, 2 1, 3 2, 2 3, 1 2) B H(1 1, 3 1, 3 3, 1 3, 1 1)", []question{
		{32, 32, 1, true}, {17, 17, 1, false}, {8, 8, 1, true},
	})
	// holes that touch the shell and each other
	askAll(t, "B H(0 2, 1 1, 1 3, 0 2) H(1 2, 2 1, 2 3, 1 2)", []question{
		{0, 32, 1, true}, {1, 32, 1, false}, {15, 32, 1, false}, {16, 32, 1, true}, {17, 32, 1, false}, {16, 33, 1, true}, {15, 33, 1, false}, {32, 32, 1, true}, {33, 32, 1, true}, {17, 33, 1, true}, {17, 34, 1, true}, {1, 33, 1, true}, {1, 34, 1, true},
	})
	// the greatest coordinates
	askAll(t, "S(-2048 -2048, 2048 2047.9375, 2048 2048, -2048 -2048)", []question{
		{32768 * 32, 32767 * 32, 32, true}, {32768 * 32, 32767*32 - 1, 32, false}, {32768 * 32, 32768*32 - 1, 32, true}, {32768 * 32, 32768 * 32, 32, true}, {32767, 32768, 1, false}, {0, -1, 2, true}, {0, -1, 1, false}, {0, -1, most, true}, {0, 1, most, false}, {-most, -most, 32, true}, {-most, -most, 31, false}, {-most, 1 - most, 32, false}, {1 - most, -most, 32, false},
	})
}

// P9: ErrArg ahead of ErrInvalid; false with both.
func TestHasErrors(t *testing.T) {
	const most = api.MaxPart
	wrong := [][3]int{{most + 1, 0, 1}, {-most - 1, 0, 1}, {0, most + 1, 1}, {0, -most - 1, 1}, {0, 0, 0}, {0, 0, -1}, {0, 0, most + 1}, {0, 0, -most}, {math.MinInt, 0, 1}, {math.MaxInt, 0, 1}, {0, math.MinInt, 1}, {0, math.MaxInt, 1}, {0, 0, math.MinInt}, {0, 0, math.MaxInt}, {math.MinInt, math.MinInt, math.MinInt}}
	right := [][3]int{{0, 0, 1}, {most, most, most}, {-most, -most, 1}, {16, 16, 1}}
	for clause, s := range faulty {
		x := drawn(t, s)
		for _, c := range wrong {
			if in, e := x.Has(c[0], c[1], c[2]); in || e != api.ErrArg {
				t.Errorf("P9: Has(%v) of %s = %v, %d, want ErrArg", c, s, in, e)
			}
		}
		for _, c := range right {
			if in, e := x.Has(c[0], c[1], c[2]); clause != api.Valid && (in || e != api.ErrInvalid) {
				t.Errorf("P9: Has(%v) of %s = %v, %d, want ErrInvalid", c, s, in, e)
			}
		}
	}
}

// askSpots: points at and on the segments of a set, and anywhere.
func (d *dice) askSpots(t *testing.T, m [][][]api.Pt, most int) int {
	x := mustMake(t, m)
	count := 0
	for _, rings := range m {
		for _, r := range rings {
			for i := range len(r) - 1 {
				w := 1 + d.below(api.MaxPart/most)
				k := d.below(w + 1)
				a := r[i].X*(w-k) + r[i+1].X*k + d.below(2)*(d.below(3)-1)
				b := r[i].Y*(w-k) + r[i+1].Y*k + d.below(2)*(d.below(3)-1)
				if max(a, -a, b, -b) > api.MaxPart {
					continue
				}
				want := smallSpot(a, b, w).in(m)
				if in, e := x.Has(a, b, w); in != want || e != api.OK {
					t.Fatalf("P9: Has(%d, %d, %d) of %v = %v, %d, want %v", a, b, w, m, in, e, want)
				}
				if want {
					count++
				}
			}
		}
	}
	return count
}

// P9: thrown sets, small ones and such as reach to the greatest coordinates.
func TestHasThrown(t *testing.T) {
	const side = 9
	d := &dice{state: 31}
	in := 0
	for range 700 {
		m := d.valid(side)
		in += d.askSpots(t, m, side)
		in += d.askSpots(t, d.stretch(side, m)[0], api.MaxCoord)
	}
	t.Log(in)
}
