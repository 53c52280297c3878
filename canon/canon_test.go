package canon

import (
	"cmp"
	"reflect"
	"testing"

	"polygons/api"
)

// pts: points by twos.
func pts(l ...int) []api.Pt {
	var r []api.Pt
	for i := 0; i+1 < len(l); i += 2 {
		r = append(r, api.Pt{X: l[i], Y: l[i+1]})
	}
	return r
}

func TestRingForm(t *testing.T) {
	left := pts(-3, 2, 0, -1, 4, 0, 1, 5, -3, 2)
	right := pts(-3, 2, 1, 5, 4, 0, 0, -1, -3, 2)
	for _, r := range [][]api.Pt{
		left, right,
		pts(4, 0, 1, 5, -3, 2, 0, -1, 4, 0), pts(1, 5, 4, 0, 0, -1, -3, 2, 1, 5),
		pts(-1, 0, 0, -1, 4, 0, 1, 5, -3, 2, -2, 1, -1, 0), pts(0, -1, -1, 0, -2, 1, -3, 2, 1, 5, 4, 0, 0, -1),
	} {
		if form := ringForm(r, true); !reflect.DeepEqual(form, left) {
			t.Errorf("P8: %v to the left: %v", r, form)
		}
		if form := ringForm(r, false); !reflect.DeepEqual(form, right) {
			t.Errorf("P8: %v to the right: %v", r, form)
		}
	}
	for _, r := range [][]api.Pt{nil, pts(1, 1), pts(1, 1, 1, 1), pts(0, 0, 1, 1, 2, 2, 0, 0)} {
		if form := ringForm(r, true); len(form) != 0 {
			t.Errorf("%v has no corner, but the form %v", r, form)
		}
	}
}

// The beginning of another comes first: of rings, and of polygons.
func TestCompare(t *testing.T) {
	inOrder := [][]api.Pt{nil, pts(-1, 9), pts(0, 0), pts(0, 0, -9, 0), pts(0, 0, 1, 1), pts(0, 0, 1, 1, 2, 0), pts(0, 0, 1, 2), pts(0, 0, 2, -9), pts(0, 1), pts(1, -9), pts(1, -9, 0, 0)}
	var polys [][][]api.Pt
	for i, r := range inOrder {
		for j, s := range inOrder {
			want := cmp.Compare(i, j)
			if how := compareRings(r, s); how != want {
				t.Errorf("P8: rings %v, %v: %d, want %d", r, s, how, want)
			}
		}
		polys = append(polys, [][]api.Pt{r}, [][]api.Pt{r, pts(5, 5)}, [][]api.Pt{r, pts(5, 5), pts(0, 0)}, [][]api.Pt{r, pts(6, 5)})
	}
	for i, p := range polys {
		for j, q := range polys {
			want := cmp.Compare(i, j)
			if how := comparePolygons(p, q); how != want {
				t.Errorf("P8: polygons %v, %v: %d, want %d", p, q, how, want)
			}
		}
	}
}

func TestInOrder(t *testing.T) {
	a, b, c := [][]api.Pt{pts(0, 0)}, [][]api.Pt{pts(0, 1)}, [][]api.Pt{pts(0, 1), pts(0, 0)}
	want := [][][]api.Pt{a, b, b, c}
	for _, polys := range [][][][]api.Pt{{a, b, b, c}, {c, b, a, b}, {b, c, b, a}, {b, a, c, b}} {
		if order := inOrder(polys); !reflect.DeepEqual(order, want) {
			t.Errorf("P8: %v in order: %v", polys, order)
		}
	}
	if order := inOrder(nil); len(order) != 0 {
		t.Errorf("P8: nothing in order: %v", order)
	}
}

// P2: what is handed in stays as it is, and nothing of it comes out.
func TestFormIsFresh(t *testing.T) {
	square := pts(0, 0, 4, 0, 4, 4, 0, 4, 0, 0)
	hole := pts(1, 1, 1, 2, 2, 1, 1, 1)
	m := [][][]api.Pt{{square, hole}}
	form := Form(m)
	if !reflect.DeepEqual(form, m) {
		t.Fatalf("P8: Form(%v) = %v", m, form)
	}
	form[0][0][1] = api.Pt{X: 9, Y: 9}
	form[0][1][1] = api.Pt{X: 9, Y: 9}
	form[0][1] = nil
	if !reflect.DeepEqual(m, [][][]api.Pt{{pts(0, 0, 4, 0, 4, 4, 0, 4, 0, 0), pts(1, 1, 1, 2, 2, 1, 1, 1)}}) {
		t.Errorf("P2: Form gave what it was handed: %v", m)
	}
}
