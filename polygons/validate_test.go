package polygons

import (
	"reflect"
	"regexp"
	"strings"
	"testing"

	"polygons/api"
)

var ringForm = regexp.MustCompile(`[SH]\([^()]*\)`)

// drawn: a set as the document's examples are written: B is the box, S a shell,
// H a hole of the shell ahead.
func drawn(t *testing.T, s string) *Shape {
	t.Helper()
	s = strings.ReplaceAll(s, "B", "S(0 0, 4 0, 4 4, 0 4, 0 0)")
	var polys []string
	for _, r := range ringForm.FindAllString(s, -1) {
		if r[0] == 'S' {
			polys = append(polys, r[1:])
		} else {
			polys[len(polys)-1] += ", " + r[1:]
		}
	}
	if len(polys) == 0 {
		return mustDecode(t, "MULTIPOLYGON EMPTY")
	}
	return mustDecode(t, "MULTIPOLYGON (("+strings.Join(polys, "), (")+"))")
}

type drawing struct {
	set    string
	clause int
}

func checkAll(t *testing.T, l []drawing) {
	t.Helper()
	for _, c := range l {
		x := drawn(t, c.set)
		ahead := x.Points()
		for range 2 {
			if v := x.Validate(); v != c.clause {
				t.Errorf("P7: Validate of %s = %d, want %d", c.set, v, c.clause)
			}
		}
		if !reflect.DeepEqual(x.Points(), ahead) {
			t.Errorf("P2: Validate changed %s", c.set)
		}
	}
}

// P7: the document's own table.
func TestValidateExamples(t *testing.T) {
	checkAll(t, []drawing{
		{"", api.Valid},
		{"B", api.Valid},
		{"S(0 0, 2 2, 2 0, 0 2, 0 0)", api.Ring},
		{"S(0 0, 4 0, 4 0, 4 4, 0 0)", api.Ring},
		{"S(0 0, 2 0, 4 0, 4 4, 2 2, 0 0)", api.Valid},
		{"B H(1 1, 2 1, 2 2, 1 1)", api.Valid},
		{"B H(0 2, 1 1, 1 3, 0 2)", api.Valid},
		{"B H(0 2, 2 1, 4 2, 2 3, 0 2)", api.Parted},
		{"B H(0 1, 1 1, 1 2, 0 2, 0 1)", api.Rings},
		{"B H(3 1, 5 1, 5 3, 3 3, 3 1)", api.Rings},
		{"B H(5 5, 6 5, 6 6, 5 5)", api.Nested},
		{"B H(1 1, 2 1, 1.5 2, 1 1) H(2 1, 3 1, 2.5 2, 2 1) H(1.5 2, 2.5 2, 2 3, 1.5 2)", api.Parted},
		{"B S(4 2, 6 1, 6 3, 4 2)", api.Valid},
		{"B S(4 1, 6 1, 6 3, 4 3, 4 1)", api.Overlap},
		{"B B", api.Overlap},
		{"B H(1 1, 3 1, 3 3, 1 3, 1 1) S(1 2, 2 1, 3 2, 2 3, 1 2)", api.Valid},
		{"B H(1 1, 3 1, 3 3, 1 3, 1 1) S(1 1, 3 1, 3 3, 1 3, 1 1)", api.Overlap},
	})
}

// P7, clause 1: vertices that are the same, segments that go back or meet.
func TestRing(t *testing.T) {
	checkAll(t, []drawing{
		{"S(1 1, 1 1, 1 1, 1 1)", api.Ring},
		{"S(0 0, 1 0, 2 0, 0 0)", api.Ring},
		{"S(0 0, 2 0, 1 0, 0 0)", api.Ring},
		{"S(0 0, 1 1, 0 0, 0 0)", api.Ring},
		{"S(0 0, 2 2, 4 0, 4 4, 2 2, 0 4, 0 0)", api.Ring},
		{"S(2 2, 0 4, 0 0, 2 2, 4 0, 4 4, 2 2)", api.Ring},
		{"S(0 0, 6 0, 4 0, 4 4, 0 0)", api.Ring},
		{"S(2 0, 4 0, 4 4, 6 4, 6 0, 2 0)", api.Ring},
		{"S(2 0, 6 0, 6 4, 0 4, 4 0, 2 0)", api.Ring},
		{"S(0 0, 4 0, 4 4, 2 0, 0 4, 0 0)", api.Ring},
		{"S(0 0, 4 0, 4 4, 2 -0.0625, 0 4, 0 0)", api.Ring},
		{"S(0 0, 4 0, 4 1, 1 1, 1 0, 3 0, 3 2, 0 2, 0 0)", api.Ring},
		{"B H(1 1, 2 2, 2 1, 1 2, 1 1)", api.Ring},
		{"B H(1 1, 2 1, 2 2, 1 1) H(3 1, 3 1, 3 2, 2.5 2, 3 1)", api.Ring},
		{"B S(5 0, 6 0, 7 0, 5 0)", api.Ring},
		{"S(0 0, 4 0, 4 4, 2 0.0625, 0 4, 0 0)", api.Valid},
		{"S(2 0, 4 0, 4 4, 0 0, 2 0)", api.Valid},
		{"S(0 0, 1 0, 2 0, 0 1, 0 0)", api.Valid},
		{"S(-2048 -2048, 2048 2047.9375, 2048 2048, -2048 -2048)", api.Valid},
		{"S(-2048 -2048, 2048 2048, 0 0.0625, -2048 2048, -2048 -2048)", api.Valid},
		{"S(-2048 -2048, 2048 2048, 0 0, -2048 2048, -2048 -2048)", api.Ring},
	})
}

// P7, clause 2: rings of a polygon that cross within segments or go along each
// other; touching at an end is no fault of theirs.
func TestRings(t *testing.T) {
	checkAll(t, []drawing{
		{"B H(0 0, 4 0, 4 4, 0 4, 0 0)", api.Rings},
		{"B H(4 4, 0 4, 0 0, 4 0, 4 4)", api.Rings},
		{"B H(0 0, 2 0, 1 1, 0 0)", api.Rings},
		{"B H(4 1, 4 2, 5 2, 4 1)", api.Rings},
		{"B H(1 1, 3 1, 3 5, 1 5, 1 1)", api.Rings},
		{"B H(1 1, 3 1, 3 4.0625, 1 1)", api.Rings},
		{"B H(1 1, 3 1, 2 3, 1 1) H(1 2, 3 2, 2 0.5, 1 2)", api.Rings},
		{"B H(1 1, 3 1, 2 3, 1 1) H(3 1, 1 1, 2 3, 3 1)", api.Rings},
		{"B H(1 1, 2 1, 2 2, 1 1) H(2 1.5, 2 3, 3 3, 2 1.5)", api.Rings},
		{"B H(1 1, 2 1, 2 2, 1 1) H(1 1, 3 3, 1 3, 1 1)", api.Rings},
		{"B S(5 0, 9 0, 9 4, 5 4, 5 0) H(6 1, 10 1, 7 2, 6 1)", api.Rings},
		{"B H(1 1, 3 1, 3 4, 1 1)", api.Valid},
		{"B H(1 1, 3 1, 3 3.9375, 1 1)", api.Valid},
		{"B H(0 0, 2 1, 1 2, 0 0)", api.Valid},
		{"S(0 0, 4 0, 4 4, 2 2, 0 4, 0 0) H(1 1, 3 1, 2.5 2, 1.5 2, 1 1)", api.Valid},
		{"B H(1 1, 2 1, 2 2, 1 1) H(2 1, 3 1, 3 2, 2 1)", api.Valid},
		{"B H(1 1, 2 1, 2 2, 1 1) H(2 2, 2 3, 1 3, 2 2)", api.Valid},
		{"B H(1 1, 3 1, 3 2, 1 1) H(2 1, 1.5 0.5, 2.5 0.5, 2 1)", api.Valid},
	})
}

// P7, clause 3: holes outside the shell, in each other, or through vertices to
// the other side.
func TestNested(t *testing.T) {
	checkAll(t, []drawing{
		{"B H(4 2, 6 1, 6 3, 4 2)", api.Nested},
		{"B H(4 4, 5 4, 5 5, 4 4)", api.Nested},
		{"B H(-1 -1, 5 -1, 5 5, -1 5, -1 -1)", api.Nested},
		{"B H(2 2, 4 1, 5 2, 4 3, 2 2)", api.Nested},
		{"B H(2 3, 4 4, 5 5, 3 4, 2 3)", api.Nested},
		{"B H(2 -2, 6 2, 2 6, -2 2, 2 -2)", api.Nested},
		{"S(0 0, 4 0, 4 4, 2 2, 0 4, 0 0) H(1.5 3, 2.5 3, 2 3.5, 1.5 3)", api.Nested},
		{"S(0 0, 4 0, 4 4, 2 2, 0 4, 0 0) H(0 4, 2 3, 4 4, 2 5, 0 4)", api.Nested},
		{"S(0 0, 10 0, 10 4, 3 2, 2.5 1, 2 2, 0 4, 0 0) H(1 2, 2 0.5, 5 0.5, 9 2, 1 2)", api.Nested},
		{"B H(1 1, 3 1, 3 3, 1 3, 1 1) H(1.5 1.5, 2 1.5, 2 2, 1.5 1.5)", api.Nested},
		{"B H(1.5 1.5, 2 1.5, 2 2, 1.5 1.5) H(1 1, 3 1, 3 3, 1 3, 1 1)", api.Nested},
		{"B H(1 1, 3 1, 3 3, 1 3, 1 1) H(1 2, 2 1.5, 2 2.5, 1 2)", api.Nested},
		{"B H(1 1, 3 1, 3 3, 1 3, 1 1) H(1 1, 2 1.5, 2 2.5, 1 1)", api.Nested},
		{"B H(1 1, 3 1, 2 3, 1 1) H(2 1.5, 3 1, 3.5 2, 2.5 2, 2 1.5)", api.Nested},
		{"B S(5 0, 9 0, 9 4, 5 4, 5 0) H(1 1, 2 1, 2 2, 1 1)", api.Nested},
		{"S(0 0, 10 0, 10 4, 3 2, 2.5 2.0625, 2 2, 0 4, 0 0) H(1 2, 2 0.5, 5 0.5, 9 2, 1 2)", api.Parted},
		{"S(0 0, 10 0, 10 4, 3 2.0625, 2.5 2.5, 2 2, 0 4, 0 0) H(1 2, 2 0.5, 5 0.5, 9 2, 1 2)", api.Valid},
		{"S(0 0, 2048 0, 2048 2048, 0 0) H(2047 2046.9375, 2047.9375 2047.875, 2047.9375 2000, 2047 2046.9375)", api.Valid},
		{"S(0 0, 2048 0, 2048 2048, 0 0) H(2047 2047, 2047.9375 2047.875, 2047.9375 2000, 2047 2047)", api.Valid},
		{"S(0 0, 2048 0, 2048 2048, 0 0) H(2047 2047, 2047.9375 2047.9375, 2047.9375 2000, 2047 2047)", api.Rings},
		{"B H(1 1, 3 1, 3 3, 1 3, 1 1) H(1 2, 0.5 1.5, 0.5 2.5, 1 2)", api.Valid},
		{"B H(1 1, 3 1, 2 1.5, 1 1) H(1 3, 2 1.5, 3 3, 1 3)", api.Valid},
	})
}

// P7, clause 4: ways round over touch points; trees of rings that touch.
func TestParted(t *testing.T) {
	checkAll(t, []drawing{
		{"B H(0 0, 3 1, 4 4, 1 3, 0 0)", api.Parted},
		{"B H(0 1, 1 2, 0 3, 2 2, 0 1)", api.Parted},
		{"B H(1 1, 3 1, 2 2, 1 1) H(1 1, 2 3, 3 1, 2 2.5, 1 1)", api.Parted},
		{"B H(0 2, 1 1, 2 2, 0 2) H(2 2, 3 1, 4 2, 2 2)", api.Parted},
		{"B H(0 2, 1 1, 2 2, 0 2) H(2 2, 3 1, 3 2, 2 2) H(3 2, 3.5 1, 4 2, 3 2)", api.Parted},
		{"B H(2 1, 1.5 1.5, 1 2, 1 1, 2 1) H(1 2, 1.5 2.5, 2 3, 1 3, 1 2) H(2 3, 2.5 2.5, 3 2, 3 3, 2 3) H(3 2, 2.5 1.5, 2 1, 3 1, 3 2)", api.Parted},
		{"B H(2 2, 1 1, 1 2, 2 2) H(2 2, 3 1, 3 2, 2 2) H(2 2, 1 2, 2 3, 2 2)", api.Rings},
		{"B H(2 2, 1 1, 1 2, 2 2) H(2 2, 3 1, 3 2, 2 2) H(2 2, 1.5 2.5, 1 2, 1 3, 2 3, 2 2)", api.Parted},
		{"B H(0 2, 1 1, 2 2, 0 2) H(0 2, 1 3, 2 2, 1 2.5, 0 2)", api.Parted},
		{"B S(5 0, 9 0, 9 4, 5 4, 5 0) H(5 2, 7 1, 9 2, 7 3, 5 2)", api.Parted},
		{"B H(2 2, 1 1, 1 2, 2 2) H(2 2, 3 1, 3 2, 2 2) H(2 2, 2 3, 1.5 3, 2 2)", api.Valid},
		{"B H(0 2, 1 1, 1 2, 0 2) H(0 2, 1 2.5, 1 3, 0 2)", api.Valid},
		{"B H(0 2, 1 1, 1 2, 0 2) H(4 2, 3 1, 3 2, 4 2)", api.Valid},
		{"B H(0 2, 1 1, 2 2, 0 2) H(2 2, 3 1, 3 2, 2 2) H(3 2, 3.5 1, 3.9375 2, 3 2)", api.Valid},
		{"B H(2 1, 1.5 1.5, 1 2, 1 1, 2 1) H(1 2, 1.5 2.5, 2 3, 1 3, 1 2) H(2 3, 2.5 2.5, 3 2, 3 3, 2 3) H(3 2, 2.5 1.5, 2.0625 1, 3 1, 3 2)", api.Valid},
		{"B H(0 2, 1 1, 1 3, 0 2) S(4 1, 8 0, 8 4, 4 3, 6 2, 4 1)", api.Valid},
	})
}

// P7, clause 5: polygons that have more than single points in common, or lie in
// each other.
func TestOverlap(t *testing.T) {
	checkAll(t, []drawing{
		{"B S(3 1, 5 1, 5 3, 3 3, 3 1)", api.Overlap},
		{"B S(1 1, 2 1, 2 2, 1 1)", api.Overlap},
		{"S(1 1, 2 1, 2 2, 1 1) B", api.Overlap},
		{"B S(0 2, 2 0, 4 2, 2 4, 0 2)", api.Overlap},
		{"B S(0 2, 1 1, 1 3, 0 2)", api.Overlap},
		{"B S(2 2, 4 1, 5 2, 4 3, 2 2)", api.Overlap},
		{"B S(2 -2, 6 2, 2 6, -2 2, 2 -2)", api.Overlap},
		{"B S(4 4, 0 4, 0 0, 4 0, 4 4)", api.Overlap},
		{"B S(4 3, 4 5, 6 5, 4 3)", api.Overlap},
		{"B S(5 0, 6 0, 6 1, 5 0) S(3.9375 2, 6 2, 6 3, 3.9375 2)", api.Overlap},
		{"B H(1 1, 3 1, 3 3, 1 3, 1 1) B H(1 1, 3 1, 3 3, 1 3, 1 1)", api.Overlap},
		{"B H(1 1, 3 1, 3 3, 1 3, 1 1) S(0.5 2, 2 1, 3 2, 2 3, 0.5 2)", api.Overlap},
		{"B H(1 1, 3 1, 3 3, 1 3, 1 1) S(0.5 0.5, 3.5 0.5, 3.5 3.5, 0.5 3.5, 0.5 0.5)", api.Overlap},
		{"B H(1 1, 3 1, 3 3, 1 3, 1 1) S(0.5 0.5, 3.5 0.5, 3.5 3.5, 0.5 3.5, 0.5 0.5) H(1.5 1.5, 2.5 1.5, 2 2.5, 1.5 1.5)", api.Overlap},
		{"B H(1 1, 2 1, 2 2, 1 1) H(2 2, 3 2, 3 3, 2 2) S(1.5 1.25, 2 1.5, 2 2, 1.5 1.25)", api.Overlap},
		{"S(0 0, 1 1, 2 0, 2 2, 0 2, 0 0) S(0 0, 2 0, 1 1, 0 0)", api.Overlap},
		{"S(0 0, 10 0, 10 4, 3 2, 2.5 1, 2 2, 0 4, 0 0) S(1 2, 2 6, 9 6, 9 2, 1 2)", api.Overlap},
		{"S(0 0, 2048 2047.9375, 2048 2048, 0 0) S(0 0, 2048 2047.9375, 2048 2047.875, 0 0)", api.Overlap},
		{"S(-2048 -2048, 2048 2047.9375, 2048 2048, -2048 -2048) S(-2048 -2048, 2048 2047.875, 2048 2047.8125, -2048 -2048)", api.Valid},
		{"B S(4.0625 0, 6 0, 6 1, 4.0625 0)", api.Valid},
		{"B S(4 4, 6 4, 6 6, 4 4) S(0 0, -1 0, 0 -1, 0 0)", api.Valid},
		{"B S(4 1, 6 2, 4 3, 8 2, 4 1)", api.Valid},
		{"B S(4 4, 8 3, 8 5, 4 4) S(4 4, 3 8, 5 8, 4 4)", api.Valid},
		{"B H(1 1, 3 1, 3 3, 1 3, 1 1) S(1.5 1.5, 2.5 1.5, 2 2.5, 1.5 1.5)", api.Valid},
		{"S(1.5 1.5, 2.5 1.5, 2 2.5, 1.5 1.5) B H(1 1, 3 1, 3 3, 1 3, 1 1)", api.Valid},
		{"B H(1 1, 3 1, 3 3, 1 3, 1 1) S(1 1, 2 1.5, 3 1, 2.5 2, 3 3, 2 2.5, 1 3, 1.5 2, 1 1) H(1.75 1.75, 2.25 1.75, 2 2.25, 1.75 1.75) S(2 2.25, 1.9375 2, 2.0625 2, 2 2.25)", api.Valid},
		{"S(0 2, 2 2, 2 4, 0 2) S(2 2, 4 2, 4 4, 2 2) S(2 2, 4 0, 0 0, 2 2)", api.Valid},
	})
}

// P7: of several clauses that do not hold the least is told, wherever it does
// not hold and in whatever order the polygons stand.
func TestLeastIsTold(t *testing.T) {
	faults := [6]string{
		api.Valid:   "B",
		api.Ring:    "S(10 0, 12 2, 12 0, 10 2, 10 0)",
		api.Rings:   "S(20 0, 24 0, 24 4, 20 4, 20 0) H(23 1, 25 1, 25 3, 23 3, 23 1)",
		api.Nested:  "S(30 0, 34 0, 34 4, 30 4, 30 0) H(35 5, 36 5, 36 6, 35 5)",
		api.Parted:  "S(40 0, 44 0, 44 4, 40 4, 40 0) H(40 2, 42 1, 44 2, 42 3, 40 2)",
		api.Overlap: "S(50 0, 54 0, 54 4, 50 4, 50 0) S(51 1, 52 1, 52 2, 51 1)",
	}
	for some := range 1 << len(faults) {
		up, down, least := "", "", api.Valid
		for clause := len(faults) - 1; clause >= 0; clause-- {
			if some>>clause&1 == 0 {
				continue
			}
			up, down = faults[clause]+" "+up, down+" "+faults[clause]
			if clause != api.Valid {
				least = clause
			}
		}
		checkAll(t, []drawing{{up, least}, {down, least}})
	}
	checkAll(t, []drawing{
		{"S(0 0, 2 2, 2 0, 0 2, 0 0) H(5 5, 6 5, 6 6, 5 5) B B", api.Ring},
		{"S(0 0, 2 2, 2 0, 0 2, 0 0) H(0 0, 2 2, 2 0, 0 2, 0 0)", api.Ring},
		{"B H(3 1, 5 1, 5 3, 3 3, 3 1) H(3.5 1.5, 4.5 1.5, 4 2, 3.5 1.5) B", api.Rings},
		{"B H(0 2, 2 1, 4 2, 2 3, 0 2) H(5 5, 6 5, 6 6, 5 5) B", api.Nested},
		{"B H(0 2, 2 1, 4 2, 2 3, 0 2) B H(0 2, 2 1, 4 2, 2 3, 0 2)", api.Parted},
	})
}

// P1: Validate tells one of the clauses of whatever set, of the longest too.
func TestValidateEnds(t *testing.T) {
	same := make([]api.Pt, api.MaxPoints)
	fan := [][][]api.Pt{}
	for i := range api.MaxPolys {
		fan = append(fan, [][]api.Pt{ring(0, 0, api.MaxCoord, 4000*i, api.MaxCoord, 4000*i+3999, 0, 0)})
	}
	rings := make([][]api.Pt, api.MaxRings)
	for i := range rings {
		rings[i] = ring(i, 0, -api.MaxCoord, api.MaxCoord, api.MaxCoord, api.MaxCoord, i, 0)
	}
	for i, c := range []struct {
		m      [][][]api.Pt
		clause int
	}{
		{[][][]api.Pt{{same}}, api.Ring}, {[][][]api.Pt{{comb()}}, api.Valid}, {fan, api.Valid}, {[][][]api.Pt{rings}, api.Rings},
	} {
		if v := mustMake(t, c.m).Validate(); v != c.clause {
			t.Errorf("P1: Validate of case %d = %d, want %d", i, v, c.clause)
		}
	}
	for _, x := range []*Shape{nil, {}} {
		if v := x.Validate(); v != api.Valid {
			t.Errorf("P1: Validate of no set = %d", v)
		}
	}
}
