package polygons

import (
	"math"
	"reflect"
	"strings"
	"testing"

	"polygons/api"
)

const square = "MULTIPOLYGON (((0 0, 4 0, 4 4, 0 4, 0 0)))"

// ring: points by twos.
func ring(l ...int) []api.Pt {
	r := []api.Pt{}
	for i := 0; i+1 < len(l); i += 2 {
		r = append(r, api.Pt{X: l[i], Y: l[i+1]})
	}
	return r
}

func triangle() []api.Pt {
	return ring(0, 0, 16, 0, 0, 16, 0, 0)
}

// comb: a valid ring of as many points as there may be.
func comb() []api.Pt {
	r := make([]api.Pt, api.MaxPoints)
	for i := range r {
		r[i] = api.Pt{X: api.MaxCoord - 600*i, Y: api.MaxCoord * (i % 2)}
	}
	r[api.MaxPoints-2] = api.Pt{X: -api.MaxCoord, Y: -api.MaxCoord}
	r[api.MaxPoints-1] = r[0]
	return r
}

func mustMake(t *testing.T, m [][][]api.Pt) *Shape {
	t.Helper()
	x, e := Make(m)
	if x == nil || e != api.OK {
		t.Fatalf("P3: Make(%v) = %v, %d, want a set", m, x, e)
	}
	return x
}

func mustDecode(t *testing.T, s string) *Shape {
	t.Helper()
	return mustRead(t, api.WKT, s)
}

func mustRead(t *testing.T, format int, s string) *Shape {
	t.Helper()
	x, e := Decode(format, s)
	if x == nil || e != api.OK {
		t.Fatalf("P4: Decode(%d, %q) = %v, %d, want a set", format, s, x, e)
	}
	return x
}

func mustEncode(t *testing.T, x *Shape, format int, order int) string {
	t.Helper()
	s, e := x.Encode(format, order)
	if s == "" || e != api.OK {
		t.Fatalf("P4: Encode(%d, %d) = %q, %d, want a text", format, order, s, e)
	}
	return s
}

// writings: every format with every order that it has.
var writings = [][2]int{{api.WKT, 0}, {api.WKB, 0}, {api.WKB, 1}, {api.JSON, 0}}

// P1: a set just without an error, and the empty string with one.
func TestEnds(t *testing.T) {
	numbers := []int{math.MinInt, math.MinInt32, -2, -1, 0, 1, 2, 3, 4, math.MaxInt32, math.MaxInt}
	texts := []string{"", " ", square, "MULTIPOLYGON EMPTY", "MULTIPOLYGON (((", "\x00\xff", strings.Repeat("(", api.MaxBytes), "MULTIPOLYGON" + strings.Repeat("(", 5000), strings.Repeat("9", 1<<16), "MULTIPOLYGON (((" + strings.Repeat("0 0,", 1400) + "0 0)))", "{", strings.Repeat("[", api.MaxBytes), "{\"a\":" + strings.Repeat("[", 5000), "{\"a\":\"" + strings.Repeat("\\", 5000), "\x00\x00\x00\x00\x06\xff\xff\xff\xff" + strings.Repeat("\x00\x00\x00\x00\x03\x00\x00\x00\x00", 600), strings.Repeat("\x01", api.MaxBytes)}
	x := mustDecode(t, square)
	for _, w := range writings {
		texts = append(texts, mustEncode(t, x, w[0], w[1]))
	}
	for _, f := range numbers {
		for _, s := range texts {
			if y, e := Decode(f, s); (y == nil) != (e != api.OK) {
				t.Errorf("P1: Decode(%d, %.20q) = %v, %d", f, s, y, e)
			}
		}
		for _, order := range numbers {
			if s, e := x.Encode(f, order); (s == "") != (e != api.OK) {
				t.Errorf("P1: Encode(%d, %d) = %q, %d", f, order, s, e)
			}
		}
	}
	for _, m := range [][][][]api.Pt{nil, {nil}, {{nil}}, {{{}}}, {nil, {nil, {}}}, {{ring(math.MinInt, math.MaxInt, 0, 0, 0, 0, math.MinInt, math.MaxInt)}}, make([][][]api.Pt, 1<<18)} {
		if y, e := Make(m); (y == nil) != (e != api.OK) {
			t.Errorf("P1: Make(%.40v) = %v, %d", m, y, e)
		}
	}
}

// P1: Canonical, Has and Separate of the longest sets and of those that say
// nothing.
func TestAsksEnd(t *testing.T) {
	same := make([]api.Pt, api.MaxPoints)
	lying := moved([][][]api.Pt{{comb()}}, func(p api.Pt) api.Pt { return api.Pt{X: p.Y, Y: p.X} })
	var sets []*Shape
	for _, m := range [][][][]api.Pt{nil, {{same}}, {{comb()}}, lying, {{triangle()}}, {{triangle(), triangle()}}} {
		sets = append(sets, mustMake(t, m))
	}
	numbers := []int{math.MinInt, math.MinInt32, -api.MaxPart, -1, 0, 1, api.MaxPart, math.MaxInt32, math.MaxInt}
	for _, x := range sets {
		if y, e := x.Canonical(); (y == nil) != (e != api.OK) {
			t.Errorf("P1: Canonical = %v, %d", y, e)
		}
		for i := range len(numbers) * len(numbers) * len(numbers) {
			a, b, w := numbers[i%9], numbers[i/9%9], numbers[i/81]
			if in, e := x.Has(a, b, w); in && e != api.OK {
				t.Errorf("P1: Has(%d, %d, %d) = %v, %d", a, b, w, in, e)
			}
		}
		for _, y := range sets {
			if p, q, d, e := x.Separate(y); (p == "") != (e != api.OK) || (q == "") != (e != api.OK) || (d == "") != (e != api.OK) {
				t.Errorf("P1: Separate = %q, %q, %q, %d", p, q, d, e)
			}
		}
	}
}

// What is no set is asked, too: it answers, whatever it answers.
func TestNoSet(t *testing.T) {
	for _, x := range []*Shape{nil, {}} {
		if p := x.Points(); len(p) != 0 {
			t.Errorf("P1: Points of no set = %v", p)
		}
		if s, e := x.Encode(api.WKT, 0); (s == "") != (e != api.OK) {
			t.Errorf("P1: Encode of no set = %q, %d", s, e)
		}
		if y, e := x.Canonical(); (y == nil) != (e != api.OK) {
			t.Errorf("P1: Canonical of no set = %v, %d", y, e)
		}
		if in, _ := x.Has(0, 0, 1); in {
			t.Error("P1: no set has a point")
		}
		if _, e := x.Has(0, 0, 0); e != api.ErrArg {
			t.Errorf("P1: Has of no set = %d, want ErrArg", e)
		}
		if p, q, d, e := x.Separate(nil); p != "" || q != "" || d != "" || e != api.ErrInvalid {
			t.Errorf("P1: Separate of no set from none = %q, %q, %q, %d", p, q, d, e)
		}
		if p, q, d, e := mustDecode(t, square).Separate(x); (p == "" || q == "" || d == "") != (e != api.OK) {
			t.Errorf("P1: Separate from no set = %q, %q, %q, %d", p, q, d, e)
		}
	}
}

// P2: Make reads alone, the spare room too, and keeps nothing.
func TestMakeReadsOnly(t *testing.T) {
	mark := api.Pt{X: 7, Y: -7}
	spare := append(triangle(), mark, mark)
	rings := [][]api.Pt{spare[:4], triangle(), {mark}}
	m := [][][]api.Pt{rings[:2], {triangle()}, {{mark}}}
	want := [][][]api.Pt{{triangle(), triangle()}, {triangle()}}
	x := mustMake(t, m[:2])
	if !reflect.DeepEqual(spare, append(triangle(), mark, mark)) || !reflect.DeepEqual(rings, [][]api.Pt{triangle(), triangle(), {mark}}) || !reflect.DeepEqual(m, [][][]api.Pt{want[0], want[1], {{mark}}}) {
		t.Errorf("P2: Make wrote into what it was handed: %v, %v, %v", spare, rings, m)
	}
	spare[0] = mark
	rings[1] = nil
	m[1] = nil
	if p := x.Points(); !reflect.DeepEqual(p, want) {
		t.Errorf("P2: the set kept what it was handed: %v", p)
	}
}

// P2: what comes out is the caller's, at every depth, of a set made in either way.
func TestPointsAreFresh(t *testing.T) {
	shared := triangle()
	want := [][][]api.Pt{{triangle(), triangle()}, {triangle()}}
	made := mustMake(t, [][][]api.Pt{{shared, shared}, {shared}})
	read := mustDecode(t, "MULTIPOLYGON (((0 0, 1 0, 0 1, 0 0), (0 0, 1 0, 0 1, 0 0)), ((0 0, 1 0, 0 1, 0 0)))")
	sets := []*Shape{made, read}
	for _, w := range writings {
		sets = append(sets, mustRead(t, w[0], mustEncode(t, made, w[0], w[1])))
	}
	for _, x := range sets {
		text, _ := x.Encode(api.WKT, 0)
		for range 2 {
			p := x.Points()
			if !reflect.DeepEqual(p, want) {
				t.Fatalf("P2: Points = %v", p)
			}
			if cap(p) != 2 || cap(p[0]) != 2 || cap(p[1]) != 1 || cap(p[0][0]) != 4 || cap(p[0][1]) != 4 || cap(p[1][0]) != 4 {
				t.Errorf("P2: spare room in %v", p)
			}
			p[0][0][1] = api.Pt{X: 99, Y: 99}
			if !reflect.DeepEqual(p[0][1], triangle()) || !reflect.DeepEqual(p[1][0], triangle()) {
				t.Errorf("P2: two lists share memory: %v", p)
			}
			p[0][1] = nil
			p[1] = nil
		}
		if again, _ := x.Encode(api.WKT, 0); again != text {
			t.Errorf("P2: a set changed: %q, %q", text, again)
		}
	}
}

// P3: ErrMany ahead of ErrForm ahead of ErrRange; else the set, just as it is.
func TestMake(t *testing.T) {
	far := ring(0, 0, api.MaxCoord+1, 0, 0, 1, 0, 0)
	for i, c := range []struct {
		m [][][]api.Pt
		e api.Errno
	}{
		{nil, api.OK}, {[][][]api.Pt{{triangle()}}, api.OK}, {[][][]api.Pt{{ring(3, 3, 3, 3, 3, 3, 3, 3)}}, api.OK}, {[][][]api.Pt{{ring(-32768, 32768, 0, 0, 1, 1, -32768, 32768), triangle()}, {triangle()}}, api.OK},
		{make([][][]api.Pt, 9), api.ErrMany}, {[][][]api.Pt{make([][]api.Pt, 13)}, api.ErrMany}, {[][][]api.Pt{{far, make([]api.Pt, 97)}}, api.ErrMany}, {make([][][]api.Pt, 8), api.ErrForm}, {[][][]api.Pt{{far}, {}}, api.ErrForm}, {[][][]api.Pt{{far, ring(0, 0, 0, 0, 0, 0)}}, api.ErrForm}, {[][][]api.Pt{{triangle()}, {far}}, api.ErrRange},
	} {
		x, e := Make(c.m)
		if e != c.e || (x == nil) != (e != api.OK) {
			t.Errorf("P3: Make of case %d = %v, %d, want %d", i, x, e, c.e)
			continue
		}
		if e != api.OK {
			continue
		}
		if p := x.Points(); len(p) != len(c.m) || len(p) > 0 && !reflect.DeepEqual(p, c.m) {
			t.Errorf("P3: Points of case %d = %v, want %v", i, p, c.m)
		}
	}
}

// P4: ErrArg, ErrLong, ErrSyntax, ErrRange, ErrMany, ErrForm, in this order.
func TestDecodeErrors(t *testing.T) {
	const good = "((0 0, 1 0, 0 1, 0 0))"
	points := func(n int) string { return "((" + strings.Repeat("0 0,", n-1) + "0 0))" }
	set := func(polys ...string) string { return "MULTIPOLYGON (" + strings.Join(polys, ",") + ")" }
	nine := strings.Split(strings.Repeat(good+";", 9), ";")[:9]
	pad := func(s string, n int) string { return s + strings.Repeat(" ", n-len(s)) }
	for _, c := range []struct {
		format int
		s      string
		e      api.Errno
	}{
		{-1, square, api.ErrArg}, {3, pad("x", api.MaxBytes+1), api.ErrArg}, {math.MinInt, "", api.ErrArg}, {math.MaxInt, "", api.ErrArg},
		{api.WKT, pad(square, api.MaxBytes), api.OK}, {api.WKT, pad(square, api.MaxBytes+1), api.ErrLong}, {api.WKB, pad("x", api.MaxBytes+1), api.ErrLong}, {api.JSON, pad("x", api.MaxBytes+1), api.ErrLong}, {api.WKT, pad("x", api.MaxBytes+1), api.ErrLong},
		{api.WKB, square, api.ErrSyntax}, {api.JSON, square, api.ErrSyntax}, {api.WKT, set(), api.ErrSyntax}, {api.WKT, set("((0.1 0))", "()"), api.ErrSyntax}, {api.WKT, set(points(101), "((1))"), api.ErrSyntax}, {api.WKT, set("((0 0))", "((1 1)"), api.ErrSyntax},
		{api.WKT, set(points(101), "((0.1 0))"), api.ErrRange}, {api.WKT, set("((0 0))", "((2048.0625 0))"), api.ErrRange}, {api.WKT, set(append(nine, "((0 -2049))")...), api.ErrRange},
		{api.WKT, set(nine...), api.ErrMany}, {api.WKT, set(nine[:8]...), api.OK}, {api.WKT, set(points(101)), api.ErrMany}, {api.WKT, set(points(100)), api.OK}, {api.WKT, set("((0 0))", points(100)), api.ErrMany}, {api.WKT, set("(" + strings.Repeat("(0 0),", 12) + "(0 0))"), api.ErrMany},
		{api.WKT, set("(" + strings.Repeat("(0 0),", 11) + "(0 0))"), api.ErrForm}, {api.WKT, set(points(3)), api.ErrForm}, {api.WKT, set(points(4)), api.OK}, {api.WKT, set(good, "((0 0, 1 0, 1 1, 0 1))"), api.ErrForm}, {api.WKT, set("((0 0, 1 0, 1 1, -0.0 0e9))"), api.OK},
	} {
		x, e := Decode(c.format, c.s)
		if e != c.e || (x == nil) != (e != api.OK) {
			t.Errorf("P4: Decode(%d, %.60q) = %v, %d, want %d", c.format, c.s, x, e, c.e)
		}
	}
}

// P4: the document's own examples, the second point's X.
func TestExamples(t *testing.T) {
	for _, c := range []struct {
		x     string
		units int
		e     api.Errno
	}{
		{"+1.0625", 17, api.OK}, {"00625e-4", 1, api.OK}, {"0.1", 0, api.ErrRange}, {"0.03125", 0, api.ErrRange}, {"2048.0625", 0, api.ErrRange}, {"1e400", 0, api.ErrRange}, {"0e400", 0, api.OK}, {".5", 0, api.ErrSyntax}, {"5.", 0, api.ErrSyntax},
	} {
		s := "MULTIPOLYGON(((0 0," + c.x + " -0,1 1,0 0)))"
		x, e := Decode(api.WKT, s)
		if e != c.e {
			t.Errorf("P4: Decode(%q) = %d, want %d", s, e, c.e)
		} else if e == api.OK && !reflect.DeepEqual(x.Points(), [][][]api.Pt{{ring(0, 0, c.units, 0, 16, 16, 0, 0)}}) {
			t.Errorf("P4: Decode(%q): %v", s, x.Points())
		}
	}
	for s, want := range map[string]api.Errno{"MULTIPOLYGON ()": api.ErrSyntax, "MULTIPOLYGONEMPTY": api.ErrSyntax, "multipolygon EMPTY": api.ErrSyntax, "MULTIPOLYGON (((0 0, 1 0, 0 0)))": api.ErrForm, "MULTIPOLYGON EMPTY": api.OK} {
		if _, e := Decode(api.WKT, s); e != want {
			t.Errorf("P4: Decode(%q) = %d, want %d", s, e, want)
		}
	}
}

// P4: what Encode writes, and that Decode reads it again; the longest set too.
func TestEncode(t *testing.T) {
	long := make([]api.Pt, api.MaxPoints)
	for i := range long {
		long[i] = api.Pt{X: -32767, Y: -32753}
	}
	for _, c := range []struct {
		m [][][]api.Pt
		s string
	}{
		{nil, "MULTIPOLYGON EMPTY"},
		{[][][]api.Pt{{ring(0, 0, 64, 0, 64, 64, 0, 64, 0, 0)}}, square},
		{[][][]api.Pt{{ring(-1, 40, 16, 8, -15, 3, -1, 40), triangle()}, {triangle()}}, "MULTIPOLYGON (((-0.0625 2.5, 1 0.5, -0.9375 0.1875, -0.0625 2.5), (0 0, 1 0, 0 1, 0 0)), ((0 0, 1 0, 0 1, 0 0)))"},
		{[][][]api.Pt{{long}}, "MULTIPOLYGON (((" + strings.Repeat("-2047.9375 -2047.0625, ", 99) + "-2047.9375 -2047.0625)))"},
	} {
		x := mustMake(t, c.m)
		s, e := x.Encode(api.WKT, 0)
		if s != c.s || e != api.OK {
			t.Errorf("P4: Encode = %q, %d, want %q", s, e, c.s)
			continue
		}
		y := mustDecode(t, s)
		if !reflect.DeepEqual(y.Points(), x.Points()) {
			t.Errorf("P4: %q read again: %v", s, y.Points())
		}
	}
	x := mustDecode(t, square)
	for _, c := range [][2]int{{api.WKT, 1}, {api.WKT, -1}, {api.WKT, math.MinInt}, {api.JSON, 1}, {api.JSON, -1}, {api.WKB, 2}, {api.WKB, -1}, {api.WKB, math.MinInt}, {-1, 0}, {-1, 1}, {3, 0}, {math.MaxInt, 0}} {
		if s, e := x.Encode(c[0], c[1]); s != "" || e != api.ErrArg {
			t.Errorf("P4: Encode(%d, %d) = %q, %d, want ErrArg", c[0], c[1], s, e)
		}
	}
}
