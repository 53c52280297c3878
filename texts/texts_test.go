package texts

import (
	"testing"

	"polygons/api"
)

func TestBlanks(t *testing.T) {
	for c := range 256 {
		b := string([]byte{byte(c)})
		want := 0
		if c == 32 || c == 9 || c == 10 || c == 13 {
			want = 3
		}
		r := Reader{Rest: b + b + b + "x"}
		if n := r.Blanks(); n != want || len(r.Rest) != 4-want {
			t.Errorf("P4: %d blanks in %q, left %q", n, b, r.Rest)
		}
	}
	r := Reader{Rest: " \t\r\n"}
	if n := r.Blanks(); n != 4 || r.Rest != "" {
		t.Errorf("P4: %d blanks, left %q", n, r.Rest)
	}
}

// Each step: what it answers, what is left, whether it found a fault.
func TestSteps(t *testing.T) {
	const word, mark, need, begin, next = 0, 1, 2, 3, 4
	for _, c := range []struct {
		step int
		in   Reader
		is   bool
		rest string
		bad  bool
	}{
		{word, Reader{Rest: "true,"}, true, ",", false}, {word, Reader{Rest: "tru"}, false, "tru", false}, {word, Reader{Rest: " true"}, false, " true", false}, {word, Reader{Rest: "True"}, false, "True", false},
		{mark, Reader{Rest: " \ttrue"}, true, "", false}, {mark, Reader{Rest: "x true"}, false, "x true", false}, {mark, Reader{Rest: "  "}, false, "", false},
		{need, Reader{Rest: " true "}, true, " ", false}, {need, Reader{Rest: "  false"}, false, "false", true}, {need, Reader{}, false, "", true}, {need, Reader{Rest: "true", Bad: true}, false, "", true},
		{begin, Reader{Rest: " [ 0]"}, true, "0]", false}, {begin, Reader{Rest: "[ ] ,"}, false, " ,", false}, {begin, Reader{Rest: "["}, true, "", false}, {begin, Reader{Rest: "]"}, false, "]", true}, {begin, Reader{Rest: "[0", Bad: true}, false, "0", true},
		{next, Reader{Rest: " , 0]"}, true, " 0]", false}, {next, Reader{Rest: " ] ,"}, false, " ,", false}, {next, Reader{Rest: "0,]"}, false, "0,]", true}, {next, Reader{}, false, "", true}, {next, Reader{Rest: ",0", Bad: true}, false, ",0", true},
	} {
		r := c.in
		is := false
		switch c.step {
		case word:
			is = r.Word("true")
		case mark:
			is = r.Mark("true")
		case need:
			is = r.Need("true")
		case begin:
			is = r.Begin("[", "]")
		case next:
			is = r.Next("]")
		}
		if is != c.is || r.Rest != c.rest || r.Bad != c.bad || r.Off {
			t.Errorf("step %d of %v: %v, %v", c.step, c.in, is, r)
		}
	}
}

func TestNumbers(t *testing.T) {
	for _, c := range []struct {
		rest   string
		length int
		units  int
		want   Reader
	}{
		{"2.5,", 3, 40, Reader{Rest: ","}}, {"-1", 2, -16, Reader{}}, {"0.1 ", 3, 0, Reader{Rest: " ", Off: true}}, {"9999", 4, 0, Reader{Off: true}},
		{"x", 0, 0, Reader{Rest: "x", Bad: true}}, {"", 0, 0, Reader{Bad: true}}, {"1", 2, 0, Reader{Rest: "1", Bad: true}}, {"1", -1, 0, Reader{Rest: "1", Bad: true}},
	} {
		r := Reader{Rest: c.rest}
		if u := r.Coordinate(c.length); u != c.units || r != c.want {
			t.Errorf("P4: Coordinate of %q, %d = %d, %v, want %d, %v", c.rest, c.length, u, r, c.units, c.want)
		}
		r = Reader{Rest: c.rest}
		s := r.Number(c.length)
		if r.Off || r.Bad != c.want.Bad || s+r.Rest != c.rest || !r.Bad && len(s) != c.length {
			t.Errorf("P4: Number of %q, %d = %q, %v", c.rest, c.length, s, r)
		}
	}
}

// A wrong text is told ahead of a wrong number.
func TestAnswer(t *testing.T) {
	for _, c := range []struct {
		r Reader
		e api.Errno
	}{
		{Reader{}, api.OK}, {Reader{Rest: " \n\t\r"}, api.OK}, {Reader{Rest: " x"}, api.ErrSyntax}, {Reader{Bad: true}, api.ErrSyntax}, {Reader{Off: true}, api.ErrRange}, {Reader{Rest: " ", Off: true}, api.ErrRange}, {Reader{Rest: "x", Off: true}, api.ErrSyntax}, {Reader{Bad: true, Off: true}, api.ErrSyntax},
	} {
		r := c.r
		m, e := r.Answer([][][]api.Pt{{}})
		if e != c.e || (len(m) == 1) != (e == api.OK) || (m == nil) != (e != api.OK) {
			t.Errorf("P4: Answer of %v = %v, %d, want %d", c.r, m, e, c.e)
		}
	}
}

func TestSet(t *testing.T) {
	m := Marks{Open: "<", Comma: ";", Shut: ">", Ahead: "a", Between: "b", Behind: "c"}
	for _, c := range []struct {
		polys [][][]api.Pt
		s     string
	}{
		{nil, "<>"}, {[][][]api.Pt{{}, {{}, {}}}, "<<>;<<>;<>>>"}, {[][][]api.Pt{{{{X: 1, Y: -40}, {X: 0, Y: 16}}}}, "<<<a0.0625b-2.5c;a0b1c>>>"},
	} {
		if s := m.Set(c.polys); s != c.s {
			t.Errorf("P4: Set(%v) = %q, want %q", c.polys, s, c.s)
		}
	}
}
