package wkt

import (
	"reflect"
	"regexp"
	"testing"

	"polygons/api"
)

// The grammar of P4 once more: sets nest so deep and no deeper, so a regular
// expression says it.
var grammar = func() *regexp.Regexp {
	const b, b1 = `[ \t\n\r]*`, `[ \t\n\r]+`
	const number = `[+-]?[0-9]+(\.[0-9]+)?([eE][+-]?[0-9]+)?`
	list := func(s string) string {
		return `\(` + b + s + `(` + b + `,` + b + s + `)*` + b + `\)`
	}
	polys := list(list(list(number + b1 + number)))
	return regexp.MustCompile(`\A` + b + `MULTIPOLYGON(` + b1 + `EMPTY|` + b + polys + `)` + b + `\z`)
}()

// agree compares what Read says of the syntax with the grammar.
func agree(t *testing.T, s string) {
	t.Helper()
	m, e := Read(s)
	if (e != api.ErrSyntax) != grammar.MatchString(s) {
		t.Errorf("P4: Read(%q) = %d", s, e)
	}
	if e != api.OK && m != nil {
		t.Errorf("P1: Read(%q) = %v beside %d", s, m, e)
	}
}

var samples = []string{
	"MULTIPOLYGON EMPTY",
	" MULTIPOLYGON\r\n\tEMPTY ",
	"MULTIPOLYGON(((0 0)))",
	"MULTIPOLYGON(((0 0,+1.0625 -0,1 1,0 0)))",
	"MULTIPOLYGON (((0 0, 1 0, 1 2.5, 0 0), (1 1, 2 2, 1 1)), ((3 3), (4 4)))",
	"\tMULTIPOLYGON ( ( ( 0\t0e4 , 1.5E-1 \n 0.1e+01 ) ) , ( ( 00 -0 ) , ( 9 9 ) ) )\n",
}

// Every text one byte away from one that is right.
func TestNeighbours(t *testing.T) {
	const bytes = "( ),.+-0e1E\t\n\r\v\f\x00x\"[]MYT\xa0\xff"
	for _, s := range samples {
		if !grammar.MatchString(s) {
			t.Fatalf("the test's own text %q", s)
		}
		agree(t, s)
		for i := 0; i <= len(s); i++ {
			agree(t, s[:i])
			agree(t, s[i:])
			for j := range len(bytes) {
				agree(t, s[:i]+bytes[j:j+1]+s[i:])
				if i < len(s) {
					agree(t, s[:i]+bytes[j:j+1]+s[i+1:])
				}
			}
			if i < len(s) {
				agree(t, s[:i]+s[i+1:])
			}
			if i+1 < len(s) {
				agree(t, s[:i]+s[i+1:i+2]+s[i:i+1]+s[i+2:])
			}
		}
	}
}

func TestRead(t *testing.T) {
	for _, c := range []struct {
		s string
		m [][][]api.Pt
		e api.Errno
	}{
		{samples[0], nil, api.OK}, {samples[1], nil, api.OK},
		{samples[2], [][][]api.Pt{{{{X: 0, Y: 0}}}}, api.OK},
		{samples[3], [][][]api.Pt{{{{X: 0, Y: 0}, {X: 17, Y: 0}, {X: 16, Y: 16}, {X: 0, Y: 0}}}}, api.OK},
		{samples[4], [][][]api.Pt{{{{X: 0, Y: 0}, {X: 16, Y: 0}, {X: 16, Y: 40}, {X: 0, Y: 0}}, {{X: 16, Y: 16}, {X: 32, Y: 32}, {X: 16, Y: 16}}}, {{{X: 48, Y: 48}}, {{X: 64, Y: 64}}}}, api.OK},
		{samples[5], nil, api.ErrRange},
		// A wrong number does not hide a wrong text, ahead of it or behind.
		{"MULTIPOLYGON (((0.1 0)))", nil, api.ErrRange}, {"MULTIPOLYGON (((0 0.1)))", nil, api.ErrRange}, {"MULTIPOLYGON (((0 0), (1 1)), ((2 2, 3 4096)))", nil, api.ErrRange}, {"MULTIPOLYGON (((0.1 0)), (2 2))", nil, api.ErrSyntax}, {"MULTIPOLYGON (((0.1 0))", nil, api.ErrSyntax}, {"MULTIPOLYGON (((0.1 0))) EMPTY", nil, api.ErrSyntax}, {"MULTIPOLYGON (((1e400)))", nil, api.ErrSyntax},
	} {
		m, e := Read(c.s)
		if e != c.e || len(m) != len(c.m) || len(m) > 0 && !reflect.DeepEqual(m, c.m) {
			t.Errorf("P4: Read(%q) = %v, %d, want %v, %d", c.s, m, e, c.m, c.e)
		}
	}
}

func TestWrite(t *testing.T) {
	for _, c := range []struct {
		m [][][]api.Pt
		s string
	}{
		{nil, "MULTIPOLYGON EMPTY"}, {[][][]api.Pt{}, "MULTIPOLYGON EMPTY"},
		{[][][]api.Pt{{{{X: 0, Y: 0}, {X: 16, Y: 0}, {X: 16, Y: 40}, {X: 0, Y: 0}}}}, "MULTIPOLYGON (((0 0, 1 0, 1 2.5, 0 0)))"},
		{[][][]api.Pt{{{{X: -1, Y: -16}, {X: 32768, Y: -32768}}, {{X: 15, Y: 160}}}, {{{X: 1, Y: 2}}, {{X: 4, Y: 8}}}}, "MULTIPOLYGON (((-0.0625 -1, 2048 -2048), (0.9375 10)), ((0.0625 0.125), (0.25 0.5)))"},
	} {
		if s := Write(c.m); s != c.s {
			t.Errorf("P4: Write(%v) = %q, want %q", c.m, s, c.s)
		}
	}
}
