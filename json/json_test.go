package json

import (
	"bytes"
	stdlib "encoding/json"
	"fmt"
	"math/big"
	"strings"
	"testing"

	"polygons/api"
)

const (
	kind  = `"type":"MultiPolygon"`
	empty = `"coordinates":[]`
)

// wanted reads a text once more, by the library, and keeps to P6 beyond that.
func wanted(t *testing.T, s string) ([][][]api.Pt, api.Errno) {
	t.Helper()
	for _, c := range []byte(s) {
		if (c < 32 || c > 126) && c != '\t' && c != '\n' && c != '\r' {
			return nil, api.ErrSyntax
		}
	}
	if !stdlib.Valid([]byte(s)) || strings.TrimLeft(s, " \t\n\r")[0] != '{' {
		return nil, api.ErrSyntax
	}
	d := stdlib.NewDecoder(strings.NewReader(s))
	token(t, d)
	var types, lists []stdlib.RawMessage
	for d.More() {
		name := token(t, d)
		var raw stdlib.RawMessage
		if err := d.Decode(&raw); err != nil {
			t.Fatalf("the value of %q in %q: %v", name, s, err)
		}
		switch name {
		case "type":
			types = append(types, raw)
		case "coordinates":
			lists = append(lists, raw)
		default:
			if depth(raw) > api.MaxDeep {
				return nil, api.ErrSyntax
			}
		}
	}
	if len(types) != 1 || len(lists) != 1 {
		return nil, api.ErrSyntax
	}
	var text any
	if err := stdlib.Unmarshal(types[0], &text); err != nil || text != "MultiPolygon" {
		return nil, api.ErrSyntax
	}
	return wantedLists(lists[0])
}

func token(t *testing.T, d *stdlib.Decoder) any {
	t.Helper()
	v, err := d.Token()
	if err != nil {
		t.Fatalf("the next word: %v", err)
	}
	return v
}

// depth tells how deep lists and objects stand within each other.
func depth(raw []byte) int {
	d := stdlib.NewDecoder(bytes.NewReader(raw))
	d.UseNumber()
	now, most := 0, 0
	for {
		v, err := d.Token()
		if err != nil {
			return most
		}
		switch v {
		case stdlib.Delim('['), stdlib.Delim('{'):
			now++
		case stdlib.Delim(']'), stdlib.Delim('}'):
			now--
		}
		most = max(most, now)
	}
}

func wantedLists(raw []byte) ([][][]api.Pt, api.Errno) {
	// The library takes strings and null for numbers and lists.
	if bytes.ContainsAny(raw, `"n`) {
		return nil, api.ErrSyntax
	}
	var m [][][][]stdlib.Number
	if stdlib.Unmarshal(raw, &m) != nil {
		return nil, api.ErrSyntax
	}
	fault := api.OK
	polys := [][][]api.Pt{}
	for _, rings := range m {
		polys = append(polys, [][]api.Pt{})
		last := &polys[len(polys)-1]
		for _, points := range rings {
			*last = append(*last, []api.Pt{})
			ring := &(*last)[len(*last)-1]
			for _, p := range points {
				if len(p) != 2 {
					return nil, api.ErrSyntax
				}
				x, okX := exact(p[0])
				y, okY := exact(p[1])
				if !okX || !okY {
					fault = api.ErrRange
				}
				*ring = append(*ring, api.Pt{X: x, Y: y})
			}
		}
	}
	if fault != api.OK {
		return nil, fault
	}
	return polys, api.OK
}

func exact(n stdlib.Number) (int, bool) {
	r, ok := new(big.Rat).SetString(n.String())
	if !ok {
		return 0, false
	}
	r.Mul(r, big.NewRat(api.Unit, 1))
	if !r.IsInt() || r.Num().CmpAbs(big.NewInt(api.MaxCoord)) > 0 {
		return 0, false
	}
	return int(r.Num().Int64()), true
}

// equal takes nil and empty lists for the same, as print does.
func equal(a, b [][][]api.Pt) bool {
	return fmt.Sprint(a) == fmt.Sprint(b)
}

func agree(t *testing.T, s string) {
	t.Helper()
	m, e := Read(s)
	want, wantE := wanted(t, s)
	if e != wantE || !equal(m, want) {
		t.Errorf("P6: Read(%q) = %v, %d, want %v, %d", s, m, e, want, wantE)
	}
	if e != api.OK && m != nil {
		t.Errorf("P1: Read(%q) = %v beside %d", s, m, e)
	}
}

var samples = []string{
	"{" + kind + "," + empty + "}",
	" \t{\r\n" + empty + " , " + kind + " }\n",
	`{"typ\u0065":"\u004DultiPolygon","\u0063oordinates":[[]]}`,
	`{"type":"MultiPolygon","coordinates":[[[[0,0],[1,0],[1,2.5],[0,0]],[[-0.0625,2048]]],[[],[[1e1,-0]]]]}`,
	"{ \"coordinates\" : [ [ [ [ 0.1 , 1E+2 ]\t] , [\n] ] , [ ] ] , " + kind + " }",
	`{"a":[1,true,{"type":0,"type":[]},[]],` + kind + `,"b":{},"b":null,"":false,` + empty + `,"c":"\"\\\/\b\f\n\r\t\uABcd~ "}`,
	`{"a":-0.5e-7,"Type":{"a":{"b":[0]},"c":"type"},` + empty + "," + kind + "}",
}

// Every text one byte away from one that is right, and every part of one.
func TestNeighbours(t *testing.T) {
	const signs = "{}[]\",:\\ \t\n\r-+.0e1E9tuTrnlabC/~\x00\x0b\x1f\x7f\x80\xff"
	for _, s := range samples {
		if _, e := wanted(t, s); e == api.ErrSyntax {
			t.Fatalf("the test's own text %q", s)
		}
		agree(t, s)
		for i := 0; i <= len(s); i++ {
			agree(t, s[:i])
			agree(t, s[i:])
			for j := range len(signs) {
				agree(t, s[:i]+signs[j:j+1]+s[i:])
				if i < len(s) {
					agree(t, s[:i]+signs[j:j+1]+s[i+1:])
				}
			}
			if i < len(s) {
				agree(t, s[:i]+s[i+1:])
			}
			if i+1 < len(s) {
				agree(t, s[:i]+s[i+1:i+2]+s[i:i+1]+s[i+2:])
			}
		}
	}
}

// all calls for every text of up to so many bytes of an alphabet.
func all(alphabet string, most int, call func(string)) {
	level := []string{""}
	for range most {
		var next []string
		for _, s := range level {
			for i := range len(alphabet) {
				next = append(next, s+alphabet[i:i+1])
			}
		}
		for _, s := range next {
			call(s)
		}
		level = next
	}
}

// Short texts as another member's value, as a string, a number, a point.
func TestShortTexts(t *testing.T) {
	all(`[]{}",:0a `, 5, func(s string) { agree(t, `{"a":`+s+","+kind+","+empty+"}") })
	all(`\u0046e"/`, 5, func(s string) { agree(t, `{"typ`+s+`":"MultiPolygon",`+empty+"}") })
	all("-+.0e25", 5, func(s string) { agree(t, `{"a":`+s+","+kind+","+empty+"}") })
	all("-+.0e25", 5, func(s string) { agree(t, "{"+kind+`,"coordinates":[[[[0,`+s+"]]]]}") })
	all("[]{},0", 6, func(s string) { agree(t, "{"+kind+`,"coordinates":[[[`+s+"]]]}") })
	all("[]{},0", 6, func(s string) { agree(t, "{"+kind+`,"coordinates":`+s+"}") })
	for _, s := range []string{"true", "false", "null", "tru", "fals", "nul", "True", "NULL", "truefalse", "true1", "nulls", "NaN", "Infinity", "undefined", "'a'", "0x1", "1_0", "[1]]", "/**/0", "\"a\"\"b\""} {
		agree(t, `{"a":`+s+","+kind+","+empty+"}")
		agree(t, `{"a":[`+s+"],"+kind+","+empty+"}")
		agree(t, "{"+kind+`,"coordinates":`+s+"}")
	}
}

// Every byte: raw in a string, behind a backslash, as a digit of base 16,
// between two words and ahead of all.
func TestBytes(t *testing.T) {
	for c := range 256 {
		b := string([]byte{byte(c)})
		for _, s := range []string{b, `\` + b, `\u` + b + "000", `\u000` + b, `\` + b + "0000"} {
			agree(t, `{"a":"`+s+`",`+kind+","+empty+"}")
			agree(t, `{"`+s+`":0,`+kind+","+empty+"}")
		}
		agree(t, "{"+kind+b+","+empty+"}")
		agree(t, b+"{"+kind+","+empty+"}")
		agree(t, "{"+kind+","+empty+"}"+b)
	}
}

// written writes a word with those letters escaped that the bits name.
func written(word string, bits int, digits string) string {
	s := ""
	for i := range len(word) {
		if bits>>i&1 == 0 {
			s += word[i : i+1]
		} else {
			s += `\u00` + digits[word[i]/16:word[i]/16+1] + digits[word[i]%16:word[i]%16+1]
		}
	}
	return s
}

// Names and strings are the same if their characters are.
func TestEscapedNames(t *testing.T) {
	for _, digits := range []string{"0123456789abcdef", "0123456789ABCDEF"} {
		for bits := range 1 << 12 {
			s := `{"` + written("type", bits, digits) + `":"` + written("MultiPolygon", bits, digits) + `","` + written("coordinates", bits, digits) + `":[]}`
			if m, e := Read(s); len(m) != 0 || e != api.OK {
				t.Fatalf("P6: Read(%q) = %v, %d, want the empty set", s, m, e)
			}
		}
	}
	for _, name := range []string{"typ", "types", "Type", "type ", " type", "", "typ\\u0045", "typ\\u0165", "typ\\u6500", "type\\u0000", "\\u0000type", "\\type", "\\u0074ype\\/", "\\ud800type"} {
		other := `{"` + name + `":"MultiPolygon",` + empty + "}"
		if _, e := Read(other); e != api.ErrSyntax {
			t.Errorf("P6: Read(%q) = %d, want ErrSyntax", other, e)
		}
		both := "{" + kind + `,"` + name + `":1,` + empty + "}"
		if _, e := Read(both); e != api.OK {
			t.Errorf("P6: Read(%q) = %d, want the empty set", both, e)
		}
	}
}

// nested puts n lists and objects within each other, by turns from the bits.
func nested(n int, bits int, inmost string) string {
	s := inmost
	for i := range n {
		if bits>>(i%12)&1 == 0 {
			s = "[" + s + "]"
		} else {
			s = `{"a":` + s + "}"
		}
	}
	return s
}

func TestDeep(t *testing.T) {
	for bits := range 1 << 12 {
		for _, c := range []struct {
			n      int
			inmost string
			e      api.Errno
		}{
			{api.MaxDeep, "0", api.OK}, {api.MaxDeep + 1, "0", api.ErrSyntax}, {api.MaxDeep - 1, "[]", api.OK}, {api.MaxDeep, "[]", api.ErrSyntax}, {api.MaxDeep - 1, "{}", api.OK}, {api.MaxDeep, "{}", api.ErrSyntax},
		} {
			deep := nested(c.n, bits, c.inmost)
			for _, s := range []string{`{"a":` + deep + "," + kind + "," + empty + "}", "{" + kind + "," + empty + `,"a":[[],{}],"b":` + deep + "}"} {
				if _, e := Read(s); e != c.e {
					t.Fatalf("P6: Read(%q) = %d, want %d", s, e, c.e)
				}
			}
		}
	}
	side := "[" + nested(15, 0, "") + strings.Repeat(","+nested(15, 0, ""), 40) + "]"
	agree(t, `{"a":`+side+`,"b":`+side+","+kind+","+empty+"}")
	for _, s := range []string{strings.Repeat("[", 5900), strings.Repeat(`{"":`, 1450), strings.Repeat(`[{"":`, 1100), strings.Repeat("[", 2900) + strings.Repeat("]", 2900)} {
		if _, e := Read("{" + kind + "," + empty + `,"a":` + s + "}"); e != api.ErrSyntax {
			t.Errorf("P6: Read of %.20q.. = %d, want ErrSyntax", s, e)
		}
	}
}

func TestRead(t *testing.T) {
	for _, c := range []struct {
		s string
		m [][][]api.Pt
		e api.Errno
	}{
		{samples[0], nil, api.OK}, {samples[2], [][][]api.Pt{{}}, api.OK},
		{samples[3], [][][]api.Pt{{{{X: 0, Y: 0}, {X: 16, Y: 0}, {X: 16, Y: 40}, {X: 0, Y: 0}}, {{X: -1, Y: 32768}}}, {{}, {{X: 160, Y: 0}}}}, api.OK},
		{samples[4], nil, api.ErrRange},
		{"{" + kind + "}", nil, api.ErrSyntax}, {"{" + empty + "}", nil, api.ErrSyntax}, {"{}", nil, api.ErrSyntax}, {"[]", nil, api.ErrSyntax}, {"", nil, api.ErrSyntax}, {"\xef\xbb\xbf{" + kind + "," + empty + "}", nil, api.ErrSyntax},
		{"{" + kind + "," + empty + ",}", nil, api.ErrSyntax}, {"{" + kind + "," + kind + "," + empty + "}", nil, api.ErrSyntax}, {"{" + kind + "," + empty + "," + empty + "}", nil, api.ErrSyntax}, {`{"type":"Polygon",` + empty + "}", nil, api.ErrSyntax}, {`{"type":"Polygon",` + kind + "," + empty + "}", nil, api.ErrSyntax}, {"{" + kind + "," + kind + "," + empty + "}{}", nil, api.ErrSyntax},
		// Foreign numbers may be of any size; a wrong coordinate does not hide a wrong text.
		{`{"a":[0.1,1e999],` + kind + "," + empty + "}", nil, api.OK}, {"{" + kind + `,"coordinates":[[[[0.1,0]]]],}`, nil, api.ErrSyntax}, {`{"coordinates":[[[[4096,0]]]]}`, nil, api.ErrSyntax}, {"{" + kind + `,"coordinates":[[[[4096,0]]]],"a":1}`, nil, api.ErrRange}, {"{" + kind + `,"coordinates":[[[[1e400,0,1]]]]}`, nil, api.ErrSyntax},
	} {
		if m, e := Read(c.s); e != c.e || !equal(m, c.m) {
			t.Errorf("P6: Read(%q) = %v, %d, want %v, %d", c.s, m, e, c.m, c.e)
		}
	}
}

func TestWrite(t *testing.T) {
	for _, c := range []struct {
		m [][][]api.Pt
		s string
	}{
		{nil, "{" + kind + "," + empty + "}"}, {[][][]api.Pt{}, "{" + kind + "," + empty + "}"},
		{[][][]api.Pt{{{{X: 0, Y: 0}, {X: 16, Y: 0}, {X: 16, Y: 40}, {X: 0, Y: 0}}}}, "{" + kind + `,"coordinates":[[[[0,0],[1,0],[1,2.5],[0,0]]]]}`},
		{[][][]api.Pt{{{{X: -1, Y: -16}, {X: 32768, Y: -32768}}, {{X: 15, Y: 160}}}, {{{X: 1, Y: 2}}, {{X: 4, Y: 8}}}}, "{" + kind + `,"coordinates":[[[[-0.0625,-1],[2048,-2048]],[[0.9375,10]]],[[[0.0625,0.125]],[[0.25,0.5]]]]}`},
	} {
		s := Write(c.m)
		if s != c.s {
			t.Errorf("P6: Write(%v) = %q, want %q", c.m, s, c.s)
		}
		if m, e := Read(s); e != api.OK || !equal(m, c.m) {
			t.Errorf("P6: %q read again: %v, %d", s, m, e)
		}
	}
}
