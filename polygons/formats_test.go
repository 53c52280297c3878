package polygons

import (
	"encoding/hex"
	"reflect"
	"strings"
	"testing"

	"polygons/api"
)

func unhex(t *testing.T, s string) string {
	t.Helper()
	b, err := hex.DecodeString(strings.ReplaceAll(s, " ", ""))
	if err != nil {
		t.Fatal(err)
	}
	return string(b)
}

// bytesOf writes rings of so many points at 0 0 each, one polygon a list.
func bytesOf(polys ...[]int) string {
	count := func(n int) string { return string([]byte{0, 0, 0, byte(n)}) }
	s := "\x00\x00\x00\x00\x06" + count(len(polys))
	for _, rings := range polys {
		s += "\x00\x00\x00\x00\x03" + count(len(rings))
		for _, points := range rings {
			s += count(points) + strings.Repeat("\x00", 16*points)
		}
	}
	return s
}

// jsonOf is bytesOf as JSON.
func jsonOf(polys ...[]int) string {
	list := func(n int, s string) string { return "[" + strings.TrimSuffix(strings.Repeat(s+",", n), ",") + "]" }
	all := []string{}
	for _, rings := range polys {
		one := []string{}
		for _, points := range rings {
			one = append(one, list(points, "[0,0]"))
		}
		all = append(all, "["+strings.Join(one, ",")+"]")
	}
	return `{"type":"MultiPolygon","coordinates":[` + strings.Join(all, ",") + "]}"
}

// P4 to P6: ErrLong, ErrSyntax, ErrRange, ErrMany, ErrForm, in this order.
func TestFormatErrors(t *testing.T) {
	four := []int{4}
	eight := [][]int{four, four, four, four, four, four, four, four}
	twelve := []int{4, 4, 4, 4, 4, 4, 4, 4, 4, 4, 4, 4}
	for _, c := range []struct {
		polys [][]int
		e     api.Errno
	}{
		{nil, api.OK}, {eight, api.OK}, {append(eight, four), api.ErrMany}, {[][]int{twelve}, api.OK}, {[][]int{twelve, four}, api.ErrMany}, {[][]int{{100}}, api.OK}, {[][]int{{97, 4}}, api.ErrMany}, {[][]int{{101}}, api.ErrMany},
		{[][]int{{}}, api.ErrForm}, {[][]int{four, {}}, api.ErrForm}, {[][]int{{0}}, api.ErrForm}, {[][]int{{4, 3}}, api.ErrForm}, {append(eight, []int{}), api.ErrMany},
	} {
		for format, s := range map[int]string{api.WKB: bytesOf(c.polys...), api.JSON: jsonOf(c.polys...)} {
			if x, e := Decode(format, s); e != c.e || (x == nil) != (e != api.OK) {
				t.Errorf("P4: Decode(%d, %q) = %v, %d, want %d", format, s, x, e, c.e)
			}
		}
		if len(c.polys) == 0 || len(c.polys[0]) == 0 || c.polys[0][0] == 0 {
			continue
		}
		// The first number is made a wrong one; then the text, too.
		wrongBytes := bytesOf(c.polys...)
		wrongBytes = wrongBytes[:22] + "\x80" + wrongBytes[23:]
		wrongJSON := strings.Replace(jsonOf(c.polys...), "[0,0]", "[0.1,0]", 1)
		for format, s := range map[int]string{api.WKB: wrongBytes, api.JSON: wrongJSON} {
			if x, e := Decode(format, s); x != nil || e != api.ErrRange {
				t.Errorf("P4: Decode(%d, %q) = %v, %d, want ErrRange", format, s, x, e)
			}
			if x, e := Decode(format, s+"]"); x != nil || e != api.ErrSyntax {
				t.Errorf("P4: Decode(%d, %q) = %v, %d, want ErrSyntax", format, s+"]", x, e)
			}
		}
	}
	spaces := strings.Repeat(" ", api.MaxBytes)
	right := jsonOf(four)
	mustRead(t, api.JSON, right+spaces[len(right):])
	for format, s := range map[int]string{api.WKB: bytesOf(four), api.JSON: right} {
		if x, e := Decode(format, s+spaces[len(s):]+" "); x != nil || e != api.ErrLong {
			t.Errorf("P4: Decode(%d) of MaxBytes and one = %v, %d, want ErrLong", format, x, e)
		}
	}
	if x, e := Decode(api.WKB, bytesOf(four)+spaces[len(bytesOf(four)):]); x != nil || e != api.ErrSyntax {
		t.Errorf("P5: Decode of bytes with blanks behind = %v, %d, want ErrSyntax", x, e)
	}
}

// P5 and P6: the document's own examples.
func TestFormatExamples(t *testing.T) {
	const kind, empty = `"type":"MultiPolygon"`, `"coordinates":[]`
	for _, c := range []struct {
		format int
		s      string
		e      api.Errno
	}{
		{api.JSON, "{" + kind + "," + empty + "}", api.OK}, {api.JSON, "{" + kind + "," + empty + ",}", api.ErrSyntax}, {api.JSON, "{" + kind + "," + kind + "," + empty + "}", api.ErrSyntax}, {api.JSON, "{" + kind + "," + empty + "," + empty + "}", api.ErrSyntax}, {api.JSON, `{"type":"Polygon",` + empty + "}", api.ErrSyntax},
		{api.JSON, "{" + kind + `,"a":` + strings.Repeat("[", 16) + strings.Repeat("]", 16) + "," + empty + "}", api.OK}, {api.JSON, "{" + kind + `,"a":` + strings.Repeat("[", 17) + strings.Repeat("]", 17) + "," + empty + "}", api.ErrSyntax},
		{api.JSON, `{"typ\u0065":"MultiPolygon","coordinates":[[]]}`, api.ErrForm},
		{api.WKB, unhex(t, "00 00000006 00000000"), api.OK}, {api.WKB, unhex(t, "01 06000000 00000000"), api.OK}, {api.WKB, unhex(t, "02 06000000 00000000"), api.ErrSyntax}, {api.WKB, unhex(t, "01 06000000 ffffffff"), api.ErrSyntax}, {api.WKB, unhex(t, "01 06000000 01000000 00 00000003 00000000"), api.ErrForm},
	} {
		x, e := Decode(c.format, c.s)
		if e != c.e || (x == nil) != (e != api.OK) {
			t.Errorf("P5, P6: Decode(%d, %q) = %v, %d, want %d", c.format, c.s, x, e, c.e)
		}
		if x != nil && len(x.Points()) != 0 {
			t.Errorf("P5, P6: Decode(%d, %q): %v", c.format, c.s, x.Points())
		}
	}
	for format, s := range map[int]string{api.WKT: square, api.WKB: bytesOf([]int{4}), api.JSON: jsonOf([]int{4})} {
		for other := range 3 {
			if x, e := Decode(other, s); (e == api.OK) != (other == format) || e != api.OK && e != api.ErrSyntax {
				t.Errorf("P4: Decode(%d) of a text of format %d = %v, %d", other, format, x, e)
			}
		}
	}
}

// P5 and P6: what Encode writes, and that Decode reads it again; the longest set too.
func TestFormats(t *testing.T) {
	long := make([]api.Pt, api.MaxPoints)
	for i := range long {
		long[i] = api.Pt{X: -32767, Y: -32753}
	}
	const point = "[-2047.9375,-2047.0625]"
	for _, c := range []struct {
		m    [][][]api.Pt
		json string
		big  string
	}{
		{nil, `[]`, "00 00000006 00000000"},
		{[][][]api.Pt{{ring(0, 0, 16, 0, 16, 40, 0, 0)}, {triangle(), triangle()}}, `[[[[0,0],[1,0],[1,2.5],[0,0]]],[[[0,0],[1,0],[0,1],[0,0]],[[0,0],[1,0],[0,1],[0,0]]]]`,
			"00 00000006 00000002 00 00000003 00000001 00000004 0000000000000000 0000000000000000 3ff0000000000000 0000000000000000 3ff0000000000000 4004000000000000 0000000000000000 0000000000000000 00 00000003 00000002" +
				strings.Repeat("00000004 0000000000000000 0000000000000000 3ff0000000000000 0000000000000000 0000000000000000 3ff0000000000000 0000000000000000 0000000000000000", 2)},
		{[][][]api.Pt{{long}}, "[[[" + strings.Repeat(point+",", 99) + point + "]]]", "00 00000006 00000001 00 00000003 00000001 00000064" + strings.Repeat("c09fffc000000000 c09ffc4000000000", 100)},
	} {
		x := mustMake(t, c.m)
		if s := mustEncode(t, x, api.JSON, 0); s != `{"type":"MultiPolygon","coordinates":`+c.json+"}" {
			t.Errorf("P6: Encode = %q, want the list %q", s, c.json)
		}
		if s := mustEncode(t, x, api.WKB, 0); s != unhex(t, c.big) {
			t.Errorf("P5: Encode = %x, want %s", s, c.big)
		}
		if s := mustEncode(t, x, api.WKB, 1); s[0] != 1 || len(s) != len(unhex(t, c.big)) {
			t.Errorf("P5: Encode of order 1 = %x", s)
		}
		for _, w := range writings {
			y := mustRead(t, w[0], mustEncode(t, x, w[0], w[1]))
			if !reflect.DeepEqual(y.Points(), x.Points()) {
				t.Errorf("P4: written as %v and read again: %v, want %v", w, y.Points(), x.Points())
			}
		}
	}
}
