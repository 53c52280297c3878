package wkb

import (
	"encoding/binary"
	"encoding/hex"
	"fmt"
	"math"
	"strings"
	"testing"

	"polygons/api"
)

// oracle reads the bytes once more, by the library.
type oracle struct {
	rest []byte
	off  bool
}

func (o *oracle) take(n int) ([]byte, bool) {
	if len(o.rest) < n {
		return nil, false
	}
	b := o.rest[:n]
	o.rest = o.rest[n:]
	return b, true
}

func (o *oracle) head(kind uint32) (binary.ByteOrder, uint32, bool) {
	b, ok := o.take(9)
	if !ok || b[0] > 1 {
		return nil, 0, false
	}
	order := []binary.ByteOrder{binary.BigEndian, binary.LittleEndian}[b[0]]
	return order, order.Uint32(b[5:]), order.Uint32(b[1:]) == kind
}

func (o *oracle) ring(order binary.ByteOrder) ([]api.Pt, bool) {
	b, ok := o.take(4)
	if !ok {
		return nil, false
	}
	n := order.Uint32(b)
	if uint64(n)*16 > uint64(len(o.rest)) {
		return nil, false
	}
	points := make([]api.Pt, n)
	for i := range points {
		b, _ := o.take(16)
		x, okX := exact(order.Uint64(b))
		y, okY := exact(order.Uint64(b[8:]))
		o.off = o.off || !okX || !okY
		points[i] = api.Pt{X: x, Y: y}
	}
	return points, true
}

func (o *oracle) set() ([][][]api.Pt, bool) {
	_, count, ok := o.head(6)
	polys := [][][]api.Pt{}
	for i := uint32(0); i < count && ok; i++ {
		var order binary.ByteOrder
		var n uint32
		order, n, ok = o.head(3)
		rings := [][]api.Pt{}
		for j := uint32(0); j < n && ok; j++ {
			var points []api.Pt
			points, ok = o.ring(order)
			rings = append(rings, points)
		}
		polys = append(polys, rings)
	}
	return polys, ok && len(o.rest) == 0
}

func wanted(s string) ([][][]api.Pt, api.Errno) {
	o := &oracle{rest: []byte(s)}
	polys, ok := o.set()
	if !ok {
		return nil, api.ErrSyntax
	}
	if o.off {
		return nil, api.ErrRange
	}
	return polys, api.OK
}

// equal takes nil and empty lists for the same, as print does.
func equal(a, b [][][]api.Pt) bool {
	return fmt.Sprint(a) == fmt.Sprint(b)
}

func agree(t *testing.T, s string) {
	t.Helper()
	m, e := Read(s)
	want, wantE := wanted(s)
	if e != wantE || !equal(m, want) {
		t.Errorf("P5: Read(%x) = %v, %d, want %v, %d", s, m, e, want, wantE)
	}
	if e != api.OK && m != nil {
		t.Errorf("P1: Read(%x) = %v beside %d", s, m, e)
	}
}

func unhex(t *testing.T, s string) string {
	t.Helper()
	b, err := hex.DecodeString(strings.ReplaceAll(s, " ", ""))
	if err != nil {
		t.Fatal(err)
	}
	return string(b)
}

var some = [][][]api.Pt{
	{{{X: 0, Y: 0}, {X: 16, Y: 0}, {X: 16, Y: 40}, {X: 0, Y: 0}}, {{X: -1, Y: 32768}}},
	{{{X: 3, Y: -32768}, {X: 5, Y: 7}}},
}

func pointBits(x, y float64) string {
	b := binary.BigEndian.AppendUint64(nil, math.Float64bits(x))
	return string(binary.BigEndian.AppendUint64(b, math.Float64bits(y)))
}

func samples(t *testing.T) []string {
	t.Helper()
	return []string{
		unhex(t, "00 00000006 00000000"), unhex(t, "01 06000000 00000000"),
		unhex(t, "01 06000000 03000000 00 00000003 00000000 01 03000000 01000000 00000000 00 00000003 00000002 00000000 00000000"),
		Write(some, highFirst), Write(some, lowFirst),
		// Polygons with orders of their own.
		Write(some, highFirst)[:9] + Write(some[:1], lowFirst)[9:] + Write(some[1:], highFirst)[9:],
		Write(some, lowFirst)[:9] + Write(some[:1], highFirst)[9:] + Write(some[1:], lowFirst)[9:],
		unhex(t, "00 00000006 00000001 00 00000003 00000001 00000002") + pointBits(0.1, 0) + pointBits(0, math.Inf(-1)),
	}
}

// Every text one byte away from one that is right, and every part of one.
func TestNeighbours(t *testing.T) {
	for _, s := range samples(t) {
		if _, e := wanted(s); e == api.ErrSyntax {
			t.Fatalf("the test's own bytes %x", s)
		}
		agree(t, s)
		for i := 0; i <= len(s); i++ {
			agree(t, s[:i])
			agree(t, s[i:])
			for c := range 256 {
				one := string([]byte{byte(c)})
				agree(t, s[:i]+one+s[i:])
				if i < len(s) {
					agree(t, s[:i]+one+s[i+1:])
				}
			}
			if i < len(s) {
				agree(t, s[:i]+s[i+1:])
			}
			if i+4 <= len(s) {
				agree(t, s[:i]+"\xff\xff\xff\xff"+s[i+4:])
			}
		}
	}
}

func TestRead(t *testing.T) {
	triangle := func(x float64) string {
		return unhex(t, "00 00000006 00000001 00 00000003 00000001 00000004") + pointBits(0, 0) + pointBits(x, 0) + pointBits(0, 1) + pointBits(0, 0)
	}
	for _, c := range []struct {
		s string
		m [][][]api.Pt
		e api.Errno
	}{
		{unhex(t, "00 00000006 00000000"), nil, api.OK}, {unhex(t, "01 06000000 00000000"), nil, api.OK}, {unhex(t, "02 06000000 00000000"), nil, api.ErrSyntax}, {unhex(t, "01 06000000 ffffffff"), nil, api.ErrSyntax}, {unhex(t, "00 ffffffff 00000000"), nil, api.ErrSyntax},
		{unhex(t, "01 06000000 01000000 00 00000003 00000000"), [][][]api.Pt{{}}, api.OK}, {unhex(t, "00 00000006 00000001 00 00000003 ffffffff"), nil, api.ErrSyntax}, {unhex(t, "00 00000006 00000001 00 00000003 00000001 ffffffff"), nil, api.ErrSyntax},
		{triangle(2.5), [][][]api.Pt{{{{}, {X: 40}, {Y: 16}, {}}}}, api.OK}, {triangle(-0.0625), [][][]api.Pt{{{{}, {X: -1}, {Y: 16}, {}}}}, api.OK}, {triangle(2048), [][][]api.Pt{{{{}, {X: 32768}, {Y: 16}, {}}}}, api.OK},
		{triangle(2048.0625), nil, api.ErrRange}, {triangle(0.03125), nil, api.ErrRange}, {triangle(math.Copysign(0, -1)), nil, api.ErrRange}, {triangle(math.NaN()), nil, api.ErrRange}, {triangle(math.Inf(1)), nil, api.ErrRange}, {triangle(math.SmallestNonzeroFloat64), nil, api.ErrRange}, {triangle(math.MaxFloat64), nil, api.ErrRange},
		// A wrong double does not hide a wrong set.
		{triangle(0.1) + "\x00", nil, api.ErrSyntax}, {triangle(0.1)[:80], nil, api.ErrSyntax},
		{Write(some, highFirst), some, api.OK}, {Write(some, lowFirst), some, api.OK},
	} {
		if m, e := Read(c.s); e != c.e || !equal(m, c.m) {
			t.Errorf("P5: Read(%x) = %v, %d, want %v, %d", c.s, m, e, c.m, c.e)
		}
	}
}

func TestWrite(t *testing.T) {
	for _, c := range []struct {
		m     [][][]api.Pt
		order int
		s     string
	}{
		{nil, highFirst, "00 00000006 00000000"}, {nil, lowFirst, "01 06000000 00000000"},
		{[][][]api.Pt{{{{X: 0, Y: 16}, {X: -1, Y: 32768}}}, {}}, highFirst, "00 00000006 00000002 00 00000003 00000001 00000002 0000000000000000 3ff0000000000000 bfb0000000000000 40a0000000000000 00 00000003 00000000"},
		{[][][]api.Pt{{{{X: 0, Y: 16}, {X: -1, Y: 32768}}}, {}}, lowFirst, "01 06000000 02000000 01 03000000 01000000 02000000 0000000000000000 000000000000f03f 000000000000b0bf 000000000000a040 01 03000000 00000000"},
	} {
		if s := Write(c.m, c.order); s != unhex(t, c.s) {
			t.Errorf("P5: Write(%v, %d) = %x, want %s", c.m, c.order, s, c.s)
		}
	}
}
