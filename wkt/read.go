// Package wkt reads and writes sets as well-known text (P4).
package wkt

import (
	"polygons/api"
	"polygons/decimal"
)

// reader goes through a text from its beginning; rest is what it has not read
// yet. A number that may not be does not stop it: what follows may be no text
// of the format, and that is told first.
type reader struct {
	rest string
	off  bool
}

// Read tells the lists that a text says: ErrSyntax, if it is none of the
// format, ErrRange, if a number in it may not be.
func Read(s string) ([][][]api.Pt, api.Errno) {
	r := reader{rest: s}
	polys, ok := r.set()
	if !ok {
		return nil, api.ErrSyntax
	}
	if r.off {
		return nil, api.ErrRange
	}
	return polys, api.OK
}

func (r *reader) set() ([][][]api.Pt, bool) {
	r.blanks()
	named := r.word("MULTIPOLYGON")
	if !named {
		return nil, false
	}
	gap := r.blanks()
	empty := r.word("EMPTY")
	var polys [][][]api.Pt
	ok := gap > 0
	if !empty {
		polys, ok = r.polygons()
	}
	r.blanks()
	if !ok || len(r.rest) > 0 {
		return nil, false
	}
	return polys, true
}

func (r *reader) polygons() ([][][]api.Pt, bool) {
	var polys [][][]api.Pt
	more := r.mark("(")
	if !more {
		return nil, false
	}
	for more {
		rings, ok := r.rings()
		if !ok {
			return nil, false
		}
		polys = append(polys, rings)
		more = r.mark(",")
	}
	closed := r.mark(")")
	if !closed {
		return nil, false
	}
	return polys, true
}

func (r *reader) rings() ([][]api.Pt, bool) {
	var rings [][]api.Pt
	more := r.mark("(")
	if !more {
		return nil, false
	}
	for more {
		points, ok := r.points()
		if !ok {
			return nil, false
		}
		rings = append(rings, points)
		more = r.mark(",")
	}
	closed := r.mark(")")
	if !closed {
		return nil, false
	}
	return rings, true
}

func (r *reader) points() ([]api.Pt, bool) {
	var points []api.Pt
	more := r.mark("(")
	if !more {
		return nil, false
	}
	for more {
		p, ok := r.point()
		if !ok {
			return nil, false
		}
		points = append(points, p)
		more = r.mark(",")
	}
	closed := r.mark(")")
	if !closed {
		return nil, false
	}
	return points, true
}

func (r *reader) point() (api.Pt, bool) {
	r.blanks()
	x, ok := r.number()
	if !ok {
		return api.Pt{}, false
	}
	gap := r.blanks()
	if gap == 0 {
		return api.Pt{}, false
	}
	y, ok := r.number()
	if !ok {
		return api.Pt{}, false
	}
	return api.Pt{X: x, Y: y}, true
}

// number tells whether a number stands next, and what it says in units.
func (r *reader) number() (int, bool) {
	length := decimal.Length(r.rest)
	if length == 0 {
		return 0, false
	}
	units, ok := decimal.Units(r.rest[:length])
	if !ok {
		r.off = true
	}
	r.rest = r.rest[length:]
	return units, true
}

// mark reads a sign of the grammar, blanks ahead of it or none.
func (r *reader) mark(s string) bool {
	r.blanks()
	return r.word(s)
}

// word reads s, if it stands next.
func (r *reader) word(s string) bool {
	if len(r.rest) < len(s) || r.rest[:len(s)] != s {
		return false
	}
	r.rest = r.rest[len(s):]
	return true
}

// blanks reads the blanks that stand next, and tells how many they are.
func (r *reader) blanks() int {
	n := 0
	for n < len(r.rest) && isBlank(r.rest[n]) {
		n++
	}
	r.rest = r.rest[n:]
	return n
}

func isBlank(c byte) bool {
	return c == ' ' || c == '\t' || c == '\n' || c == '\r'
}
