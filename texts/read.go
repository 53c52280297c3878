// Package texts has what the formats of letters and signs, WKT and JSON, have
// in common: how they are gone through, and how lists are written.
package texts

import (
	"polygons/api"
	"polygons/decimal"
)

// Reader goes through a text from its beginning. A fault does not stop it but
// is kept, so that what reads on need not ask at each step: only lists end.
type Reader struct {
	Rest string // what it has not read yet
	Bad  bool   // what it has read is no text of the format
	Off  bool   // a coordinate was among it that may not be
}

// Answer gives the lists that were read, now that all of the text should have
// been; none, if something is wrong with it. A wrong number is told only of what
// is a text of the format.
func (r *Reader) Answer(polys [][][]api.Pt) ([][][]api.Pt, api.Errno) {
	r.Blanks()
	if r.Bad || len(r.Rest) > 0 {
		return nil, api.ErrSyntax
	}
	if r.Off {
		return nil, api.ErrRange
	}
	return polys, api.OK
}

// Blanks reads the blanks that stand next, and tells how many they are.
func (r *Reader) Blanks() int {
	n := 0
	for n < len(r.Rest) && isBlank(r.Rest[n]) {
		n++
	}
	r.Rest = r.Rest[n:]
	return n
}

// Word reads s, if it stands next.
func (r *Reader) Word(s string) bool {
	if len(r.Rest) < len(s) || r.Rest[:len(s)] != s {
		return false
	}
	r.Rest = r.Rest[len(s):]
	return true
}

// Mark reads s, blanks ahead of it or none, if it stands next.
func (r *Reader) Mark(s string) bool {
	r.Blanks()
	return r.Word(s)
}

// Need reads s, blanks ahead of it or none, where nothing else may stand. It
// tells whether all is right up to here.
func (r *Reader) Need(s string) bool {
	found := r.Mark(s)
	if !found {
		r.Bad = true
	}
	return !r.Bad
}

// Begin reads what opens a list that may be empty. It tells whether a member
// follows.
func (r *Reader) Begin(open string, shut string) bool {
	opened := r.Need(open)
	if !opened {
		return false
	}
	empty := r.Mark(shut)
	return !empty
}

// Next reads what stands behind a list's member, a comma or what shuts the
// list. It tells whether another member follows.
func (r *Reader) Next(shut string) bool {
	if r.Bad {
		return false
	}
	more := r.Mark(",")
	if !more {
		r.Need(shut)
	}
	return more
}

// Number reads a number of so many bytes; there is none, if they are 0.
func (r *Reader) Number(length int) string {
	if length <= 0 || length > len(r.Rest) {
		r.Bad = true
		return ""
	}
	number := r.Rest[:length]
	r.Rest = r.Rest[length:]
	return number
}

// Coordinate reads a number of so many bytes and tells it in units.
func (r *Reader) Coordinate(length int) int {
	number := r.Number(length)
	units, ok := decimal.Units(number)
	if !ok {
		r.Off = true
	}
	return units
}

func isBlank(c byte) bool {
	return c == ' ' || c == '\t' || c == '\n' || c == '\r'
}
