// Package wkb reads and writes sets as well-known binary (P5).
package wkb

import "polygons/api"

// The kinds of geometries, and how many bytes a number of each sort has.
const (
	setKind     = 6
	polygonKind = 3
	countSize   = 4
	doubleSize  = 8
)

// The orders of a number's bytes.
const (
	highFirst = 0
	lowFirst  = 1
)

// reader goes through the bytes from their beginning. A fault does not stop it
// but is kept: what follows a wrong double may be no set, and that is told
// first.
type reader struct {
	rest  string // what it has not read yet
	order uint64 // of the numbers that follow
	bad   bool   // what it has read is no set
	off   bool   // a double was among it that may not be
}

// Read tells the lists that the bytes say: ErrSyntax, if they are no set,
// ErrRange, if a double among them may not be.
func Read(s string) ([][][]api.Pt, api.Errno) {
	r := &reader{rest: s}
	polys := r.set()
	if r.bad || len(r.rest) > 0 {
		return nil, api.ErrSyntax
	}
	if r.off {
		return nil, api.ErrRange
	}
	return polys, api.OK
}

// set believes no count: it goes on only as long as there are bytes, of which
// each polygon, ring and point takes some.
func (r *reader) set() [][][]api.Pt {
	var polys [][][]api.Pt
	count := r.geometry(setKind)
	for i := uint64(0); i < count && !r.bad; i++ {
		rings := r.polygon()
		polys = append(polys, rings)
	}
	return polys
}

func (r *reader) polygon() [][]api.Pt {
	var rings [][]api.Pt
	count := r.geometry(polygonKind)
	for i := uint64(0); i < count && !r.bad; i++ {
		points := r.ring()
		rings = append(rings, points)
	}
	return rings
}

func (r *reader) ring() []api.Pt {
	var points []api.Pt
	count := r.number(countSize)
	for i := uint64(0); i < count && !r.bad; i++ {
		x := r.coordinate()
		y := r.coordinate()
		points = append(points, api.Pt{X: x, Y: y})
	}
	return points
}

// geometry reads what a geometry of the kind begins with, and tells how many
// members it has.
func (r *reader) geometry(kind uint64) uint64 {
	r.order = r.number(1)
	if r.order != highFirst && r.order != lowFirst {
		r.bad = true
	}
	found := r.number(countSize)
	if found != kind {
		r.bad = true
	}
	return r.number(countSize)
}

func (r *reader) coordinate() int {
	bits := r.number(doubleSize)
	amount, ok := units(bits)
	if !ok {
		r.off = true
	}
	return amount
}

// number reads a number of so many bytes.
func (r *reader) number(size int) uint64 {
	if r.bad || len(r.rest) < size {
		r.bad = true
		return 0
	}
	value := uint64(0)
	for i := 0; i < size; i++ {
		at := i
		if r.order == lowFirst {
			at = size - 1 - i
		}
		value = value<<8 | uint64(r.rest[at])
	}
	r.rest = r.rest[size:]
	return value
}
