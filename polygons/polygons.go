// Package polygons: polygons with holes, exactly: see DOC.md.
package polygons

import (
	"strconv"

	"polygons/apart"
	"polygons/api"
	"polygons/canon"
	"polygons/clauses"
	"polygons/json"
	"polygons/lists"
	"polygons/plane"
	"polygons/wkb"
	"polygons/wkt"
)

// Shape is a set of polygons.
type Shape struct {
	// polys belongs to the set alone and is never written into.
	polys [][][]api.Pt
}

// Make makes a set of lists (P3).
func Make(m [][][]api.Pt) (*Shape, api.Errno) {
	fault := lists.Fault(m)
	if fault != api.OK {
		return nil, fault
	}
	return &Shape{polys: lists.Copy(m)}, api.OK
}

// Points tells polygons, rings, points (P3).
func (x *Shape) Points() [][][]api.Pt {
	if x == nil {
		return nil
	}
	return lists.Copy(x.polys)
}

// Decode tells what a text says (P4 to P6).
func Decode(format int, s string) (*Shape, api.Errno) {
	if !isFormat(format) {
		return nil, api.ErrArg
	}
	if len(s) > api.MaxBytes {
		return nil, api.ErrLong
	}
	polys, fault := read(format, s)
	if fault != api.OK {
		return nil, fault
	}
	return Make(polys)
}

// Encode writes a set (P4 to P6).
func (x *Shape) Encode(format int, order int) (string, api.Errno) {
	if x == nil || !isFormat(format) || !isOrder(format, order) {
		return "", api.ErrArg
	}
	return write(x.polys, format, order), api.OK
}

func isFormat(format int) bool {
	return format == api.WKT || format == api.WKB || format == api.JSON
}

// isOrder: bytes have two orders, texts have one.
func isOrder(format int, order int) bool {
	return order == 0 || order == 1 && format == api.WKB
}

func read(format int, s string) ([][][]api.Pt, api.Errno) {
	switch format {
	case api.WKB:
		return wkb.Read(s)
	case api.JSON:
		return json.Read(s)
	}
	return wkt.Read(s)
}

func write(polys [][][]api.Pt, format int, order int) string {
	switch format {
	case api.WKB:
		return wkb.Write(polys, order)
	case api.JSON:
		return json.Write(polys)
	}
	return wkt.Write(polys)
}

// Validate tells the least clause that does not hold (P7).
func (x *Shape) Validate() int {
	if x == nil {
		return api.Valid
	}
	return clauses.Least(x.polys)
}

// isValid: what is no set is not valid either, so that there is an answer.
func (x *Shape) isValid() bool {
	return x != nil && clauses.Least(x.polys) == api.Valid
}

// Canonical gives the same set of points, written in the one way (P8).
func (x *Shape) Canonical() (*Shape, api.Errno) {
	if !x.isValid() {
		return nil, api.ErrInvalid
	}
	return &Shape{polys: canon.Form(x.polys)}, api.OK
}

// Has tells whether a point lies in the set (P9).
func (x *Shape) Has(a int, b int, w int) (bool, api.Errno) {
	if !isPart(a) || !isPart(b) || !isPart(w) || w < 1 {
		return false, api.ErrArg
	}
	if !x.isValid() {
		return false, api.ErrInvalid
	}
	p := plane.Spot{X: int64(a), Y: int64(b), W: int64(w)}
	return plane.InSet(x.polys, p), api.OK
}

// isPart compares with both ends: the least int has no amount.
func isPart(n int) bool {
	return -api.MaxPart <= n && n <= api.MaxPart
}

// Separate gives a point that lies in just one of two sets (P10).
func (x *Shape) Separate(y *Shape) (string, string, string, api.Errno) {
	one, fault := x.Canonical()
	if fault != api.OK {
		return "", "", "", fault
	}
	other, fault := y.Canonical()
	if fault != api.OK {
		return "", "", "", fault
	}
	p, found := apart.Spot(one.polys, other.polys)
	if !found {
		return "", "", "", api.ErrSame
	}
	return digits(p.X), digits(p.Y), digits(p.W), api.OK
}

func digits(n int64) string {
	return strconv.FormatInt(n, 10)
}
