package json

import (
	"polygons/decimal"
	"polygons/texts"
)

// value reads any value, in which lists and objects may stand so deep within
// each other. What it says is of no account.
func value(r *texts.Reader, deep int) {
	r.Blanks()
	switch first(r.Rest) {
	case '[':
		list(r, deep)
	case '{':
		object(r, deep)
	case '"':
		characters(r)
	case 't':
		r.Need("true")
	case 'f':
		r.Need("false")
	case 'n':
		r.Need("null")
	default:
		length := numberLength(r.Rest)
		r.Number(length)
	}
}

func list(r *texts.Reader, deep int) {
	if deep <= 0 {
		r.Bad = true
		return
	}
	for more := r.Begin("[", "]"); more; more = r.Next("]") {
		value(r, deep-1)
	}
}

func object(r *texts.Reader, deep int) {
	if deep <= 0 {
		r.Bad = true
		return
	}
	for more := r.Begin("{", "}"); more; more = r.Next("}") {
		memberName(r)
		value(r, deep-1)
	}
}

// memberName reads a member's name and what stands between it and its value.
func memberName(r *texts.Reader) []int {
	name := characters(r)
	r.Need(":")
	return name
}

// numberLength tells how many bytes the number has that s begins with, 0 if it
// begins with none. Other than in WKT there is no plus ahead of it, and no
// nought ahead of its other digits.
func numberLength(s string) int {
	length := decimal.Length(s)
	number := s[:length]
	if first(number) == '+' {
		return 0
	}
	if first(number) == '-' {
		number = number[1:]
	}
	if len(number) > 1 && number[0] == '0' && number[1] >= '0' && number[1] <= '9' {
		return 0
	}
	return length
}

// first gives a text's first byte; 0, which no word begins with, if it has none.
func first(s string) byte {
	if len(s) == 0 {
		return 0
	}
	return s[0]
}
