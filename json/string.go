package json

import "polygons/texts"

// codeDigits: so many digits of base 16 name a character.
const codeDigits = 4

// none is what stands for a character where there is none.
const none = -1

// characters reads a string and tells its characters, however they are
// escaped.
func characters(r *texts.Reader) []int {
	var found []int
	r.Need("\"")
	for !r.Bad {
		ended := r.Word("\"")
		if ended {
			return found
		}
		c := character(r)
		found = append(found, c)
	}
	return nil
}

// character reads one character of a string: it takes at least one byte, or
// there is none.
func character(r *texts.Reader) int {
	escaped := r.Word("\\")
	if escaped {
		return escape(r)
	}
	c := first(r.Rest)
	if c < ' ' || c > '~' {
		r.Bad = true
		return none
	}
	r.Rest = r.Rest[1:]
	return int(c)
}

// escape reads what stands behind a backslash.
func escape(r *texts.Reader) int {
	coded := r.Word("u")
	if coded {
		return code(r)
	}
	c := meaning(first(r.Rest))
	if c == none {
		r.Bad = true
		return none
	}
	r.Rest = r.Rest[1:]
	return c
}

func meaning(c byte) int {
	switch c {
	case '"', '\\', '/':
		return int(c)
	case 'b':
		return '\b'
	case 'f':
		return '\f'
	case 'n':
		return '\n'
	case 'r':
		return '\r'
	case 't':
		return '\t'
	}
	return none
}

// code reads the digits of base 16 that name a character.
func code(r *texts.Reader) int {
	sum := 0
	for i := 0; i < codeDigits; i++ {
		digit := digitOf(first(r.Rest))
		if digit == none {
			r.Bad = true
			return none
		}
		sum = sum*16 + digit
		r.Rest = r.Rest[1:]
	}
	return sum
}

func digitOf(c byte) int {
	switch {
	case c >= '0' && c <= '9':
		return int(c - '0')
	case c >= 'a' && c <= 'f':
		return int(c-'a') + 10
	case c >= 'A' && c <= 'F':
		return int(c-'A') + 10
	}
	return none
}

// same tells whether characters are those of a word.
func same(found []int, word string) bool {
	if len(found) != len(word) {
		return false
	}
	for i := 0; i < len(word); i++ {
		if found[i] != int(word[i]) {
			return false
		}
	}
	return true
}
