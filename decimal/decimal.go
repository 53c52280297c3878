// Package decimal reads and writes coordinates as decimal numbers, exactly.
package decimal

import (
	"strconv"

	"polygons/api"
)

// A unit is 0.0625: four decimals write every whole number of units, and
// tenThousandths of them make one unit.
const (
	decimals       = 4
	tenThousandths = 10000 / api.Unit
)

// maxWhole: 10,000 is out of range, so at most four digits that count stand
// ahead of the point.
const maxWhole = 4

// farPower is more than a text has digits: at an exponent beyond it, how far
// beyond makes no difference.
const farPower = 10 * api.MaxBytes

// number is its digits, as one whole number, times ten to the power.
type number struct {
	below  bool
	digits string
	power  int
}

// Length tells how many bytes the number has that s begins with, 0 if it
// begins with none. A number that breaks off behind its point or its e is none.
func Length(s string) int {
	n := signLength(s)
	whole := digitsLength(s[n:])
	if whole == 0 {
		return 0
	}
	n += whole
	if n < len(s) && s[n] == '.' {
		part := digitsLength(s[n+1:])
		if part == 0 {
			return 0
		}
		n += 1 + part
	}
	if n < len(s) && (s[n] == 'e' || s[n] == 'E') {
		n++
		n += signLength(s[n:])
		figures := digitsLength(s[n:])
		if figures == 0 {
			return 0
		}
		n += figures
	}
	return n
}

// Units tells what a number (all of s, as Length has it) says in units; false,
// if that is no whole number or above MaxCoord in amount.
func Units(s string) (int, bool) {
	n := split(s)
	n = trim(n)
	amount, ok := amountOf(n)
	if !ok {
		return 0, false
	}
	if n.below {
		return -amount, true
	}
	return amount, true
}

// Text writes a coordinate.
func Text(units int) string {
	sign := ""
	amount := units
	if units < 0 {
		sign = "-"
		amount = -units
	}
	whole := strconv.Itoa(amount / api.Unit)
	part := partText(amount % api.Unit)
	return sign + whole + part
}

// partText writes what stands behind the whole part: nothing, if there are no
// units left.
func partText(units int) string {
	if units == 0 {
		return ""
	}
	text := "."
	rest := units * tenThousandths
	for i := 0; i < decimals && rest != 0; i++ {
		text += strconv.Itoa(rest / 1000)
		rest = rest % 1000 * 10
	}
	return text
}

func signLength(s string) int {
	if len(s) > 0 && (s[0] == '+' || s[0] == '-') {
		return 1
	}
	return 0
}

func digitsLength(s string) int {
	n := 0
	for n < len(s) && s[n] >= '0' && s[n] <= '9' {
		n++
	}
	return n
}

// split takes a number apart.
func split(s string) number {
	n := number{}
	n.below = len(s) > 0 && s[0] == '-'
	at := signLength(s)
	rest := s[at:]
	whole := digitsLength(rest)
	n.digits = rest[:whole]
	rest = rest[whole:]
	if len(rest) > 0 && rest[0] == '.' {
		rest = rest[1:]
		part := digitsLength(rest)
		n.digits += rest[:part]
		n.power = -part
		rest = rest[part:]
	}
	if len(rest) > 0 {
		n.power += exponent(rest[1:])
	}
	return n
}

// exponent reads what stands behind the e. It may have thousands of digits, so
// it does not grow beyond what farPower needs.
func exponent(s string) int {
	power := 0
	for i := signLength(s); i < len(s); i++ {
		if power < farPower {
			power = power*10 + int(s[i]-'0')
		}
	}
	if len(s) > 0 && s[0] == '-' {
		return -power
	}
	return power
}

// trim takes the noughts at both ends off, so that the count of digits and the
// power alone tell how great and how fine a number is.
func trim(n number) number {
	from := 0
	for from < len(n.digits) && n.digits[from] == '0' {
		from++
	}
	to := len(n.digits)
	for to > from && n.digits[to-1] == '0' {
		to--
	}
	n.power += len(n.digits) - to
	n.digits = n.digits[from:to]
	return n
}

// amountOf tells a trimmed number's amount in units. What is refused ahead of
// the sum keeps it small: 10,000 and more is out of range, and a number whose
// last digit, no nought, stands behind the fourth decimal is no whole number of
// units.
func amountOf(n number) (int, bool) {
	if len(n.digits) == 0 {
		return 0, true
	}
	if n.power < -decimals || len(n.digits)+n.power > maxWhole {
		return 0, false
	}
	sum := 0
	for i := 0; i < len(n.digits); i++ {
		sum = sum*10 + int(n.digits[i]-'0')
	}
	for p := n.power; p > -decimals; p-- {
		sum *= 10
	}
	if sum%tenThousandths != 0 || sum/tenThousandths > api.MaxCoord {
		return 0, false
	}
	return sum / tenThousandths, true
}
