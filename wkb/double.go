package wkb

import "polygons/api"

// The bits of a double by IEEE 754, from the highest: the sign, the exponent,
// and the digits behind a first digit 1 that is not written.
const (
	signBit      = 1 << 63
	digits       = 52
	firstDigit   = 1 << digits
	exponentMask = 1<<11 - 1
)

// unitExponent is the exponent of the double that is one unit, 2 to the power
// of -4: exponents count from 1023.
const unitExponent = 1019

// units tells a double in units; false, if it may not be a coordinate. What
// lies below one unit, -0 and the numbers without a first digit among it, has a
// lesser exponent than that; what is not finite has the greatest.
func units(bits uint64) (int, bool) {
	if bits == 0 {
		return 0, true
	}
	power := int(bits>>digits&exponentMask) - unitExponent
	if power < 0 || power > digits {
		return 0, false
	}
	finer := digits - power
	all := bits&(firstDigit-1) | firstDigit
	amount := all >> finer
	if amount<<finer != all || amount > api.MaxCoord {
		return 0, false
	}
	if bits&signBit != 0 {
		return -int(amount), true
	}
	return int(amount), true
}

// double gives the bits of the double that is a coordinate.
func double(units int) uint64 {
	if units == 0 {
		return 0
	}
	sign := uint64(0)
	amount := uint64(units)
	if units < 0 {
		sign = signBit
		amount = uint64(-units)
	}
	exponent := uint64(unitExponent + digits)
	for amount < firstDigit {
		amount <<= 1
		exponent--
	}
	return sign | exponent<<digits | amount&(firstDigit-1)
}
