package wkb

import (
	"math"
	"testing"

	"polygons/api"
)

// exact tells by floats, which hold sixteen times any double that may be, what
// a double says in units.
func exact(bits uint64) (int, bool) {
	f := math.Float64frombits(bits)
	if f == 0 && math.Signbit(f) || math.IsNaN(f) || math.Abs(f*api.Unit) > api.MaxCoord || f*api.Unit != math.Trunc(f*api.Unit) {
		return 0, false
	}
	return int(f * api.Unit), true
}

func checkBits(t *testing.T, bits uint64) {
	t.Helper()
	u, ok := units(bits)
	if want, wantOK := exact(bits); u != want || ok != wantOK {
		t.Errorf("P5: units(%016x) = %d, %v, want %d, %v", bits, u, ok, want, wantOK)
	}
}

// Every coordinate that there is and as many beyond it, and the doubles next to
// it on both sides.
func TestCoordinates(t *testing.T) {
	for u := -2 * api.MaxCoord; u <= 2*api.MaxCoord; u++ {
		bits := math.Float64bits(float64(u) / api.Unit)
		if b := double(u); b != bits {
			t.Fatalf("P5: double(%d) = %016x, want %016x", u, b, bits)
		}
		checkBits(t, bits)
		checkBits(t, bits^1)
		checkBits(t, bits+1)
		checkBits(t, bits-1)
		checkBits(t, bits^signBit)
	}
}

// Every exponent, with digits of one bit, all bits ahead of a place, and all
// behind it.
func TestExponents(t *testing.T) {
	for exponent := uint64(0); exponent < 1<<11; exponent++ {
		for place := 0; place <= 52; place++ {
			one := uint64(1) << place & (1<<52 - 1)
			behind := uint64(1)<<place - 1
			for _, rest := range []uint64{one, behind, behind ^ (1<<52 - 1)} {
				checkBits(t, exponent<<52|rest)
				checkBits(t, 1<<63|exponent<<52|rest)
			}
		}
	}
}
