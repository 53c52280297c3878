package decimal

import (
	"math/big"
	"regexp"
	"strconv"
	"strings"
	"testing"

	"polygons/api"
)

// P4's words on numbers, once more and in another way.
var grammar = regexp.MustCompile(`\A[+-]?[0-9]+(\.[0-9]+)?([eE][+-]?[0-9]+)?\z`)

// exact tells by fractions what a number says in units.
func exact(t *testing.T, s string) (int, bool) {
	t.Helper()
	r, ok := new(big.Rat).SetString(s)
	if !ok {
		t.Fatalf("the fraction of %q", s)
	}
	r.Mul(r, big.NewRat(api.Unit, 1))
	if !r.IsInt() || r.Num().CmpAbs(big.NewInt(api.MaxCoord)) > 0 {
		return 0, false
	}
	return int(r.Num().Int64()), true
}

// check compares Length and Units of a whole text with the grammar and the fractions.
func check(t *testing.T, s string) {
	t.Helper()
	n := Length(s)
	if whole := n > 0 && n == len(s); whole != grammar.MatchString(s) {
		t.Errorf("P4: Length(%q) = %d", s, n)
		return
	}
	if n == 0 || n != len(s) {
		return
	}
	u, ok := Units(s)
	wantUnits, wantOK := exact(t, s)
	if u != wantUnits || ok != wantOK {
		t.Errorf("P4: Units(%q) = %d, %v, want %d, %v", s, u, ok, wantUnits, wantOK)
	}
}

// All texts of up to six bytes of a small alphabet.
func TestShortTexts(t *testing.T) {
	const alphabet = "-+.0e25"
	level := []string{""}
	for range 6 {
		var next []string
		for _, s := range level {
			for i := range len(alphabet) {
				next = append(next, s+alphabet[i:i+1])
			}
		}
		for _, s := range next {
			check(t, s)
		}
		level = next
	}
}

// Every number of four decimals and fewer, near each edge that is named.
func TestDecimals(t *testing.T) {
	for _, whole := range []string{"0", "1", "-1", "+007", "2047", "2048", "-2048", "2049", "9999", "10000"} {
		check(t, whole)
		for part := range 10000 {
			digits := strconv.Itoa(10000 + part)[1:]
			check(t, whole+"."+digits)
			check(t, whole+"."+strings.TrimRight(digits, "0")+"0")
		}
	}
}

func TestPowers(t *testing.T) {
	for _, digits := range []string{"0", "-0", "0.0", "1", "625", "00625", "0.625", "2048", "-2048.0", "20480000", "0.00002048", "20480001", "0.0000000000625", "123.4375", "2048.0625"} {
		for power := -30; power <= 30; power++ {
			check(t, digits+"e"+strconv.Itoa(power))
			check(t, digits+"E"+strconv.Itoa(power))
			if power >= 0 {
				check(t, digits+"e+"+strconv.Itoa(power))
				check(t, digits+"e000"+strconv.Itoa(power))
			}
		}
	}
}

// Numbers as long as a text may be: noughts and powers that outweigh each other.
func TestLong(t *testing.T) {
	noughts := strings.Repeat("0", 2900)
	for _, c := range []struct {
		s     string
		units int
		ok    bool
	}{
		{"2048" + noughts + "e-2900", 1 << 15, true}, {"-2048" + noughts + "e-2900", -1 << 15, true}, {"2048" + noughts + "e-2899", 0, false}, {"2048" + noughts + "e-2901", 0, false}, {"625" + noughts + "e-2904", 1, true}, {"0." + noughts + "625e2899", 1, true}, {"0." + noughts + "625e2898", 0, false}, {"1." + noughts, 16, true}, {"1." + noughts + "1", 0, false}, {noughts + "1.0625", 17, true},
		{"1e9" + noughts, 0, false}, {"1e-9" + noughts, 0, false}, {"0e9" + noughts, 0, true}, {"-0.0e-9" + noughts, 0, true}, {"1e" + noughts + "2", 1600, true}, {"5e-" + noughts + "1", 8, true}, {"1e18446744073709551616", 0, false}, {"1e-18446744073709551616", 0, false}, {"1e9223372036854775808", 0, false}, {"1e4294967296", 0, false}, {"1e400", 0, false}, {"0e400", 0, true}, {"1e-400", 0, false},
		{strings.Repeat("9", 5800), 0, false}, {"0." + strings.Repeat("9", 5800), 0, false},
	} {
		if n := Length(c.s); n != len(c.s) {
			t.Errorf("P4: Length(%.20q..) = %d, want %d", c.s, n, len(c.s))
		}
		u, ok := Units(c.s)
		if ok != c.ok || ok && u != c.units || !ok && u != 0 {
			t.Errorf("P4: Units(%.20q..) = %d, %v, want %d, %v", c.s, u, ok, c.units, c.ok)
		}
	}
}

func TestLength(t *testing.T) {
	for _, c := range []struct {
		s string
		n int
	}{
		{"", 0}, {" 1", 0}, {"1 2", 1}, {"-1.5e3,", 6}, {"+0)", 2}, {"1-1", 1}, {"1.5.5", 3}, {"1e5e5", 3}, {".5", 0}, {"5.", 0}, {"5. 0", 0}, {"5.e1", 0}, {"1e", 0}, {"1e+", 0}, {"1e 5", 0}, {"--1", 0}, {"+-1", 0}, {"-", 0}, {"- 1", 0}, {"0x10", 1}, {"1_0", 1}, {"Inf", 0}, {"NaN", 0}, {"\xd9\xa1", 0},
	} {
		if n := Length(c.s); n != c.n {
			t.Errorf("P4: Length(%q) = %d, want %d", c.s, n, c.n)
		}
	}
}

// Every coordinate that there is, written and read again. A float writes
// sixteenths of this size exactly.
func TestText(t *testing.T) {
	for u := -api.MaxCoord; u <= api.MaxCoord; u++ {
		want := strconv.FormatFloat(float64(u)/api.Unit, 'f', -1, 64)
		s := Text(u)
		if s != want {
			t.Fatalf("P4: Text(%d) = %q, want %q", u, s, want)
		}
		if back, ok := Units(s); back != u || !ok {
			t.Fatalf("P4: Units(%q) = %d, %v, want %d", s, back, ok, u)
		}
	}
}
