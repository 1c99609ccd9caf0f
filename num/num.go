// Package num is layer 2: whole numbers that never wrap unseen, and floats, told by their bits.
package num

import (
	"math"
	"strconv"
	"strings"
)

// NaN is the bits of what isn't a number.
const NaN = 0x7ff8000000000001

// Kinds of numbers that aren't whole.
const (
	None   = 0 // no number
	NegInf = 1
	Below  = 2
	NegNul = 3
	Nul    = 4
	Above  = 5
	Inf    = 6
)

// Add: false: it is no int64.
func Add(a, b int64) (int64, bool) {
	c := a + b
	if (c > a) != (b > 0) {
		return 0, false
	}
	return c, true
}

// Neg: likewise.
func Neg(a int64) (int64, bool) { return Sub(0, a) }

// Sub: likewise.
func Sub(a, b int64) (int64, bool) {
	c := a - b
	if (c < a) != (b > 0) {
		return 0, false
	}
	return c, true
}

// Mul: likewise.
func Mul(a, b int64) (int64, bool) {
	if a == 0 || b == 0 {
		return 0, true
	}
	c := a * b
	if b == -1 && a == math.MinInt64 || c/b != a { // the first of them wraps in the division, too
		return 0, false
	}
	return c, true
}

// Div: rounded towards 0; false: by 0, too.
func Div(a, b int64) (int64, bool) {
	if b == 0 || b == -1 && a == math.MinInt64 {
		return 0, false
	}
	return a / b, true
}

// Plain: the same number, with one way to tell that it is none.
func Plain(a uint64) uint64 {
	if math.IsNaN(float(a)) {
		return NaN
	}
	return a
}

// Kind: which kind it is.
func Kind(a uint64) int {
	x := float(a)
	switch {
	case math.IsInf(x, -1):
		return NegInf
	case x < 0:
		return Below
	case x == 0 && math.Signbit(x):
		return NegNul
	case x == 0:
		return Nul
	case math.IsInf(x, 1):
		return Inf
	case x > 0:
		return Above
	}
	return None
}

// FAdd, FSub, FMul, FDiv, FNeg: reckoning.
func FAdd(a, b uint64) uint64 { return bits(float(a) + float(b)) }

func FSub(a, b uint64) uint64 { return bits(float(a) - float(b)) }

func FMul(a, b uint64) uint64 { return bits(float(a) * float(b)) }

func FDiv(a, b uint64) uint64 { return bits(float(a) / float(b)) }

func FNeg(a uint64) uint64 { return bits(-float(a)) }

// FLess, FSame: holding one against another.
func FLess(a, b uint64) bool { return float(a) < float(b) }

func FSame(a, b uint64) bool { return float(a) == float(b) }

func float(a uint64) float64 { return math.Float64frombits(a) }

// bits are plain, as which bits an operator answers for no number hangs on the machine.
func bits(x float64) uint64 { return Plain(math.Float64bits(x)) }

// Hex: the 16 digits of a number's bits.
func Hex(a uint64) string {
	s := strconv.FormatUint(a, 16)
	return strings.Repeat("0", 16-len(s)) + s
}

// Dec: a whole number's decimal digits.
func Dec(n int64) string { return strconv.FormatInt(n, 10) }
