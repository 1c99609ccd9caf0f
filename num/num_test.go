package num_test

import (
	"math"
	"math/big"
	"testing"

	"chattel/num"
)

var wholes = []int64{
	math.MinInt64, math.MinInt64 + 1, math.MinInt64 / 2, math.MinInt64/2 - 1, -1 << 32, -1<<31 - 1, -3037000500, -3037000499, -10, -7, -3, -2, -1,
	0, 1, 2, 3, 7, 10, 3037000499, 3037000500, 1 << 31, 1 << 32, 1 << 61, 1 << 62, math.MaxInt64/2 + 1, math.MaxInt64 / 2, math.MaxInt64 - 1, math.MaxInt64,
}

// told holds an answer against a number of any size.
func told(t *testing.T, what string, a, b, n int64, ok bool, want *big.Int) {
	t.Helper()
	if ok != want.IsInt64() || ok && n != want.Int64() || !ok && n != 0 {
		t.Errorf("%s(%d, %d) = %d, %v, want %v", what, a, b, n, ok, want)
	}
}

// P2.1: whole numbers, held against numbers of any size.
func TestWhole(t *testing.T) {
	for _, a := range wholes {
		x := big.NewInt(a)
		n, ok := num.Neg(a)
		told(t, "Neg", a, 0, n, ok, new(big.Int).Neg(x))
		for _, b := range wholes {
			y := big.NewInt(b)
			n, ok = num.Add(a, b)
			told(t, "Add", a, b, n, ok, new(big.Int).Add(x, y))
			n, ok = num.Sub(a, b)
			told(t, "Sub", a, b, n, ok, new(big.Int).Sub(x, y))
			n, ok = num.Mul(a, b)
			told(t, "Mul", a, b, n, ok, new(big.Int).Mul(x, y))
			n, ok = num.Div(a, b)
			if b != 0 {
				told(t, "Div", a, b, n, ok, new(big.Int).Quo(x, y))
			} else if n != 0 || ok {
				t.Errorf("Div(%d, 0) = %d, %v", a, n, ok)
			}
		}
	}
}

// P2.1: the document's examples, and the edges at which whole numbers end.
func TestWholeEdges(t *testing.T) {
	type call func(a, b int64) (int64, bool)
	tests := []struct {
		what string
		call call
		a, b int64
		n    int64
		ok   bool
	}{
		{"Mul", num.Mul, 1 << 62, 2, 0, false},
		{"Mul", num.Mul, -1 << 62, 2, math.MinInt64, true},
		{"Mul", num.Mul, math.MinInt64, -1, 0, false},
		{"Mul", num.Mul, -1, math.MinInt64, 0, false},
		{"Add", num.Add, math.MaxInt64, 1, 0, false},
		{"Add", num.Add, math.MinInt64, -1, 0, false},
		{"Add", num.Add, math.MinInt64, math.MaxInt64, -1, true},
		{"Sub", num.Sub, math.MinInt64, 1, 0, false},
		{"Sub", num.Sub, 0, math.MinInt64, 0, false},
		{"Sub", num.Sub, -1, math.MinInt64, math.MaxInt64, true},
		{"Div", num.Div, math.MinInt64, -1, 0, false},
		{"Div", num.Div, 7, -2, -3, true},
		{"Div", num.Div, -7, 2, -3, true},
		{"Div", num.Div, -7, -2, 3, true},
		{"Div", num.Div, 0, 0, 0, false},
	}
	for _, x := range tests {
		if n, ok := x.call(x.a, x.b); n != x.n || ok != x.ok {
			t.Errorf("%s(%d, %d) = %d, %v, want %d, %v", x.what, x.a, x.b, n, ok, x.n, x.ok)
		}
	}
	if n, ok := num.Neg(math.MinInt64); n != 0 || ok {
		t.Error(n, ok)
	}
}

const (
	one    = 0x3ff0000000000000
	inf    = 0x7ff0000000000000
	negInf = 0xfff0000000000000
	negNul = 1 << 63
)

// floats are bits with their kinds.
var floats = []struct {
	bits uint64
	kind int
}{
	{num.NaN, num.None}, {0x7ff8000000000000, num.None}, {0x7ff0000000000001, num.None}, {0xfff0000000000001, num.None}, {0xfff8000000000000, num.None}, {1<<64 - 1, num.None}, {1<<63 - 1, num.None},
	{negInf, num.NegInf}, {inf, num.Inf}, {negNul, num.NegNul}, {0, num.Nul},
	{one, num.Above}, {one + 1, num.Above}, {1, num.Above}, {2, num.Above}, {1<<52 - 1, num.Above}, {1 << 52, num.Above}, {inf - 1, num.Above}, {0x4008000000000000, num.Above}, {0x3fb999999999999a, num.Above}, {0x1ff0000000000000, num.Above},
	{negNul | one, num.Below}, {negNul | 1, num.Below}, {negInf - 1, num.Below}, {0xc000000000000000, num.Below}, {negNul | 1<<52, num.Below},
}

// plain: all that is no number is one.
func plain(x float64) uint64 {
	if x != x {
		return 0x7ff8000000000001
	}
	return math.Float64bits(x)
}

// P2.1: kinds, and one way to tell that it is none.
func TestKind(t *testing.T) {
	kinds := []int{num.None, num.NegInf, num.Below, num.NegNul, num.Nul, num.Above, num.Inf}
	for i, k := range kinds {
		if i != k {
			t.Errorf("kind %d is %d", i, k)
		}
	}
	for _, x := range floats {
		if got := num.Kind(x.bits); got != x.kind {
			t.Errorf("Kind(%x) = %d, want %d", x.bits, got, x.kind)
		}
		want := x.bits
		if x.kind == num.None {
			want = num.NaN
		}
		if got := num.Plain(x.bits); got != want {
			t.Errorf("Plain(%x) = %x, want %x", x.bits, got, want)
		}
	}
}

// P2.1: reckoning and holding against, as Go's operators, but for what is no number.
func TestFloats(t *testing.T) {
	for _, p := range floats {
		a, x := p.bits, math.Float64frombits(p.bits)
		if got, want := num.FNeg(a), plain(math.Copysign(x, -math.Copysign(1, x))); got != want {
			t.Errorf("FNeg(%x) = %x, want %x", a, got, want)
		}
		for _, q := range floats {
			b, y := q.bits, math.Float64frombits(q.bits)
			got := [4]uint64{num.FAdd(a, b), num.FSub(a, b), num.FMul(a, b), num.FDiv(a, b)}
			want := [4]uint64{plain(x + y), plain(x - y), plain(x * y), plain(x / y)}
			if got != want {
				t.Errorf("%x, %x: + - * / are %x, want %x", a, b, got, want)
			}
			if num.FLess(a, b) != (x < y) || num.FSame(a, b) != (x == y) {
				t.Errorf("%x, %x: FLess %v, FSame %v", a, b, num.FLess(a, b), num.FSame(a, b))
			}
		}
	}
}

// P2.2: floats' edges, by their bits.
func TestFloatEdges(t *testing.T) {
	tests := []struct {
		what string
		got  uint64
		want uint64
	}{
		{"FAdd(Inf, NegInf)", num.FAdd(inf, negInf), 0x7ff8000000000001},
		{"FAdd(NegInf, Inf)", num.FAdd(negInf, inf), 0x7ff8000000000001},
		{"FSub(Inf, Inf)", num.FSub(inf, inf), 0x7ff8000000000001},
		{"FMul(0, Inf)", num.FMul(0, inf), 0x7ff8000000000001},
		{"FMul(Inf, -0)", num.FMul(inf, negNul), 0x7ff8000000000001},
		{"FDiv(0, 0)", num.FDiv(0, 0), 0x7ff8000000000001},
		{"FDiv(Inf, Inf)", num.FDiv(inf, inf), 0x7ff8000000000001},
		{"FDiv(1, -0)", num.FDiv(one, negNul), negInf},
		{"FDiv(1, 0)", num.FDiv(one, 0), inf},
		{"FDiv(1, NegInf)", num.FDiv(one, negInf), negNul},
		{"FAdd(0, -0)", num.FAdd(0, negNul), 0},
		{"FAdd(-0, 0)", num.FAdd(negNul, 0), 0},
		{"FAdd(-0, -0)", num.FAdd(negNul, negNul), negNul},
		{"FSub(0, 0)", num.FSub(0, 0), 0},
		{"FSub(-0, 0)", num.FSub(negNul, 0), negNul},
		{"FMul(0, -1)", num.FMul(0, negNul|one), negNul},
		{"FNeg(0)", num.FNeg(0), negNul},
		{"FNeg(-0)", num.FNeg(negNul), 0},
		{"FNeg(Inf)", num.FNeg(inf), negInf},
		{"FAdd of the greatest", num.FAdd(inf-1, inf-1), inf},
		{"FMul of the least", num.FMul(1, 1), 0},
		{"FMul of the least, one below 0", num.FMul(1, negNul|1), negNul},
		{"FDiv of the least by 2", num.FDiv(1, 0x4000000000000000), 0},
		{"FMul(0.1, 3)", num.FMul(0x3fb999999999999a, 0x4008000000000000), 0x3fd3333333333334},
	}
	for _, x := range tests {
		if x.got != x.want {
			t.Errorf("%s = %x, want %x", x.what, x.got, x.want)
		}
	}
	if !num.FSame(0, negNul) || num.FLess(negNul, 0) || num.FSame(num.NaN, num.NaN) || num.FLess(num.NaN, inf) || num.FLess(negInf, num.NaN) || !num.FLess(negInf, inf) {
		t.Error("held against each other")
	}
}

// P2.2: what is reckoned with NaN, whatever its bits, is NaN.
func TestNaN(t *testing.T) {
	for _, p := range floats {
		for _, q := range floats {
			if p.kind != num.None && q.kind != num.None {
				continue
			}
			a, b := p.bits, q.bits
			for i, got := range []uint64{num.FAdd(a, b), num.FSub(a, b), num.FMul(a, b), num.FDiv(a, b)} {
				if got != 0x7ff8000000000001 {
					t.Errorf("%d of %x, %x: %x", i, a, b, got)
				}
			}
			if num.FLess(a, b) || num.FSame(a, b) {
				t.Errorf("%x, %x are held against each other", a, b)
			}
		}
		if got := num.FNeg(p.bits); p.kind == num.None && got != 0x7ff8000000000001 {
			t.Errorf("FNeg(%x) = %x", p.bits, got)
		}
	}
}

// P2.1: Hex tells the bits as they are.
func TestHex(t *testing.T) {
	for a, want := range map[uint64]string{0: "0000000000000000", 1: "0000000000000001", one: "3ff0000000000000", 0x0123456789abcdef: "0123456789abcdef", 1<<64 - 1: "ffffffffffffffff", negNul: "8000000000000000", num.NaN: "7ff8000000000001", 0x7ff8000000000002: "7ff8000000000002"} {
		if got := num.Hex(a); got != want {
			t.Errorf("Hex(%x) = %q", a, got)
		}
	}
}

// P2.1: Dec.
func TestDec(t *testing.T) {
	for n, want := range map[int64]string{0: "0", 7: "7", -1: "-1", 10: "10", -120: "-120", math.MaxInt64: "9223372036854775807", math.MinInt64: "-9223372036854775808"} {
		if got := num.Dec(n); got != want {
			t.Errorf("Dec(%d) = %q", n, got)
		}
	}
}
