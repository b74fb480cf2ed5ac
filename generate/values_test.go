package generate

import (
	"math"
	"math/big"
	"math/rand"
	"testing"

	"integraph/api"
	"integraph/exact"
)

// The tests of this file are those of P3.2.

const testPrecision = 800

func float(a int64) *big.Float { return new(big.Float).SetPrec(testPrecision).SetInt64(a) }

func plus(a, b *big.Float) *big.Float {
	return new(big.Float).SetPrec(testPrecision).Add(a, b)
}
func minus(a, b *big.Float) *big.Float {
	return new(big.Float).SetPrec(testPrecision).Sub(a, b)
}
func times(a, b *big.Float) *big.Float {
	return new(big.Float).SetPrec(testPrecision).Mul(a, b)
}
func over(a, b *big.Float) *big.Float {
	return new(big.Float).SetPrec(testPrecision).Quo(a, b)
}

// floatExp returns exp(x): the 2^64-th power of what is a little above or below 1.
func floatExp(x *big.Float) *big.Float {
	small := new(big.Float).SetMantExp(x, -64)
	term, sum := float(1), float(1)
	for n := int64(1); n < 20; n++ {
		term = over(times(term, small), float(n))
		sum = plus(sum, term)
	}
	for range 64 {
		sum = times(sum, sum)
	}
	return sum
}

// floatCircle returns sin(x) and cos(x), by doubling a small angle.
func floatCircle(x *big.Float) (*big.Float, *big.Float) {
	small := new(big.Float).SetMantExp(x, -64)
	term, sin, cos := float(1), float(0), float(0)
	for n := range int64(20) {
		signed := term
		if n%4 >= 2 {
			signed = minus(float(0), term)
		}
		if n%2 == 0 {
			cos = plus(cos, signed)
		} else {
			sin = plus(sin, signed)
		}
		term = over(times(term, small), float(n+1))
	}
	for range 64 {
		sin, cos = times(float(2), times(sin, cos)), minus(times(cos, cos), times(sin, sin))
	}
	return sin, cos
}

// floatLog returns log(x): Newton's method with the exponential function.
func floatLog(x *big.Float) *big.Float {
	near, _ := x.Float64()
	y := new(big.Float).SetPrec(testPrecision).SetFloat64(math.Log(near))
	for range 7 {
		y = minus(plus(y, over(x, floatExp(y))), float(1))
	}
	return y
}

// floatValue returns the value of a function.
func floatValue(function string, a api.Rat) *big.Float {
	x := new(big.Float).SetPrec(testPrecision).SetRat(bigOf(a))
	sin, cos := floatCircle(x)
	switch function {
	case "sin":
		return sin
	case "cos":
		return cos
	case "tan":
		return over(sin, cos)
	case "exp":
		return floatExp(x)
	case "log":
		return floatLog(x)
	case "sqrt":
		return new(big.Float).SetPrec(testPrecision).Sqrt(x)
	}
	return over(float(1), new(big.Float).SetPrec(testPrecision).Sqrt(x))
}

// expectLeast reports a span that is not the least one of a grid with an irrational value of a function.
func expectLeast(t *testing.T, function string, a api.Rat, bits int) {
	t.Helper()
	got, err := Enclose(function, a, bits)
	if err != api.OK || exact.CheckSpan(got) != api.OK {
		t.Errorf("Enclose of %s at %s with %d bits: the error %d", function, a, bits, err)
		return
	}
	scale := new(big.Rat).SetInt(new(big.Int).Lsh(big.NewInt(1), uint(bits)))
	low, high := new(big.Rat).Mul(bigOf(got.Low), scale), new(big.Rat).Mul(bigOf(got.High), scale)
	if !low.IsInt() || new(big.Rat).Sub(high, low).Cmp(big.NewRat(1, 1)) != 0 {
		t.Errorf("Enclose of %s at %s with %d bits: %v is not a step of the grid", function, a, bits, got)
	}
	value, _ := floatValue(function, a).Rat(nil)
	if value.Cmp(bigOf(got.Low)) <= 0 || value.Cmp(bigOf(got.High)) >= 0 {
		t.Errorf("Enclose of %s at %s with %d bits: %v does not contain the value", function, a, bits, got)
	}
}

func TestEnclose(t *testing.T) {
	nine := api.Rat(digits("9", 9))
	square := ratOf(new(big.Rat).Mul(bigOf(api.Rat(digits("7", 300))), bigOf(api.Rat(digits("7", 300)))))
	for _, row := range []struct {
		function string
		a        api.Rat
		bits     int
		want     string // as for span
		err      api.Errno
	}{
		{"exp", "1", 2, "5/2..11/4", api.OK}, {"sqrt", "2", 1, "1..3/2", api.OK}, {"cos", "0", 1, "1", api.OK}, {"log", "0", 1, "", api.ErrRange},
		{"exp", "1", 0, "2..3", api.OK}, {"exp", "-16", 0, "0..1", api.OK}, {"sin", "-1", 0, "-1..0", api.OK}, {"cos", "3", 0, "-1..0", api.OK}, {"log", "1/2", 0, "-1..0", api.OK}, {"tan", "-3/2", 0, "-15..-14", api.OK},
		{"rsqrt", "2", 3, "5/8..3/4", api.OK}, {"log", "16", 0, "2..3", api.OK},
		// rational values
		{"sin", "0", 0, "0", api.OK}, {"tan", "0", 64, "0", api.OK}, {"exp", "0", 3, "1", api.OK}, {"log", "1", 3, "0", api.OK}, {"sqrt", "0", 3, "0", api.OK}, {"sqrt", "49/81", 0, "7/9", api.OK}, {"rsqrt", "49/81", 0, "9/7", api.OK}, {"rsqrt", "1", 0, "1", api.OK},
		{"reciprocal", "-3", 0, "-1/3", api.OK}, {"reciprocal", "-2/7", 0, "-7/2", api.OK}, {"reciprocal", "1", 0, "1", api.OK},
		{"sqrt", square, 0, digits("7", 300), api.OK}, {"rsqrt", square, 0, "1/" + digits("7", 300), api.OK}, {"reciprocal", api.Rat("-" + digits("9", 600)), 0, "-1/" + digits("9", 600), api.OK},
		// the operands
		{"reciprocal", "0", 0, "", api.ErrZero}, {"rsqrt", "0", 0, "", api.ErrZero}, {"rsqrt", "-1", 0, "", api.ErrRange}, {"sqrt", "-4", 0, "", api.ErrRange}, {"log", "-1", 0, "", api.ErrRange}, {"sqrt", "-1/10000000000", 0, "", api.ErrRange}, {"log", "-17", 0, "", api.ErrRange},
		{"sin", "16", 0, "-1..0", api.OK}, {"sin", "-16", 0, "0..1", api.OK}, {"sin", "17", 0, "", api.ErrLimit}, {"cos", "-17", 0, "", api.ErrLimit}, {"tan", "161/10", 0, "", api.ErrLimit}, {"exp", "-33/2", 0, "", api.ErrLimit}, {"log", "17", 0, "", api.ErrLimit}, {"sqrt", "17", 0, "", api.ErrLimit}, {"rsqrt", "17", 0, "", api.ErrLimit},
		{"sin", "1/" + nine, 0, "0..1", api.OK}, {"sin", nine + "/100000000", 0, "-1..0", api.OK}, {"cos", "1/1" + nine, 0, "", api.ErrLimit}, {"exp", "1" + nine + "/1000000000", 0, "", api.ErrLimit}, {"sqrt", "1/1" + nine, 0, "", api.ErrLimit}, {"exp", "-1/1" + nine, 0, "", api.ErrLimit},
		// the arguments
		{"abs", "1", 0, "", api.ErrKind}, {"", "1", 0, "", api.ErrKind}, {"Sin", "1", 0, "", api.ErrKind}, {"/", "1", 0, "", api.ErrKind}, {"min", "x", -1, "", api.ErrKind},
		{"sin", "", 65, "", api.ErrForm}, {"sin", "2/4", 0, "", api.ErrForm}, {"reciprocal", "x", 0, "", api.ErrForm}, {"sqrt", api.Rat(digits("9", 601)), 65, "", api.ErrLarge}, {"reciprocal", api.Rat(digits("9", 601)), 0, "", api.ErrLarge},
		{"sin", "0", 65, "", api.ErrRange}, {"sin", "17", -1, "", api.ErrRange}, {"reciprocal", "0", 65, "", api.ErrRange}, {"exp", "0", math.MinInt, "", api.ErrRange}, {"exp", "0", math.MaxInt, "", api.ErrRange},
	} {
		got, err := Enclose(row.function, row.a, row.bits)
		want := span(row.want)
		if row.err != api.OK {
			want = api.Span{}
		}
		if got != want || err != row.err {
			t.Errorf("Enclose of %s at %s with %d bits: got %v and the error %d, want %v and %d", row.function, row.a, row.bits, got, err, want, row.err)
		}
	}
}

func TestEncloseIsLeast(t *testing.T) {
	r := rand.New(rand.NewSource(1))
	for range 500 {
		denominator := int64(1 + r.Intn([]int{3, 100, 999999999}[r.Intn(3)]))
		numerator := int64(1 + r.Intn(int(min(999999999, 16*denominator))))
		a := big.NewRat(numerator, denominator)
		bits := r.Intn(65)
		for _, function := range []string{"log", "sqrt", "rsqrt"} {
			if _, err := rationalValue(function, ratOf(a)); err == api.ErrNone {
				expectLeast(t, function, ratOf(a), bits)
			}
		}
		if r.Intn(2) == 0 {
			a.Neg(a)
		}
		for _, function := range []string{"sin", "cos", "tan", "exp"} {
			expectLeast(t, function, ratOf(a), bits)
		}
	}
}

// TestEncloseWhereItIsHard has values that are very near to numbers of the grid, or very great.
func TestEncloseWhereItIsHard(t *testing.T) {
	for _, a := range []api.Rat{"1/999999999", "-1/999999999", "999999998/999999999", "999999999/999999998", "355/113", "710/113", "-355/226", "245850922/78256779", "122925461/78256779", "16", "-16", "8", "11", "-11", "411557987/131002976", "103993/33102", "573204/182459"} {
		for _, function := range []string{"sin", "cos", "tan", "exp", "log", "sqrt", "rsqrt"} {
			_, err := rationalValue(function, a)
			if x := bigOf(a); err != api.ErrNone || x.Cmp(big.NewRat(16, 1)) > 0 {
				continue
			}
			for _, bits := range []int{0, 1, 17, 63, 64} {
				expectLeast(t, function, a, bits)
			}
		}
	}
}
