package exact

import (
	"math"
	"math/big"
	"math/rand"
	"testing"

	"integraph/api"
)

// The tests of this file are those of P1.1.

func TestIsName(t *testing.T) {
	for _, row := range []struct {
		s    string
		want bool
	}{
		{"x", true}, {"Z", true}, {"a", true}, {"z", true}, {"A", true}, {"y_1", true}, {"A9", true}, {"a__", true},
		{digits("x", 24), true}, {digits("x", 25), false},
		{"", false}, {"1x", false}, {"_x", false}, {"x-y", false}, {"x y", false}, {" x", false}, {"x'", false},
		{"x#", false}, {"é", false}, {"xé", false}, {"x\xff", false}, {"\xff", false}, {"x\x00", false},
		{"x٣", false}, {"@", false}, {"[", false}, {"`", false}, {"{", false}, {"a/", false}, {"a:", false},
	} {
		if IsName(row.s) != row.want {
			t.Errorf("IsName of %q: got %v", row.s, !row.want)
		}
	}
}

func TestCheck(t *testing.T) {
	for _, row := range []struct {
		a    string
		want api.Errno
	}{
		{"0", api.OK}, {"7", api.OK}, {"-7", api.OK}, {"3/2", api.OK}, {"-3/2", api.OK}, {"1/10", api.OK},
		{digits("9", 600), api.OK}, {"-" + digits("9", 600), api.OK}, {"1/" + digits("9", 600), api.OK},
		{"-" + digits("9", 600) + "/1" + digits("0", 599), api.OK},
		{"", api.ErrForm}, {"-", api.ErrForm}, {"/", api.ErrForm}, {"1/", api.ErrForm}, {"/2", api.ErrForm},
		{"-/2", api.ErrForm}, {"1/2/3", api.ErrForm}, {"--1", api.ErrForm}, {"1/-2", api.ErrForm}, {"+1", api.ErrForm},
		{" 1", api.ErrForm}, {"1 ", api.ErrForm}, {"1_0", api.ErrForm}, {"1.5", api.ErrForm}, {"x", api.ErrForm},
		{"٣", api.ErrForm}, {"1\x00", api.ErrForm},
		{"-0", api.ErrForm}, {"00", api.ErrForm}, {"01", api.ErrForm}, {"-01", api.ErrForm}, {"1/02", api.ErrForm},
		{"1/0", api.ErrForm}, {"1/1", api.ErrForm}, {"0/1", api.ErrForm}, {"0/5", api.ErrForm}, {"0/0", api.ErrForm},
		{"4/6", api.ErrForm}, {"-10/4", api.ErrForm}, {"5/5", api.ErrForm}, {"6/3", api.ErrForm},
		{digits("9", 601), api.ErrLarge}, {"-" + digits("9", 601), api.ErrLarge}, {"1/" + digits("9", 601), api.ErrLarge},
		// The form comes before the size, and the size before common divisors.
		{"-0/" + digits("3", 601), api.ErrForm}, {"0" + digits("3", 601), api.ErrForm},
		{digits("3", 601) + "/1", api.ErrForm}, {digits("3", 601) + "x", api.ErrForm},
		{"0/" + digits("3", 601), api.ErrLarge}, {"3/" + digits("3", 601), api.ErrLarge},
		{digits("6", 601) + "/4", api.ErrLarge}, {digits("6", 600) + "/" + digits("4", 600), api.ErrForm},
	} {
		expectError(t, "Check of "+row.a, Check(api.Rat(row.a)), row.want)
	}
}

func TestOf(t *testing.T) {
	for _, row := range []struct {
		num, den int
		want     api.Rat
		e        api.Errno
	}{
		{3, 2, "3/2", api.OK}, {-6, 4, "-3/2", api.OK}, {6, -4, "-3/2", api.OK}, {-6, -4, "3/2", api.OK},
		{0, -5, "0", api.OK}, {5, 1, "5", api.OK}, {1, 0, "", api.ErrZero}, {0, 0, "", api.ErrZero},
		{math.MinInt64, 1, "-9223372036854775808", api.OK}, {math.MinInt64, -1, "9223372036854775808", api.OK},
		{math.MinInt64, math.MinInt64, "1", api.OK}, {1, math.MinInt64, "-1/9223372036854775808", api.OK},
		{math.MinInt64, math.MaxInt64, "-9223372036854775808/9223372036854775807", api.OK},
		{math.MinInt64, 6, "-4611686018427387904/3", api.OK},
	} {
		got, e := Of(row.num, row.den)
		expect(t, "Of", got, e, row.want, row.e)
	}
}

func TestParse(t *testing.T) {
	for _, row := range []struct {
		s    string
		want api.Rat
		e    api.Errno
	}{
		{"12.50", "25/2", api.OK}, {"-6/4", "-3/2", api.OK}, {"3", "3", api.OK}, {"007", "7", api.OK},
		{"-0", "0", api.OK}, {"-0.0", "0", api.OK}, {"0/7", "0", api.OK}, {"-0/7", "0", api.OK}, {"8/004", "2", api.OK},
		{"0.001", "1/1000", api.OK}, {"-00.250", "-1/4", api.OK}, {"1/1", "1", api.OK}, {"10.0", "10", api.OK},
		{"1/0", "", api.ErrZero}, {"-1/000", "", api.ErrZero}, {"0/0", "", api.ErrZero},
		{"", "", api.ErrSyntax}, {"-", "", api.ErrSyntax}, {".5", "", api.ErrSyntax}, {"5.", "", api.ErrSyntax},
		{"1/", "", api.ErrSyntax}, {"/1", "", api.ErrSyntax}, {"+1", "", api.ErrSyntax}, {"--1", "", api.ErrSyntax},
		{"1/-2", "", api.ErrSyntax}, {"1.-2", "", api.ErrSyntax}, {"1/2/3", "", api.ErrSyntax}, {"1.2.3", "", api.ErrSyntax},
		{"1.5/2", "", api.ErrSyntax}, {"1/2.5", "", api.ErrSyntax}, {" 1", "", api.ErrSyntax}, {"1 ", "", api.ErrSyntax},
		{"1e3", "", api.ErrSyntax}, {"1,5", "", api.ErrSyntax}, {"٣", "", api.ErrSyntax}, {"x/0", "", api.ErrSyntax},
		{digits("0", 4096), "0", api.OK}, {digits("0", 4097), "", api.ErrLong}, {digits("x", 4097), "", api.ErrLong},
		{digits("x", 4096), "", api.ErrSyntax},
		{digits("9", 600), api.Rat(digits("9", 600)), api.OK}, {digits("9", 601), "", api.ErrLarge},
		{"1." + digits("0", 4094), "1", api.OK}, {digits("9", 2047) + "/" + digits("9", 2048), "", api.ErrLarge},
		{digits("6", 2047) + "/" + digits("3", 2047), "2", api.OK},
		{"0." + digits("0", 598) + "1", "1/" + powerOfTen(599), api.OK}, {"0." + digits("0", 599) + "1", "", api.ErrLarge},
	} {
		got, e := Parse(row.s)
		expect(t, "Parse of "+row.s, got, e, row.want, row.e)
	}
}

func TestInt(t *testing.T) {
	for _, row := range []struct {
		a    api.Rat
		want int
		e    api.Errno
	}{
		{"0", 0, api.OK}, {"-7", -7, api.OK}, {"9223372036854775807", math.MaxInt64, api.OK},
		{"-9223372036854775808", math.MinInt64, api.OK}, {"9223372036854775808", 0, api.ErrRange},
		{"-9223372036854775809", 0, api.ErrRange}, {api.Rat(digits("9", 600)), 0, api.ErrRange},
		{"1/2", 0, api.ErrRange}, {"2/2", 0, api.ErrForm}, {"+1", 0, api.ErrForm}, {api.Rat(digits("9", 601)), 0, api.ErrLarge},
	} {
		got, e := Int(row.a)
		expect(t, "Int of "+string(row.a), got, e, row.want, row.e)
	}
}

func TestOperations(t *testing.T) {
	full := api.Rat(digits("9", 600))
	small := "1/" + full
	for _, row := range []struct {
		what      string
		operation func(a, b api.Rat) (api.Rat, api.Errno)
		a, b      api.Rat
		want      api.Rat
		e         api.Errno
	}{
		{"Add", Add, "1/2", "1/3", "5/6", api.OK}, {"Add", Add, "1/6", "-2/3", "-1/2", api.OK}, {"Add", Add, "7/3", "-7/3", "0", api.OK},
		{"Add", Add, full, "-1", api.Rat(digits("9", 599) + "8"), api.OK}, {"Add", Add, full, "1", "", api.ErrLarge},
		{"Add", Add, "1/" + powerOfTen(599), "1/17", "", api.ErrLarge}, {"Add", Add, "1/" + powerOfTen(599), "1/5", "2" + powerOfTen(597)[1:] + "1/" + powerOfTen(599), api.OK},
		{"Sub", Sub, "1/2", "1/3", "1/6", api.OK}, {"Sub", Sub, "0", "1/3", "-1/3", api.OK}, {"Sub", Sub, "-" + full, "1", "", api.ErrLarge},
		{"Sub", Sub, full, full, "0", api.OK}, {"Sub", Sub, small, small, "0", api.OK},
		{"Mul", Mul, "2/3", "-3/4", "-1/2", api.OK}, {"Mul", Mul, "0", "-3/4", "0", api.OK}, {"Mul", Mul, full, small, "1", api.OK},
		{"Mul", Mul, powerOfTen(300), powerOfTen(299), powerOfTen(599), api.OK}, {"Mul", Mul, powerOfTen(300), powerOfTen(300), "", api.ErrLarge},
		{"Mul", Mul, "1/" + powerOfTen(300), "1/" + powerOfTen(300), "", api.ErrLarge}, {"Mul", Mul, full + "/17", "17/2", full + "/2", api.OK},
		{"Div", Div, "2/3", "-4/3", "-1/2", api.OK}, {"Div", Div, "0", "5", "0", api.OK}, {"Div", Div, "1", "0", "", api.ErrZero},
		{"Div", Div, "0", "0", "", api.ErrZero}, {"Div", Div, small, full, "", api.ErrLarge}, {"Div", Div, full, full, "1", api.OK},
		// The first argument with an error decides, and an argument before a division by 0.
		{"Add", Add, "x", "9" + full, "", api.ErrForm}, {"Add", Add, "9" + full, "x", "", api.ErrLarge}, {"Add", Add, "1", "2/4", "", api.ErrForm},
		{"Sub", Sub, "", "1", "", api.ErrForm}, {"Mul", Mul, "0", "", "", api.ErrForm}, {"Div", Div, "x", "0", "", api.ErrForm}, {"Div", Div, "1", "-0", "", api.ErrForm},
	} {
		got, e := row.operation(row.a, row.b)
		expect(t, row.what+" of "+string(row.a)+" and "+string(row.b), got, e, row.want, row.e)
	}
}

func TestCompare(t *testing.T) {
	full := digits("9", 600)
	order := []api.Rat{api.Rat("-" + full), "-2", "-1/2", "-1/3", api.Rat("-1/" + full), "0", api.Rat("1/" + full), "1/3", "1/2", "2", api.Rat(full)}
	for i, a := range order {
		for j, b := range order {
			want := 0
			if i < j {
				want = -1
			} else if i > j {
				want = 1
			}
			got, e := Compare(a, b)
			expect(t, "Compare", got, e, want, api.OK)
		}
	}
	got, e := Compare("2/4", "9"+api.Rat(full))
	expect(t, "Compare of no numbers", got, e, 0, api.ErrForm)
	got, e = Compare("3", "")
	expect(t, "Compare with no number", got, e, 0, api.ErrForm)
}

func TestFloor(t *testing.T) {
	for _, row := range []struct {
		a, want api.Rat
		e       api.Errno
	}{
		{"3/2", "1", api.OK}, {"-3/2", "-2", api.OK}, {"-1/2", "-1", api.OK}, {"1/2", "0", api.OK}, {"-4", "-4", api.OK}, {"0", "0", api.OK},
		{"1/" + api.Rat(digits("9", 600)), "0", api.OK}, {"-1/" + api.Rat(digits("9", 600)), "-1", api.OK}, {"1.5", "", api.ErrForm},
	} {
		got, e := Floor(row.a)
		expect(t, "Floor of "+string(row.a), got, e, row.want, row.e)
	}
}

func TestNearest(t *testing.T) {
	full := api.Rat(digits("9", 600))
	for _, row := range []struct {
		a    api.Rat
		bits int
		want api.Rat
		e    api.Errno
	}{
		{"1/3", 2, "1/4", api.OK}, {"3/8", 2, "1/2", api.OK}, {"-3/8", 2, "-1/4", api.OK}, {"7/2", 0, "4", api.OK}, {"-7/2", 0, "-3", api.OK},
		{"5", 64, "5", api.OK}, {"1/36893488147419103232", 64, "1/18446744073709551616", api.OK}, {"-1/36893488147419103232", 64, "0", api.OK},
		{"1/3", -1, "", api.ErrRange}, {"1/3", 65, "", api.ErrRange}, {"1/3", math.MaxInt64, "", api.ErrRange}, {"1/3", math.MinInt64, "", api.ErrRange},
		{"2/4", 65, "", api.ErrForm}, {full + "/17", 64, "", api.ErrLarge}, {"x", 65, "", api.ErrForm},
		{full + "/2", 1, full + "/2", api.OK}, {full + "/2", 0, "5" + powerOfTen(599)[1:], api.OK}, {full, 0, full, api.OK},
	} {
		got, e := Nearest(row.a, row.bits)
		expect(t, "Nearest of "+string(row.a), got, e, row.want, row.e)
	}
}

// TestRandomNumbers compares the operations with those of the library.
func TestRandomNumbers(t *testing.T) {
	r := rand.New(rand.NewSource(1))
	some := func() *big.Rat {
		limit := new(big.Int).Exp(big.NewInt(10), big.NewInt(int64(1+r.Intn(150))), nil)
		x := new(big.Rat).SetFrac(new(big.Int).Rand(r, limit), new(big.Int).Add(new(big.Int).Rand(r, limit), big.NewInt(1)))
		if r.Intn(2) == 0 {
			x.Neg(x)
		}
		return x
	}
	for range 3000 {
		x, y := some(), some()
		a, b := ratOf(x), ratOf(y)
		expectError(t, "Check of "+string(a), Check(a), api.OK)
		sum, e := Add(a, b)
		expect(t, "Add", sum, e, ratOf(new(big.Rat).Add(x, y)), api.OK)
		difference, e := Sub(a, b)
		expect(t, "Sub", difference, e, ratOf(new(big.Rat).Sub(x, y)), api.OK)
		product, e := Mul(a, b)
		expect(t, "Mul", product, e, ratOf(new(big.Rat).Mul(x, y)), api.OK)
		if y.Sign() != 0 {
			quotient, e := Div(a, b)
			expect(t, "Div", quotient, e, ratOf(new(big.Rat).Quo(x, y)), api.OK)
		}
		order, e := Compare(a, b)
		expect(t, "Compare", order, e, x.Cmp(y), api.OK)
		text, e := Parse(x.FloatString(20))
		expect(t, "Parse", text, e, ratOf(bigOf(api.Rat(x.FloatString(20)))), api.OK)
		floor, e := Floor(a)
		whole := new(big.Int).Div(x.Num(), x.Denom())
		expect(t, "Floor", floor, e, api.Rat(whole.String()), api.OK)
	}
}
