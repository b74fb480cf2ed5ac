package number

import (
	"math/big"
	"math/rand"
	"strings"
	"testing"
)

// sizes of numbers, in bits: of none, one, a few and many limbs.
var sizes = []int{0, 1, 8, 63, 64, 65, 127, 128, 129, 192, 300, 640, 2000, 5000}

// someNatural returns a number of some size whose bits are random, or mostly ones, or mostly zeros: long runs
// lead to the rare corrections in a division.
func someNatural(r *rand.Rand) natural {
	length := sizes[r.Intn(len(sizes))]
	a := make(natural, (length+63)/64)
	kind := r.Intn(4)
	for i := range a {
		switch kind {
		case 0, 1:
			a[i] = r.Uint64()
		case 2:
			a[i] = ^uint64(0)
		}
		if r.Intn(4) == 0 {
			a[i] ^= 1 << r.Intn(64)
		}
	}
	if length%64 != 0 {
		a[len(a)-1] &= 1<<(length%64) - 1
	}
	return a.trimmed()
}

// bigOf returns the number of the library.
func bigOf(a natural) *big.Int {
	n := new(big.Int)
	for i := len(a) - 1; i >= 0; i-- {
		n.Lsh(n, 64).Or(n, new(big.Int).SetUint64(a[i]))
	}
	return n
}

// same reports a number that is not in normal form, or not the wanted one.
func same(t *testing.T, what string, got natural, want *big.Int) {
	t.Helper()
	if len(got) > 0 && got[len(got)-1] == 0 {
		t.Fatalf("%s: a limb at the top is 0", what)
	}
	if bigOf(got).Cmp(want) != 0 {
		t.Fatalf("%s: got %v, want %v", what, bigOf(got), want)
	}
}

func TestNaturals(t *testing.T) {
	r := rand.New(rand.NewSource(1))
	for range 30000 {
		a, b := someNatural(r), someNatural(r)
		x, y := bigOf(a), bigOf(b)
		same(t, "plus", a.plus(b), new(big.Int).Add(x, y))
		same(t, "times", a.times(b), new(big.Int).Mul(x, y))
		same(t, "divisor", divisor(a, b), new(big.Int).GCD(nil, nil, x, y))
		if a.compare(b) != x.Cmp(y) {
			t.Fatalf("compare: %v and %v", x, y)
		}
		if a.compare(b) >= 0 {
			same(t, "minus", a.minus(b), new(big.Int).Sub(x, y))
		}
		if len(b) > 0 {
			quotient, rest := a.divide(b)
			q, m := new(big.Int).QuoRem(x, y, new(big.Int))
			same(t, "quotient", quotient, q)
			same(t, "rest", rest, m)
			quotient, rest = a.times(b).divide(b)
			same(t, "quotient without a rest", quotient, x)
			same(t, "no rest", rest, new(big.Int))
		}
		by := r.Intn(200)
		same(t, "shifted", a.shifted(by), new(big.Int).Lsh(x, uint(by)))
		n := r.Intn(5)
		same(t, "power", a.power(n), new(big.Int).Exp(x, big.NewInt(int64(n)), nil))
		if a.bitLength() != x.BitLen() {
			t.Fatalf("bitLength of %v", x)
		}
	}
}

// TestDivisionWithCorrections divides numbers whose limbs are extreme: a guessed limb is then too great.
func TestDivisionWithCorrections(t *testing.T) {
	limbs := []uint64{0, 1, 2, 1<<63 - 1, 1 << 63, 1<<63 + 1, ^uint64(0) - 1, ^uint64(0)}
	r := rand.New(rand.NewSource(2))
	some := func(n int) natural {
		a := make(natural, n)
		for i := range a {
			a[i] = limbs[r.Intn(len(limbs))]
		}
		return a.trimmed()
	}
	for range 200000 {
		a, b := some(1+r.Intn(6)), some(1+r.Intn(4))
		if len(b) == 0 {
			continue
		}
		quotient, rest := a.divide(b)
		q, m := new(big.Int).QuoRem(bigOf(a), bigOf(b), new(big.Int))
		same(t, "quotient", quotient, q)
		same(t, "rest", rest, m)
		same(t, "divisor", divisor(a, b), new(big.Int).GCD(nil, nil, bigOf(a), bigOf(b)))
	}
}

// TestDivisors has numbers with many steps in Euclid's algorithm (Fibonacci's), with great common divisors, and of
// very different sizes.
func TestDivisors(t *testing.T) {
	a, b := natural{1}, natural{1}
	for range 2000 {
		a, b = a.plus(b), a
		same(t, "divisor of neighbours", divisor(a, b), big.NewInt(1))
	}
	r := rand.New(rand.NewSource(3))
	for range 3000 {
		common, x, y := someNatural(r), someNatural(r), someNatural(r)
		x, y = x.times(common), y.times(common)
		same(t, "divisor", divisor(x, y), new(big.Int).GCD(nil, nil, bigOf(x), bigOf(y)))
	}
}

func TestDecimal(t *testing.T) {
	r := rand.New(rand.NewSource(4))
	for range 3000 {
		a := someNatural(r)
		text := bigOf(a).String()
		if a.String() != text {
			t.Fatalf("String: got %s, want %s", a.String(), text)
		}
		same(t, "decimal", decimal(text), bigOf(a))
		same(t, "decimal with zeros in front", decimal("000"+text), bigOf(a))
	}
	if (natural{0, 1}).String() != "18446744073709551616" {
		t.Error("String of 2^64")
	}
	if decimal("1"+strings.Repeat("0", 100)).String() != "1"+strings.Repeat("0", 100) {
		t.Error("zeros inside a text are lost")
	}
}

func TestFits(t *testing.T) {
	for digits := 1; digits <= 700; digits++ {
		least, greatest := decimal("1"+strings.Repeat("0", digits)), decimal(strings.Repeat("9", digits))
		if !greatest.fits(digits) || least.fits(digits) || !least.fits(digits+1) {
			t.Errorf("fits at %d digits", digits)
		}
	}
}

// someFraction returns a number, often a small one, or a whole one, or one whose divisors are small.
func someFraction(r *rand.Rand) (Fraction, *big.Rat) {
	num, den := someNatural(r), someNatural(r)
	if r.Intn(2) == 0 {
		num, den = natural{uint64(r.Intn(20))}.trimmed(), natural{1 + uint64(r.Intn(12))}
	}
	if len(den) == 0 || r.Intn(5) == 0 {
		den = natural{1}
	}
	x := new(big.Rat).SetFrac(bigOf(num), bigOf(den))
	f, _ := Quotient(num.String(), den.String())
	if r.Intn(2) == 0 {
		return f.Negative(), x.Neg(x)
	}
	return f, x
}

// sameFraction reports a number that is not the wanted one in lowest terms.
func sameFraction(t *testing.T, what string, got Fraction, want *big.Rat) {
	t.Helper()
	if got.String() != want.RatString() {
		t.Fatalf("%s: got %s, want %s", what, got, want.RatString())
	}
	if got.Sign() != want.Sign() {
		t.Fatalf("%s: the sign of %s is %d", what, got, got.Sign())
	}
}

// down returns the greatest multiple of 1 / 2^bits that is at most x.
func down(x *big.Rat, bits uint) *big.Rat {
	grid := new(big.Int).Lsh(big.NewInt(1), bits)
	n := new(big.Int).Mul(x.Num(), grid)
	return new(big.Rat).SetFrac(n.Div(n, x.Denom()), grid) // Div rounds down, since the divisor is positive
}

func TestFractions(t *testing.T) {
	r := rand.New(rand.NewSource(5))
	for range 20000 {
		a, x := someFraction(r)
		b, y := someFraction(r)
		sameFraction(t, "Plus", a.Plus(b), new(big.Rat).Add(x, y))
		sameFraction(t, "Minus", a.Minus(b), new(big.Rat).Sub(x, y))
		sameFraction(t, "Size", a.Size(), new(big.Rat).Abs(x))
		sameFraction(t, "Minus itself", a.Minus(a), new(big.Rat))
		sameFraction(t, "Times", a.Times(b), new(big.Rat).Mul(x, y))
		if y.Sign() != 0 {
			sameFraction(t, "Over", a.Over(b), new(big.Rat).Quo(x, y))
		}
		if a.Compare(b) != x.Cmp(y) || a.Compare(a) != 0 {
			t.Fatalf("Compare: %s and %s", a, b)
		}
		sameFraction(t, "Floor", a.Floor(), down(x, 0))
		bits := r.Intn(65)
		sameFraction(t, "Down", a.Down(bits), down(x, uint(bits)))
		up := down(new(big.Rat).Neg(x), uint(bits))
		sameFraction(t, "Up", a.Up(bits), up.Neg(up))
		half := new(big.Rat).SetFrac(big.NewInt(1), new(big.Int).Lsh(big.NewInt(1), uint(bits)+1))
		sameFraction(t, "Nearest", a.Nearest(bits), down(half.Add(half, x), uint(bits)))
		power := big.NewRat(1, 1)
		for n := range 4 {
			sameFraction(t, "Power", a.Power(n), power)
			power = new(big.Rat).Mul(power, x)
		}
	}
}

func TestCurve(t *testing.T) {
	third, minus := Whole(1).Over(Whole(3)), Whole(-2)
	for _, row := range []struct {
		coefficients []Fraction
		at           Fraction
		want         string
	}{{nil, third, "0"}, {[]Fraction{third}, minus, "1/3"}, {[]Fraction{third, minus}, minus, "13/3"}, {[]Fraction{Whole(5), {}, third, minus}, third, "134/27"}} {
		if got := Curve(row.coefficients, row.at).String(); got != row.want {
			t.Errorf("Curve of %v at %v: got %s, want %s", row.coefficients, row.at, got, row.want)
		}
	}
}

func TestWhole(t *testing.T) {
	for _, n := range []int{0, 1, -1, 7, 1<<63 - 1, -1 << 63} {
		sameFraction(t, "Whole", Whole(n), new(big.Rat).SetInt64(int64(n)))
	}
	if _, lowest := Quotient("4", "6"); lowest {
		t.Error("4/6 is not in lowest terms")
	}
	if _, lowest := Quotient("0", "5"); lowest {
		t.Error("0/5 is not in lowest terms")
	}
	if _, lowest := Quotient("4", "9"); !lowest {
		t.Error("4/9 is in lowest terms")
	}
}

func TestSpans(t *testing.T) {
	whole := func(low, high int) Span { return Span{Whole(low), Whole(high)} }
	equal := func(what string, got, want Span) {
		t.Helper()
		if got.Low.Compare(want.Low) != 0 || got.High.Compare(want.High) != 0 {
			t.Errorf("%s: got %s to %s, want %s to %s", what, got.Low, got.High, want.Low, want.High)
		}
	}
	for a := -3; a <= 3; a++ {
		for b := a; b <= 3; b++ {
			for c := -3; c <= 3; c++ {
				for d := c; d <= 3; d++ {
					equal("Plus", whole(a, b).Plus(whole(c, d)), whole(a+c, b+d))
					equal("Minus", whole(a, b).Minus(whole(c, d)), whole(a-d, b-c))
					equal("Times", whole(a, b).Times(whole(c, d)), whole(min(a*c, a*d, b*c, b*d), max(a*c, a*d, b*c, b*d)))
					equal("Hull", whole(a, b).Hull(whole(c, d)), whole(min(a, c), max(b, d)))
					if whole(a, b).Within(whole(c, d)) != (c <= a && b <= d) {
						t.Errorf("Within: %d to %d, %d to %d", a, b, c, d)
					}
					common, meet := whole(a, b).Common(whole(c, d))
					if meet != (max(a, c) <= min(b, d)) {
						t.Errorf("Common: %d to %d, %d to %d", a, b, c, d)
					}
					if meet {
						equal("Common", common, whole(max(a, c), min(b, d)))
					} else {
						equal("nothing in Common", common, Span{})
					}
				}
			}
			squares := whole(min(a*a, b*b), max(a*a, b*b))
			if a < 0 && b > 0 {
				squares.Low = Fraction{}
			}
			equal("Width and Largest", Span{whole(a, b).Width(), whole(a, b).Largest()}, whole(b-a, max(-a, b)))
			equal("the power 0", whole(a, b).Power(0), whole(1, 1))
			equal("the power 2", whole(a, b).Power(2), squares)
			equal("the power 3", whole(a, b).Power(3), whole(a*a*a, b*b*b))
			equal("Outward", whole(a, b).Outward(3), whole(a, b))
		}
	}
}

func TestRoots(t *testing.T) {
	r := rand.New(rand.NewSource(6))
	for range 5000 {
		a := someNatural(r)
		same(t, "root", a.root(), new(big.Int).Sqrt(bigOf(a)))
		square := a.times(a)
		same(t, "root of a square", square.root(), bigOf(a))
		if len(square) > 0 {
			same(t, "root below a square", square.minus(natural{1}).root(), new(big.Int).Sub(bigOf(a), big.NewInt(1)))
		}
		f, x := someFraction(r)
		root, isSquare := f.Times(f).Root()
		if !isSquare {
			t.Fatalf("Root: the square of %s has none", f)
		}
		sameFraction(t, "Root", root, x.Abs(x))
		if root, isSquare := f.Times(f).Times(Whole(2)).Root(); f.Sign() != 0 && (isSquare || root.Sign() != 0) {
			t.Fatalf("Root: twice the square of %s has %s", f, root)
		}
		if root, isSquare := f.Times(f).Over(Whole(3)).Root(); f.Sign() != 0 && (isSquare || root.Sign() != 0) {
			t.Fatalf("Root: a third of the square of %s has %s", f, root)
		}
	}
}

func TestRootDown(t *testing.T) {
	r := rand.New(rand.NewSource(7))
	for range 3000 {
		f, x := someFraction(r)
		x.Abs(x)
		if f.Sign() < 0 {
			f = f.Negative()
		}
		bits := r.Intn(100)
		// the root of the greatest whole number that is at most x 4^bits
		scaled := new(big.Int).Lsh(x.Num(), uint(2*bits))
		root := new(big.Int).Sqrt(scaled.Quo(scaled, x.Denom()))
		sameFraction(t, "RootDown", f.RootDown(bits), new(big.Rat).SetFrac(root, new(big.Int).Lsh(big.NewInt(1), uint(bits))))
	}
	sameFraction(t, "RootDown of 2", Whole(2).RootDown(2), big.NewRat(5, 4))
	sameFraction(t, "RootDown of 9/4", Whole(9).Over(Whole(4)).RootDown(1), big.NewRat(3, 2))
	sameFraction(t, "RootDown of 0", Whole(0).RootDown(9), new(big.Rat))
}
