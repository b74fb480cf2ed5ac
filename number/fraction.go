// Package number has fractions of any size, and spans of them. The limits of the layers are not its matter:
// numbers on the way to a result have none.
package number

import "slices"

// Fraction is a rational number in lowest terms. Its zero value is 0, and it is immutable.
type Fraction struct {
	negative    bool
	numerator   natural
	denominator natural // nil for 1
}

// Whole returns n.
func Whole(n int) Fraction {
	size := uint64(n)
	if n < 0 {
		size = -size // the least integer has no opposite one, but its size has a place here
	}
	return fraction(n < 0, natural{size}.trimmed(), nil)
}

// Quotient returns the quotient of two whole numbers in decimal digits, of which the second one is not 0,
// and whether they have no common divisor above 1.
func Quotient(numerator, denominator string) (Fraction, bool) {
	a, b := decimal(numerator), decimal(denominator)
	common := divisor(a, b)
	return fraction(false, over(a, common), over(b, common)), common.isOne()
}

// fraction returns the number with a numerator and a denominator that have no common divisor above 1.
func fraction(negative bool, numerator, denominator natural) Fraction {
	if len(numerator) == 0 {
		return Fraction{}
	}
	if denominator.isOne() {
		denominator = nil
	}
	return Fraction{negative, numerator, denominator}
}

// over returns a divided by one of its divisors.
func over(a, divisor natural) natural {
	if divisor.isOne() {
		return a
	}
	quotient, _ := a.divide(divisor)
	return quotient
}

// below returns the denominator.
func (a Fraction) below() natural {
	if a.denominator == nil {
		return natural{1}
	}
	return a.denominator
}

// Sign returns -1, 0 or 1.
func (a Fraction) Sign() int {
	if len(a.numerator) == 0 {
		return 0
	}
	if a.negative {
		return -1
	}
	return 1
}

// Negative returns -a.
func (a Fraction) Negative() Fraction {
	return fraction(!a.negative, a.numerator, a.denominator)
}

// Size returns the absolute value of a.
func (a Fraction) Size() Fraction { return fraction(false, a.numerator, a.denominator) }

// Plus returns a + b.
func (a Fraction) Plus(b Fraction) Fraction {
	if a.denominator == nil && b.denominator == nil {
		negative, sum := signedSum(a.negative, a.numerator, b.negative, b.numerator)
		return fraction(negative, sum, nil)
	}
	// Only what the denominators have in common can be cancelled in the sum: a divisor of them is soon found
	// where that of a whole sum would not be.
	low, high := a.below(), b.below()
	common := divisor(low, high)
	part, other := over(low, common), over(high, common)
	negative, sum := signedSum(a.negative, a.numerator.times(other), b.negative, b.numerator.times(part))
	common = divisor(sum, common)
	return fraction(negative, over(sum, common), part.times(over(high, common)))
}

// signedSum returns the sum of two numbers with signs.
func signedSum(aNegative bool, a natural, bNegative bool, b natural) (bool, natural) {
	if aNegative == bNegative {
		return aNegative, a.plus(b)
	}
	if a.compare(b) < 0 {
		return bNegative, b.minus(a)
	}
	return aNegative, a.minus(b)
}

// Minus returns a - b.
func (a Fraction) Minus(b Fraction) Fraction { return a.Plus(b.Negative()) }

// Times returns a b.
func (a Fraction) Times(b Fraction) Fraction {
	negative := a.negative != b.negative
	if a.denominator == nil && b.denominator == nil {
		return fraction(negative, a.numerator.times(b.numerator), nil)
	}
	if a.Sign() == 0 || b.Sign() == 0 {
		return Fraction{}
	}
	low, high := a.below(), b.below()
	first, second := divisor(a.numerator, high), divisor(b.numerator, low)
	numerator := over(a.numerator, first).times(over(b.numerator, second))
	return fraction(negative, numerator, over(low, second).times(over(high, first)))
}

// Over returns a / b, where b is not 0.
func (a Fraction) Over(b Fraction) Fraction {
	return a.Times(fraction(b.negative, b.below(), b.numerator))
}

// Power returns a to the power n, which is not negative.
func (a Fraction) Power(n int) Fraction {
	return fraction(a.negative && n%2 == 1, a.numerator.power(n), a.below().power(n))
}

// Curve returns the value at a of the polynomial of one variable with some coefficients, the constant one first.
func Curve(coefficients []Fraction, a Fraction) Fraction {
	var value Fraction
	for _, c := range slices.Backward(coefficients) {
		value = value.Times(a).Plus(c)
	}
	return value
}

// Root returns the square root of a, which is not negative, and true if it is rational.
func (a Fraction) Root() (Fraction, bool) {
	root := fraction(false, a.numerator.root(), a.below().root())
	if root.Times(root).Compare(a) != 0 {
		return Fraction{}, false
	}
	return root, true
}

// RootDown returns the greatest multiple of 1 / 2^bits that is at most the square root of a, which is not negative.
func (a Fraction) RootDown(bits int) Fraction {
	square := a.Over(unit(2 * bits)).Floor()
	return fraction(false, square.numerator.root(), nil).Times(unit(bits))
}

// Compare returns -1, 0 or 1 if a is less than, equal to, or greater than b.
func (a Fraction) Compare(b Fraction) int {
	if a.Sign() != b.Sign() {
		if a.Sign() < b.Sign() {
			return -1
		}
		return 1
	}
	left, right := a.numerator, b.numerator
	if a.denominator != nil || b.denominator != nil {
		left, right = left.times(b.below()), right.times(a.below())
	}
	order := left.compare(right)
	if a.negative {
		return -order
	}
	return order
}

// Floor returns the greatest whole number that is at most a.
func (a Fraction) Floor() Fraction {
	if a.denominator == nil {
		return a
	}
	quotient, _ := a.numerator.divide(a.denominator)
	if a.negative {
		quotient = quotient.plus(natural{1}) // there is a rest: a is not whole
	}
	return fraction(a.negative, quotient, nil)
}

// unit returns 1 / 2^bits.
func unit(bits int) Fraction { return fraction(false, natural{1}, natural{1}.shifted(bits)) }

// Down returns the greatest multiple of 1 / 2^bits that is at most a.
func (a Fraction) Down(bits int) Fraction {
	return a.Over(unit(bits)).Floor().Times(unit(bits))
}

// Up returns the least multiple of 1 / 2^bits that is at least a.
func (a Fraction) Up(bits int) Fraction {
	return a.Negative().Down(bits).Negative()
}

// Nearest returns the nearest multiple of 1 / 2^bits, of two the greater one.
func (a Fraction) Nearest(bits int) Fraction {
	return a.Plus(unit(bits + 1)).Down(bits)
}

// Fits reports whether the numerator and the denominator have at most this many digits each.
func (a Fraction) Fits(digits int) bool {
	return a.numerator.fits(digits) && a.below().fits(digits)
}

// String returns the numerator, and, if the denominator is not 1, a slash and the denominator.
func (a Fraction) String() string {
	text := a.numerator.String()
	if a.negative {
		text = "-" + text
	}
	if a.denominator != nil {
		text += "/" + a.denominator.String()
	}
	return text
}
