package generate

import (
	"integraph/api"
	"integraph/equation"
	"integraph/exact"
	"integraph/limits"
	"integraph/number"
)

const (
	mostOperand       = 16 // the greatest absolute value where an irrational value is enclosed
	mostOperandDigits = 9
	guardBits         = 16 // bits behind those of the grid with which the search for a span begins
)

// Enclose returns the least span of a grid that contains the value of a function.
func Enclose(function string, a api.Rat, bits int) (api.Span, api.Errno) {
	enclose, isKnown := enclosures()[function]
	if !isKnown && function != reciprocal { // all its values are rational
		return api.Span{}, api.ErrKind
	}
	x, err := limits.ReadRat(a)
	if err != api.OK {
		return api.Span{}, err
	}
	if bits < 0 || bits > api.MaxBits {
		return api.Span{}, api.ErrRange
	}
	value, err := rationalValue(function, a)
	if err == api.OK {
		return api.Span{Low: value, High: value}, api.OK
	}
	if err != api.ErrNone {
		return api.Span{}, err
	}
	if !number.Point(x).Within(around(number.Whole(mostOperand))) || !x.Fits(mostOperandDigits) {
		return api.Span{}, api.ErrLimit
	}
	return limits.WriteSpan(least(bits, func(precision int) number.Span { return enclose(x, precision) }))
}

// rationalValue returns the value of a function, if it is rational.
func rationalValue(function string, a api.Rat) (api.Rat, api.Errno) {
	switch function {
	case reciprocal:
		return exact.Div("1", a)
	case rsqrt:
		root, err := rationalValue("sqrt", a)
		if err != api.OK {
			return "", err
		}
		return exact.Div("1", root)
	}
	operand := api.Expr{Op: "name", Name: "x"}
	return equation.Value(api.Expr{Op: function, Args: []api.Expr{operand}}, []string{"x"}, []api.Rat{a})
}

// least returns the least span with ends on the grid that contains an irrational number, of which there is a span
// for each precision.
func least(bits int, enclosed func(precision int) number.Span) number.Span {
	step := unit(bits)
	for precision := bits + guardBits; ; precision *= 2 {
		s := enclosed(precision).Outward(bits)
		if s.Width().Compare(step) == 0 {
			return s
		}
	}
}

// unit returns 1 / 2^bits.
func unit(bits int) number.Fraction {
	return number.Whole(1).Over(number.Whole(2).Power(bits))
}

// joined returns the least span that contains all of some spans.
func joined(first number.Span, others ...number.Span) number.Span {
	for _, s := range others {
		first = first.Hull(s)
	}
	return first
}

// enclosures returns, for each function with irrational values, what encloses these: the more closely, the greater
// the precision is.
func enclosures() map[string]func(a number.Fraction, precision int) number.Span {
	return map[string]func(a number.Fraction, precision int) number.Span{
		"sin":  sine,
		"cos":  cosine,
		"tan":  tangent,
		"exp":  exponential,
		"log":  logarithm,
		"sqrt": root,
		rsqrt: func(a number.Fraction, precision int) number.Span {
			return root(number.Whole(1).Over(a), precision)
		},
	}
}

// sum encloses the sum of a series of numbers, each of which is the one before it times ratio(n), with n from 1 on.
// If a ratio is at most 1/2 in size, the later ones are, too: all numbers from there on are together at most twice as
// great as the first of them, and, rounded, they become at most twice as great as the unit of the precision.
func sum(first number.Fraction, precision int, ratio func(n int) number.Fraction) number.Span {
	half, small := around(unit(1)), around(unit(precision-2))
	term := number.Point(first).Outward(precision)
	total := term
	for n := 1; ; n++ {
		by := number.Point(ratio(n))
		term = term.Times(by).Outward(precision)
		if by.Within(half) && term.Within(small) {
			rest := term.Plus(term)
			return joined(total.Plus(rest), total.Minus(rest))
		}
		total = total.Plus(term)
	}
}

// around returns the span of the numbers that are at most a in size.
func around(a number.Fraction) number.Span {
	return number.Span{Low: a.Negative(), High: a}
}

func sine(a number.Fraction, precision int) number.Span {
	square := a.Times(a).Negative()
	return sum(a, precision, func(n int) number.Fraction { return square.Over(number.Whole(2 * n * (2*n + 1))) })
}

func cosine(a number.Fraction, precision int) number.Span {
	square := a.Times(a).Negative()
	return sum(number.Whole(1), precision, func(n int) number.Fraction { return square.Over(number.Whole(2 * n * (2*n - 1))) })
}

// tangent doubles the precision until it tells the cosine from 0.
func tangent(a number.Fraction, precision int) number.Span {
	for {
		below := cosine(a, precision)
		if below.Low.Sign() == below.High.Sign() {
			one := number.Whole(1)
			return sine(a, precision).Times(number.Span{Low: one.Over(below.High), High: one.Over(below.Low)})
		}
		precision *= 2
	}
}

func exponential(a number.Fraction, precision int) number.Span {
	return sum(number.Whole(1), precision, func(n int) number.Fraction { return a.Over(number.Whole(n)) })
}

// logarithm multiplies or divides by 2 until the number is from 2/3 to 4/3.
func logarithm(a number.Fraction, precision int) number.Span {
	one, two, three := number.Whole(1), number.Whole(2), number.Whole(3)
	doubled := 0
	for ; a.Times(three).Compare(two) < 0; doubled-- {
		a = a.Times(two)
	}
	for ; a.Times(three).Compare(number.Whole(4)) > 0; doubled++ {
		a = a.Over(two)
	}
	near := halfLogarithm(a.Minus(one).Over(a.Plus(one)), precision)
	ofTwo := halfLogarithm(one.Over(three), precision)
	half := near.Plus(ofTwo.Times(number.Point(number.Whole(doubled))))
	return half.Plus(half)
}

// halfLogarithm encloses half of the logarithm of (1 + z) / (1 - z), where z is at most 1/3 in size.
func halfLogarithm(z number.Fraction, precision int) number.Span {
	square := z.Times(z)
	return sum(z, precision, func(n int) number.Fraction {
		return square.Times(number.Whole(2*n - 1)).Over(number.Whole(2*n + 1))
	})
}

// root encloses the square root of a positive number.
func root(a number.Fraction, precision int) number.Span {
	low := a.RootDown(precision)
	return number.Span{Low: low, High: low.Plus(unit(precision))}
}
