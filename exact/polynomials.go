package exact

import (
	"iter"
	"slices"

	"integraph/api"
	"integraph/polynomial"
)

// checkVars returns the error of a number of variables.
func checkVars(vars int) api.Errno {
	if vars < 0 || vars > api.MaxVars {
		return api.ErrRange
	}
	return api.OK
}

// readTerm returns the value of a term in some variables, or its error; its factor may be 0.
func readTerm(t api.Term, vars int) (polynomial.Term, api.Errno) {
	var powers polynomial.Powers
	if len(t.Powers) != vars+1 {
		return polynomial.Term{}, api.ErrShape
	}
	if slices.Min(t.Powers) < 0 {
		return polynomial.Term{}, api.ErrRange
	}
	left := api.MaxPower
	for i, power := range t.Powers {
		if power > left { // the sum itself may be beyond the machine integers
			return polynomial.Term{}, api.ErrLarge
		}
		left -= power
		powers[i] = uint8(power)
	}
	factor, e := read(t.Factor)
	if e != api.OK {
		return polynomial.Term{}, e
	}
	return polynomial.Term{Powers: powers, Factor: factor}, api.OK
}

// readPoly returns the value of a polynomial in some variables, or its error.
func readPoly(p api.Poly, vars int) (polynomial.Poly, api.Errno) {
	if e := checkVars(vars); e != api.OK {
		return nil, e
	}
	if len(p) > api.MaxTerms {
		return nil, api.ErrMany
	}
	var before *polynomial.Term
	return convertAll(p, func(t api.Term) (polynomial.Term, api.Errno) {
		term, e := readTerm(t, vars)
		switch {
		case e != api.OK:
			return term, e
		case term.Factor.Sign() == 0:
			return term, api.ErrZero
		case before != nil && before.Powers.Compare(term.Powers) >= 0:
			return term, api.ErrOrder
		}
		before = &term
		return term, api.OK
	})
}

// writePoly returns the polynomial in some variables with these terms, which are in order, or its error.
// It stops at the first terms that show an error, so that the others need not be known.
func writePoly(terms iter.Seq[polynomial.Term], vars int) (api.Poly, api.Errno) {
	var found polynomial.Poly
	for t := range terms {
		if t.Powers.Degree() > api.MaxPower {
			return nil, api.ErrLarge // no term behind the first one has a greater sum of powers
		}
		if len(found) == api.MaxTerms {
			return nil, api.ErrMany
		}
		found = append(found, t)
	}
	return convertAll(found, func(t polynomial.Term) (api.Term, api.Errno) {
		factor, e := write(t.Factor)
		powers := make([]int, vars+1)
		for i := range powers {
			powers[i] = int(t.Powers[i])
		}
		return api.Term{Factor: factor, Powers: powers}, e
	})
}

// CheckPoly returns the first error of a polynomial in some variables, or OK.
func CheckPoly(p api.Poly, vars int) api.Errno {
	_, e := readPoly(p, vars)
	return e
}

// Normal returns the polynomial that is the sum of terms.
func Normal(terms []api.Term, vars int) (api.Poly, api.Errno) {
	if e := checkVars(vars); e != api.OK {
		return nil, e
	}
	if len(terms) > api.MaxList {
		return nil, api.ErrMany
	}
	values, e := convertAll(terms, func(t api.Term) (polynomial.Term, api.Errno) { return readTerm(t, vars) })
	if e != api.OK {
		return nil, e
	}
	return writePoly(slices.Values(polynomial.Collect(slices.Values(values))), vars)
}

// AddPoly returns the sum of two polynomials.
func AddPoly(a, b api.Poly, vars int) (api.Poly, api.Errno) {
	return combinePolys(a, b, vars, polynomial.Poly.Plus)
}

// MulPoly returns the product of two polynomials.
func MulPoly(a, b api.Poly, vars int) (api.Poly, api.Errno) {
	return combinePolys(a, b, vars, polynomial.Poly.Times)
}

// combinePolys returns the result of an operation.
func combinePolys(a, b api.Poly, vars int, operation func(p, q polynomial.Poly) polynomial.Poly) (api.Poly, api.Errno) {
	p, q, e := convertTwo(a, b, func(p api.Poly) (polynomial.Poly, api.Errno) { return readPoly(p, vars) })
	if e != api.OK {
		return nil, e
	}
	return writePoly(slices.Values(operation(p, q)), vars)
}

// ScalePoly returns a number times a polynomial.
func ScalePoly(c api.Rat, p api.Poly, vars int) (api.Poly, api.Errno) {
	if e := checkVars(vars); e != api.OK {
		return nil, e
	}
	factor, e := read(c)
	if e != api.OK {
		return nil, e
	}
	q, e := readPoly(p, vars)
	if e != api.OK {
		return nil, e
	}
	return writePoly(slices.Values(q.Scaled(factor)), vars)
}

// DerivePoly returns the derivative with respect to a variable.
func DerivePoly(p api.Poly, vars, v int) (api.Poly, api.Errno) {
	q, e := readPoly(p, vars)
	if e != api.OK {
		return nil, e
	}
	if v < 0 || v > vars {
		return nil, api.ErrUnknown
	}
	return writePoly(slices.Values(q.Derivative(v)), vars)
}

// Compose returns a polynomial in which the variables are replaced by polynomials.
func Compose(p api.Poly, vars int, with []api.Poly, newVars int) (api.Poly, api.Errno) {
	if e := checkVars(vars); e != api.OK {
		return nil, e
	}
	if e := checkVars(newVars); e != api.OK {
		return nil, e
	}
	q, e := readPoly(p, vars)
	if e != api.OK {
		return nil, e
	}
	if len(with) != vars+1 {
		return nil, api.ErrShape
	}
	list, e := convertAll(with, func(p api.Poly) (polynomial.Poly, api.Errno) { return readPoly(p, newVars) })
	if e != api.OK {
		return nil, e
	}
	return writePoly(polynomial.Compose(q, list), newVars)
}

// EvalPoly returns the value of a polynomial at a point.
func EvalPoly(p api.Poly, point []api.Rat) (api.Rat, api.Errno) {
	q, values, e := readPlace(p, point, read)
	if e != api.OK {
		return "", e
	}
	return write(q.Value(values))
}

// EvalSpans returns a span of the values of a polynomial on a box.
func EvalSpans(p api.Poly, box []api.Span) (api.Span, api.Errno) {
	q, spans, e := readPlace(p, box, readSpan)
	if e != api.OK {
		return api.Span{}, e
	}
	return writeSpan(q.Extension(spans))
}

// readPlace returns the values of a polynomial, and of the point or the box where it is evaluated, or the first error.
func readPlace[S, T any](p api.Poly, place []S, read func(S) (T, api.Errno)) (polynomial.Poly, []T, api.Errno) {
	if len(place) == 0 {
		return nil, nil, api.ErrShape
	}
	if len(place) > api.MaxVars+1 {
		return nil, nil, api.ErrMany
	}
	q, e := readPoly(p, len(place)-1)
	if e != api.OK {
		return nil, nil, e
	}
	values, e := convertAll(place, read)
	return q, values, e
}
