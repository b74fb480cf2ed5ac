package exact

import (
	"slices"

	"integraph/api"
	"integraph/limits"
	"integraph/polynomial"
)

// CheckPoly returns the first error of a polynomial in some variables, or OK.
func CheckPoly(p api.Poly, vars int) api.Errno {
	_, e := limits.ReadPoly(p, vars)
	return e
}

// Normal returns the polynomial that is the sum of terms.
func Normal(terms []api.Term, vars int) (api.Poly, api.Errno) {
	if e := limits.CheckVars(vars); e != api.OK {
		return nil, e
	}
	if len(terms) > api.MaxList {
		return nil, api.ErrMany
	}
	values, e := limits.All(terms, func(t api.Term) (polynomial.Term, api.Errno) { return limits.ReadTerm(t, vars) })
	if e != api.OK {
		return nil, e
	}
	return limits.WritePoly(slices.Values(polynomial.Collect(slices.Values(values))), vars)
}

// AddPoly returns the sum of two polynomials.
func AddPoly(a, b api.Poly, vars int) (api.Poly, api.Errno) {
	return combinePolys(a, b, vars, polynomial.Poly.Plus)
}

// MulPoly returns the product of two polynomials.
func MulPoly(a, b api.Poly, vars int) (api.Poly, api.Errno) {
	return combinePolys(a, b, vars, polynomial.Poly.Times)
}

// combinePolys returns the result of an operation.
func combinePolys(a, b api.Poly, vars int, operation func(p, q polynomial.Poly) polynomial.Poly) (api.Poly, api.Errno) {
	p, q, e := limits.Two(a, b, func(p api.Poly) (polynomial.Poly, api.Errno) { return limits.ReadPoly(p, vars) })
	if e != api.OK {
		return nil, e
	}
	return limits.WritePoly(slices.Values(operation(p, q)), vars)
}

// ScalePoly returns a number times a polynomial.
func ScalePoly(c api.Rat, p api.Poly, vars int) (api.Poly, api.Errno) {
	if e := limits.CheckVars(vars); e != api.OK {
		return nil, e
	}
	factor, e := limits.ReadRat(c)
	if e != api.OK {
		return nil, e
	}
	q, e := limits.ReadPoly(p, vars)
	if e != api.OK {
		return nil, e
	}
	return limits.WritePoly(slices.Values(q.Scaled(factor)), vars)
}

// DerivePoly returns the derivative with respect to a variable.
func DerivePoly(p api.Poly, vars, v int) (api.Poly, api.Errno) {
	q, e := limits.ReadPoly(p, vars)
	if e != api.OK {
		return nil, e
	}
	if v < 0 || v > vars {
		return nil, api.ErrUnknown
	}
	return limits.WritePoly(slices.Values(q.Derivative(v)), vars)
}

// Compose returns a polynomial in which the variables are replaced by polynomials.
func Compose(p api.Poly, vars int, with []api.Poly, newVars int) (api.Poly, api.Errno) {
	if e := limits.CheckVars(vars); e != api.OK {
		return nil, e
	}
	if e := limits.CheckVars(newVars); e != api.OK {
		return nil, e
	}
	q, e := limits.ReadPoly(p, vars)
	if e != api.OK {
		return nil, e
	}
	if len(with) != vars+1 {
		return nil, api.ErrShape
	}
	list, e := limits.ReadPolys(with, newVars)
	if e != api.OK {
		return nil, e
	}
	return limits.WritePoly(polynomial.Compose(q, list), newVars)
}

// EvalPoly returns the value of a polynomial at a point.
func EvalPoly(p api.Poly, point []api.Rat) (api.Rat, api.Errno) {
	q, values, e := readPlace(p, point, limits.ReadRat)
	if e != api.OK {
		return "", e
	}
	return limits.WriteRat(q.Value(values))
}

// EvalSpans returns a span of the values of a polynomial on a box.
func EvalSpans(p api.Poly, box []api.Span) (api.Span, api.Errno) {
	q, spans, e := readPlace(p, box, limits.ReadSpan)
	if e != api.OK {
		return api.Span{}, e
	}
	return limits.WriteSpan(q.Extension(spans))
}

// readPlace returns the values of a polynomial, and of the point or the box where it is evaluated, or the first error.
func readPlace[S, T any](p api.Poly, place []S, read func(S) (T, api.Errno)) (polynomial.Poly, []T, api.Errno) {
	if len(place) == 0 {
		return nil, nil, api.ErrShape
	}
	if len(place) > api.MaxVars+1 {
		return nil, nil, api.ErrMany
	}
	q, e := limits.ReadPoly(p, len(place)-1)
	if e != api.OK {
		return nil, nil, e
	}
	values, e := limits.All(place, read)
	return q, values, e
}
