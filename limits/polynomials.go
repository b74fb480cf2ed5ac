package limits

import (
	"iter"
	"slices"

	"integraph/api"
	"integraph/polynomial"
)

// CheckVars returns the error of a number of variables.
func CheckVars(vars int) api.Errno {
	if vars < 0 || vars > api.MaxVars {
		return api.ErrRange
	}
	return api.OK
}

// ReadTerm returns the value of a term in some variables, or its error; its factor may be 0.
func ReadTerm(t api.Term, vars int) (polynomial.Term, api.Errno) {
	var powers polynomial.Powers
	if len(t.Powers) != vars+1 {
		return polynomial.Term{}, api.ErrShape
	}
	if slices.Min(t.Powers) < 0 {
		return polynomial.Term{}, api.ErrRange
	}
	left := api.MaxPower
	for i, power := range t.Powers {
		if power > left { // the sum itself may be beyond the machine integers
			return polynomial.Term{}, api.ErrLarge
		}
		left -= power
		powers[i] = uint8(power)
	}
	factor, e := ReadRat(t.Factor)
	if e != api.OK {
		return polynomial.Term{}, e
	}
	return polynomial.Term{Powers: powers, Factor: factor}, api.OK
}

// ReadPoly returns the value of a polynomial in some variables, or its error.
func ReadPoly(p api.Poly, vars int) (polynomial.Poly, api.Errno) {
	if e := CheckVars(vars); e != api.OK {
		return nil, e
	}
	if len(p) > api.MaxTerms {
		return nil, api.ErrMany
	}
	var before *polynomial.Term
	return All(p, func(t api.Term) (polynomial.Term, api.Errno) {
		term, e := ReadTerm(t, vars)
		switch {
		case e != api.OK:
			return term, e
		case term.Factor.Sign() == 0:
			return term, api.ErrZero
		case before != nil && before.Powers.Compare(term.Powers) >= 0:
			return term, api.ErrOrder
		}
		before = &term
		return term, api.OK
	})
}

// ReadPolys returns the values of polynomials in some variables, or the error of the first one with one.
func ReadPolys(list []api.Poly, vars int) ([]polynomial.Poly, api.Errno) {
	return All(list, func(p api.Poly) (polynomial.Poly, api.Errno) { return ReadPoly(p, vars) })
}

// WritePoly returns the polynomial in some variables with these terms, which are in order, or its error.
// It stops at the first terms that show an error, so that the others need not be known.
func WritePoly(terms iter.Seq[polynomial.Term], vars int) (api.Poly, api.Errno) {
	var found polynomial.Poly
	for t := range terms {
		if t.Powers.Degree() > api.MaxPower {
			return nil, api.ErrLarge // no term behind the first one has a greater sum of powers
		}
		if len(found) == api.MaxTerms {
			return nil, api.ErrMany
		}
		found = append(found, t)
	}
	return All(found, func(t polynomial.Term) (api.Term, api.Errno) {
		factor, e := WriteRat(t.Factor)
		powers := make([]int, vars+1)
		for i := range powers {
			powers[i] = int(t.Powers[i])
		}
		return api.Term{Factor: factor, Powers: powers}, e
	})
}
