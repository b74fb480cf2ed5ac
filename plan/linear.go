package plan

import (
	"slices"

	"integraph/api"
	"integraph/number"
	"integraph/polynomial"
)

// IsRegular reports whether a plan is linear, and all integrators turn with t.
func IsRegular(p api.Plan) (bool, api.Errno) {
	x, e := readPlan(p)
	if e != api.OK {
		return false, e
	}
	return x.isRegular(), api.OK
}

// isRegular reports whether the plan has no tables, and its integrators integrate over t.
func (p plan) isRegular() bool {
	for _, u := range p.units {
		if len(u.curve) > 0 {
			return false
		}
	}
	return !slices.ContainsFunc(p.integrators, func(i int) bool { return p.units[i].feeds[1].shaft != 0 })
}

// LinearRank returns the least number of integrators of regular plans for variables of a linear system.
func LinearRank(s api.System, wanted []int) (int, api.Errno) {
	x, e := readWanted(s, wanted)
	if e != api.OK {
		return 0, e
	}
	l, e := x.linear()
	if e != api.OK {
		return 0, e
	}
	return len(l.need(wanted).basis), api.OK
}

// SameLinear reports whether a regular plan shows variables of a linear system.
func SameLinear(p api.Plan, s api.System, wanted []int) (bool, api.Errno) {
	x, e := readPlan(p)
	if e != api.OK {
		return false, e
	}
	y, e := readWanted(s, wanted)
	if e != api.OK {
		return false, e
	}
	if len(p.Outputs) != len(wanted) {
		return false, api.ErrShape
	}
	l, e := y.linear()
	if e != api.OK {
		return false, e
	}
	if !x.isRegular() {
		return false, api.ErrLinear
	}
	return newReading(x).shows(l, wanted), api.OK
}

// readWanted returns the value of a system, or the first error of it and of numbers of its variables.
func readWanted(s api.System, wanted []int) (system, api.Errno) {
	x, e := readSystem(s)
	if e != api.OK {
		return system{}, e
	}
	return x, checkWanted(wanted, len(x.rates))
}

// linear is a linear system with exact starts, or two beside each other. Rows have a column for each variable.
type linear struct {
	rates  []row[int] // of the factors of the variables in each rate
	starts row[int]   // of the variables at the beginning,
	first  row[int]   // of their derivatives there,
	second row[int]   // and of their second ones
}

// linear returns the value of a linear system with exact starts, or the error of one that is none.
func (x system) linear() (linear, api.Errno) {
	if !x.isExact {
		return linear{}, api.ErrState
	}
	for _, rate := range x.rates {
		if len(rate) > 0 && rate[0].Powers.Degree() > 1 {
			return linear{}, api.ErrLinear
		}
	}
	return newLinear(x.rates, x.starts), api.OK
}

// newLinear returns the linear system with some rates, in which sums of powers are at most 1, and starts.
func newLinear(rates []polynomial.Poly, starts []number.Fraction) linear {
	l := linear{starts: row[int]{}, first: row[int]{}, second: row[int]{}}
	for v, start := range starts {
		l.starts.set(v, start)
	}
	slopes := row[int]{}
	for v, rate := range rates {
		factors, slope, constant := split(rate)
		l.rates = append(l.rates, factors)
		l.first.set(v, factors.times(l.starts).Plus(constant))
		slopes.set(v, slope)
	}
	for v, factors := range l.rates {
		l.second.set(v, factors.times(l.first).Plus(slopes[v]))
	}
	return l
}

// split returns the factors of the variables in a polynomial in which sums of powers are at most 1, that of t, and the
// constant.
func split(p polynomial.Poly) (factors row[int], slope, constant number.Fraction) {
	factors = row[int]{}
	for _, t := range p {
		at := slices.Index(t.Powers[:], 1)
		switch {
		case at < 0:
			constant = t.Factor
		case at == 0:
			slope = t.Factor
		default:
			factors[at-1] = t.Factor
		}
	}
	return factors, slope, constant
}

// bends returns the space of the second and all higher derivatives of the variables at the beginning. A sum of
// multiples of the variables is a multiple of t and a constant, if it is 0 for all of these.
func (l linear) bends() space[int] {
	bends := space[int]{}
	for column := l.second; bends.include(column); {
		next := row[int]{}
		for v, factors := range l.rates {
			next.set(v, factors.times(column))
		}
		bends.reduce(next)
		column = next
	}
	return bends
}

// rate returns the factors of the variables in the derivative of a sum of multiples of them.
func (l linear) rate(function row[int]) row[int] {
	rate := row[int]{}
	for v, a := range function {
		rate.add(l.rates[v], a)
	}
	return rate
}

// need is what has to be integrated for the wanted variables of a linear system. Multiples of t and constants can be
// had without integrators: here functions that differ by them are the same.
type need struct {
	linear
	bends space[int] // its first entries are those of variables of which no sums of multiples are the same
	basis space[int] // of the wanted variables and all their derivatives, as sums of multiples of these variables
}

// need returns what has to be integrated for wanted variables.
func (l linear) need(wanted []int) need {
	n := need{l, l.bends(), space[int]{}}
	var functions []row[int]
	for _, v := range wanted {
		functions = append(functions, row[int]{v: number.Whole(1)})
	}
	for len(functions) > 0 {
		function := n.same(functions[0])
		functions = functions[1:]
		if n.basis.include(function) {
			functions = append(functions, l.rate(function))
		}
	}
	return n
}

// same returns the same function as a sum of multiples of the variables that have first entries in the bends.
func (n need) same(function row[int]) row[int] {
	same := row[int]{}
	for v, bend := range n.bends {
		same.set(v, function.times(bend))
	}
	return same
}

// shows reports whether the outputs of a regular plan are wanted variables of a linear system.
func (r reading) shows(l linear, wanted []int) bool {
	var rates []polynomial.Poly
	var starts []number.Fraction
	for i, place := range r.integrators {
		rates = append(rates, r.rate(i).Poly())
		starts = append(starts, r.units[place].start)
	}
	both, vars := l.beside(newLinear(rates, starts)), len(l.rates)
	bends := both.bends()
	for i, shaft := range r.outputs {
		factors, slope, _ := split(r.shaft(shaft).Poly())
		difference := shifted(factors, vars)
		difference.add(row[int]{wanted[i]: number.Whole(1)}, number.Whole(-1))
		if r.starts[shaft].Compare(l.starts[wanted[i]]) != 0 || difference.times(both.first).Plus(slope).Sign() != 0 {
			return false
		}
		for _, bend := range bends {
			if difference.times(bend).Sign() != 0 {
				return false
			}
		}
	}
	return true
}

// beside returns the linear system of the variables of l and then those of another one.
func (l linear) beside(other linear) linear {
	vars := len(l.rates)
	both := linear{rates: slices.Clone(l.rates), starts: shifted(l.starts, 0), first: shifted(l.first, 0), second: shifted(l.second, 0)}
	for _, factors := range other.rates {
		both.rates = append(both.rates, shifted(factors, vars))
	}
	one := number.Whole(1)
	both.starts.add(shifted(other.starts, vars), one)
	both.first.add(shifted(other.first, vars), one)
	both.second.add(shifted(other.second, vars), one)
	return both
}

// shifted returns a row with its entries in columns that are greater.
func shifted(r row[int], by int) row[int] {
	result := row[int]{}
	for column, a := range r {
		result[column+by] = a
	}
	return result
}
