package generate

import (
	"iter"
	"slices"

	"integraph/api"
	"integraph/limits"
	"integraph/number"
	"integraph/polynomial"
)

const (
	mostQuestions = 40 // monomials in question
	mostChosen    = 3  // of them, together
)

// Degree returns the greatest degree of the rates of a system.
func Degree(s api.System) (int, api.Errno) {
	x, err := readSystem(s)
	if err != api.OK {
		return 0, err
	}
	return x.degree(), api.OK
}

// degree returns the greatest sum of powers in the rates.
func (x system) degree() int {
	degree := 0
	for _, rate := range x.rates {
		for _, t := range rate {
			degree = max(degree, t.Powers.Degree())
		}
	}
	return degree
}

// CheckQuadratic returns OK if monomials make a system quadratic.
func CheckQuadratic(s api.System, monomials []api.Poly) api.Errno {
	x, err := readSystem(s)
	if err != api.OK {
		return err
	}
	if len(monomials) > api.MaxProducts {
		return api.ErrMany
	}
	list := make([]polynomial.Powers, len(monomials))
	for i, p := range monomials {
		if list[i], err = readMonomial(p, len(x.rates)); err != api.OK {
			return err
		}
		if slices.Contains(list[:i], list[i]) {
			return api.ErrTwice
		}
	}
	if !isQuadratic(x.parts(list), list, len(x.rates)) {
		return api.ErrProof
	}
	return api.OK
}

// readMonomial returns the powers of a product of at least two of t and some variables, or the error of a polynomial
// that is none.
func readMonomial(p api.Poly, vars int) (polynomial.Powers, api.Errno) {
	q, err := limits.ReadPoly(p, vars)
	if err != api.OK {
		return polynomial.Powers{}, err
	}
	if len(q) != 1 || q[0].Factor.Compare(number.Whole(1)) != 0 || q[0].Powers.Degree() < 2 {
		return polynomial.Powers{}, api.ErrForm
	}
	return q[0].Powers, api.OK
}

// Quadratic returns as few monomials as possible that make a system quadratic.
func Quadratic(s api.System) ([]api.Poly, api.Errno) {
	x, err := readSystem(s)
	if err != api.OK {
		return nil, err
	}
	n := len(x.rates)
	questions, isShort := upTo(mostQuestions, monomials(0, n, 2, x.degree()))
	if !isShort {
		return nil, api.ErrLimit
	}
	parts := x.parts(questions)
	for size := range mostChosen + 1 {
		for numbers := range choices(len(questions), size) {
			some := slices.Clone(parts[:n])
			var list []polynomial.Powers
			for _, i := range numbers {
				some, list = append(some, parts[n+i]), append(list, questions[i])
			}
			if isQuadratic(some, list, n) {
				return limits.All(list, func(powers polynomial.Powers) (api.Poly, api.Errno) {
					return limits.WritePoly(slices.Values(polynomial.Single(number.Whole(1), powers)), n)
				})
			}
		}
	}
	return nil, api.ErrNone
}

// choices visits the lists of some of the numbers below n, in ascending order; they share memory.
func choices(n, size int) iter.Seq[[]int] {
	return func(yield func([]int) bool) {
		numbers := make([]int, 0, size)
		var choose func(from int) bool
		choose = func(from int) bool {
			if len(numbers) == size {
				return yield(numbers)
			}
			for i := from; i < n; i++ {
				numbers = append(numbers, i)
				if !choose(i + 1) {
					return false
				}
				numbers = numbers[:len(numbers)-1]
			}
			return true
		}
		choose(0)
	}
}

// parts returns the rates of the system, and then the derivatives along it of monomials.
func (x system) parts(list []polynomial.Powers) []polynomial.Poly {
	parts := slices.Clone(x.rates)
	for _, powers := range list {
		parts = append(parts, polynomial.Single(number.Whole(1), powers).Along(x.rates))
	}
	return parts
}

// isQuadratic reports whether each term of the parts is, apart from its factor, the product of at most two of t, the
// variables, of which there are vars, and the monomials.
func isQuadratic(parts []polynomial.Poly, monomials []polynomial.Powers, vars int) bool {
	factors := append([]polynomial.Powers{{}}, monomials...) // the product with 1 is that of less than two
	for v := range vars + 1 {
		factors = append(factors, polynomial.Raised(v, 1))
	}
	products := map[polynomial.Powers]bool{}
	for i, a := range factors {
		for _, b := range factors[i:] {
			products[a.Times(b)] = true
		}
	}
	for _, part := range parts {
		for _, t := range part {
			if !products[t.Powers] {
				return false
			}
		}
	}
	return true
}
