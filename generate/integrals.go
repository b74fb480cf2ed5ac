package generate

import (
	"iter"
	"maps"
	"slices"

	"integraph/api"
	"integraph/limits"
	"integraph/number"
	"integraph/polynomial"
)

// Integrals returns a basis of the first integrals without t and without a constant term up to a degree.
func Integrals(s api.System, degree int) ([]api.Poly, api.Errno) {
	x, err := readSystem(s)
	if err != api.OK {
		return nil, err
	}
	if degree < 1 || degree > api.MaxPower {
		return nil, api.ErrRange
	}
	n := len(x.rates)
	list, isShort := upTo(api.MaxTerms, monomials(1, n, 1, degree))
	if !isShort {
		return nil, api.ErrLimit
	}
	// With the last monomial in the first column, the free ones among the columns are those of the first terms.
	slices.Reverse(list)
	form := echelon(x.conditions(list), len(list))
	var basis []polynomial.Poly
	for free := len(list) - 1; free >= 0; free-- {
		if form[free] == nil {
			basis = append(basis, solution(form, free, list))
		}
	}
	return limits.All(basis, func(p polynomial.Poly) (api.Poly, api.Errno) {
		return limits.WritePoly(slices.Values(p), n)
	})
}

// conditions visits the conditions for a sum of multiples of monomials to be a first integral: for each product of
// powers in a derivative of one of them, its factors in all of these.
func (x system) conditions(list []polynomial.Powers) iter.Seq[[]number.Fraction] {
	factors := map[polynomial.Powers]map[int]number.Fraction{}
	for i, powers := range list {
		for _, t := range polynomial.Single(number.Whole(1), powers).Along(x.rates) {
			if factors[t.Powers] == nil {
				factors[t.Powers] = map[int]number.Fraction{}
			}
			factors[t.Powers][i] = t.Factor
		}
	}
	return func(yield func([]number.Fraction) bool) {
		for _, powers := range slices.SortedFunc(maps.Keys(factors), polynomial.Powers.Compare) {
			row := make([]number.Fraction, len(list))
			for i, factor := range factors[powers] {
				row[i] = factor
			}
			if !yield(row) {
				return
			}
		}
	}
}

// solution returns the polynomial that satisfies conditions in echelon form, and in which the monomial of a free
// column has the factor 1, and those of the other free columns do not occur.
func solution(form [][]number.Fraction, free int, list []polynomial.Powers) polynomial.Poly {
	sum := polynomial.Sum{list[free]: number.Whole(1)}
	for pivot, row := range form {
		if row != nil {
			sum.Add(polynomial.Term{Powers: list[pivot], Factor: row[free].Negative()})
		}
	}
	return sum.Poly()
}

// element is a number with which one can compute.
type element[T any] interface {
	Minus(T) T
	Times(T) T
	Over(T) T
	Sign() int
}

// echelon returns the reduced echelon form of rows: for each column the row whose first number other than 0, which
// is 1, stands there, or nil if there is none.
func echelon[T element[T]](rows iter.Seq[[]T], columns int) [][]T {
	form := make([][]T, columns)
	rank := 0
	for row := range rows {
		for pivot, other := range form {
			if other != nil {
				subtract(row, other, row[pivot])
			}
		}
		pivot := slices.IndexFunc(row, func(a T) bool { return a.Sign() != 0 })
		if pivot < 0 {
			continue
		}
		first := row[pivot]
		for i := range row {
			row[i] = row[i].Over(first)
		}
		for _, other := range form {
			if other != nil {
				subtract(other, row, other[pivot])
			}
		}
		form[pivot] = row
		rank++
		if rank == columns {
			break
		}
	}
	return form
}

// subtract subtracts a multiple of another row from a row.
func subtract[T element[T]](row, other []T, factor T) {
	if factor.Sign() == 0 {
		return
	}
	for i, a := range other {
		if a.Sign() != 0 {
			row[i] = row[i].Minus(a.Times(factor))
		}
	}
}
