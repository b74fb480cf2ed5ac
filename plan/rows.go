package plan

import (
	"cmp"
	"maps"
	"slices"
	"strings"

	"integraph/api"
	"integraph/number"
	"integraph/polynomial"
)

// row is a row of a matrix: its entries that are not 0, by their columns.
type row[C cmp.Ordered] map[C]number.Fraction

// add adds a multiple of another row.
func (r row[C]) add(other row[C], factor number.Fraction) {
	if factor.Sign() == 0 {
		return
	}
	for column, a := range other {
		sum := r[column].Plus(a.Times(factor))
		if sum.Sign() == 0 {
			delete(r, column)
		} else {
			r[column] = sum
		}
	}
}

// set puts a number that is not 0 into a column without an entry.
func (r row[C]) set(column C, a number.Fraction) {
	if a.Sign() != 0 {
		r[column] = a
	}
}

// times returns the sum of the products of the entries in the same columns.
func (r row[C]) times(other row[C]) number.Fraction {
	var sum number.Fraction
	for column, a := range r {
		sum = sum.Plus(a.Times(other[column]))
	}
	return sum
}

// space is what some rows span, by the reduced echelon form: rows whose first entries, in the columns of their keys,
// are 1, and are the only entries in these columns.
type space[C cmp.Ordered] map[C]row[C]

// reduce subtracts rows of the space from a row until it has no entries in the columns of their first ones.
func (s space[C]) reduce(r row[C]) {
	for pivot, other := range s {
		r.add(other, r[pivot].Negative())
	}
}

// include makes a row a part of the space, and reports whether it was not one yet.
func (s space[C]) include(r row[C]) bool {
	rest := maps.Clone(r)
	s.reduce(rest)
	if len(rest) == 0 {
		return false
	}
	pivot := slices.Min(slices.Collect(maps.Keys(rest)))
	first := rest[pivot]
	for column, a := range rest {
		rest[column] = a.Over(first)
	}
	for _, other := range s {
		other.add(rest, other[pivot].Negative())
	}
	s[pivot] = rest
	return true
}

// pivots returns the columns of the first entries, in ascending order.
func (s space[C]) pivots() []C { return slices.Sorted(maps.Keys(s)) }

// Rank returns how many rates are independent.
func Rank(s api.System) (int, api.Errno) {
	x, e := readSystem(s)
	if e != api.OK {
		return 0, e
	}
	one := row[string]{key(polynomial.Powers{}): number.Whole(1)}
	spanned := space[string]{}
	spanned.include(one)
	for _, rate := range x.rates {
		r := row[string]{}
		for _, t := range rate {
			r[key(t.Powers)] = t.Factor
		}
		spanned.include(r)
	}
	return len(spanned) - 1, api.OK
}

// key returns a text with a rune for each power, which no other powers have.
func key(powers polynomial.Powers) string {
	var text strings.Builder
	for _, power := range powers {
		text.WriteRune('0' + rune(power))
	}
	return text.String()
}
