package plan

import (
	"cmp"
	"iter"
	"slices"

	"integraph/api"
	"integraph/polynomial"
)

// mostFurther is the greatest number of monomials beside the targets of which all sets are gone through.
const mostFurther = 12

// Product is a product of two monomials, each given by its powers.
type Product struct {
	Of []int
	A  []int
	B  []int
}

// Products returns the products with which the rates are made with the least number of integrators, and this number.
func Products(s api.System) ([]Product, int, api.Errno) {
	x, e := readSystem(s)
	if e != api.OK {
		return nil, 0, e
	}
	best, e := x.bestStock()
	if e != api.OK {
		return nil, 0, e
	}
	vars := len(x.rates)
	var list []Product
	for _, p := range best.products {
		list = append(list, Product{listOf(p.of, vars), listOf(p.a, vars), listOf(p.b, vars)})
	}
	return list, best.cost, api.OK
}

// listOf returns the list of the powers of t and some variables.
func listOf(powers polynomial.Powers, vars int) []int {
	list := make([]int, vars+1)
	for v := range list {
		list[v] = int(powers[v])
	}
	return list
}

// compareMonomials returns a negative number if a is before b in the order of monomials, 0 if they are equal, and
// otherwise a positive number.
func compareMonomials(a, b polynomial.Powers) int {
	return cmp.Or(cmp.Compare(a.Degree(), b.Degree()), a.Compare(b))
}

// divisors visits the monomials that divide a monomial.
func divisors(of polynomial.Powers) iter.Seq[polynomial.Powers] {
	return func(yield func(polynomial.Powers) bool) {
		var divisor polynomial.Powers
		var visit func(v int) bool
		visit = func(v int) bool {
			if v == len(of) {
				return yield(divisor)
			}
			for power := range of[v] + 1 {
				divisor[v] = power
				if !visit(v + 1) {
					return false
				}
			}
			return true
		}
		visit(0)
	}
}

// product is a product of two monomials, of which a is not behind b.
type product struct {
	of, a, b polynomial.Powers
	needs    int // the set of the factors that have a sum of powers of at least 2
}

func (p product) isSquare() bool { return p.a == p.b }

// monomials are those among which the best stock is found, the targets and all that divide them, with sums of powers
// of at least 2, in their order. A set of them has a bit for each of its places.
type monomials struct {
	list    []polynomial.Powers
	places  map[string]int // by their keys
	targets int            // the set of the targets
	further []int          // the places of the others
}

// stock is a stock of monomials: their products, in the order of their places.
type stock struct {
	places   []int
	products []product
	cost     int
}

func (s *stock) add(place int, p product) {
	s.places, s.products = append(s.places, place), append(s.products, p)
	s.cost += 2
	if p.isSquare() {
		s.cost--
	}
}

// compare returns a negative number if a stock is better than another one, and otherwise a positive number.
func (s stock) compare(other stock) int {
	return cmp.Or(cmp.Compare(s.cost, other.cost), slices.Compare(s.places, other.places))
}

// bestStock returns the best stock.
func (x system) bestStock() (stock, api.Errno) {
	m, e := x.monomials()
	if e != api.OK {
		return stock{}, e
	}
	ways := make([][]product, len(m.list))
	for place, of := range m.list {
		ways[place] = m.ways(of)
	}
	var best *stock
sets:
	for choice := range 1 << len(m.further) {
		set := m.set(choice)
		var s stock
		for place := range m.list {
			if set>>place&1 == 0 {
				continue
			}
			first := slices.IndexFunc(ways[place], func(p product) bool { return p.needs&^set == 0 })
			if first < 0 {
				continue sets
			}
			s.add(place, ways[place][first])
		}
		if best == nil || s.compare(*best) < 0 {
			best = &s
		}
	}
	return *best, api.OK // all monomials together are a stock in any case
}

// set returns the set of the targets and of some of the others: those that have a bit in a choice.
func (m monomials) set(choice int) int {
	set := m.targets
	for i, place := range m.further {
		set |= (choice >> i & 1) << place
	}
	return set
}

// monomials returns the monomials among which the best stock is found.
func (x system) monomials() (monomials, api.Errno) {
	isTarget := map[string]bool{}
	m := monomials{places: map[string]int{}}
	for _, rate := range x.rates {
		for _, t := range rate {
			if k := key(t.Powers); t.Powers.Degree() >= 2 && !isTarget[k] {
				isTarget[k] = true
				m.list = append(m.list, t.Powers)
			}
		}
	}
	targets := len(m.list)
	if targets > api.MaxProducts {
		return m, api.ErrMany
	}
	isKnown := map[string]bool{}
	for _, target := range m.list[:targets] {
		for d := range divisors(target) {
			if k := key(d); d.Degree() >= 2 && !isTarget[k] && !isKnown[k] {
				isKnown[k] = true
				m.list = append(m.list, d)
			}
			if len(m.list) > targets+mostFurther {
				return m, api.ErrLimit
			}
		}
	}
	slices.SortFunc(m.list, compareMonomials)
	for place, powers := range m.list {
		m.places[key(powers)] = place
		if isTarget[key(powers)] {
			m.targets |= 1 << place
		} else {
			m.further = append(m.further, place)
		}
	}
	return m, api.OK
}

// ways returns the ways in which a monomial is a product: as a square first, if it is one, and then by a.
func (m monomials) ways(of polynomial.Powers) []product {
	var ways []product
	for a := range divisors(of) {
		b := of
		for v, power := range a {
			b[v] -= power
		}
		if a.Degree() == 0 || compareMonomials(a, b) > 0 {
			continue
		}
		ways = append(ways, product{of: of, a: a, b: b, needs: m.bit(a) | m.bit(b)})
	}
	slices.SortFunc(ways, func(p, q product) int {
		if p.isSquare() != q.isSquare() {
			if p.isSquare() {
				return -1
			}
			return 1
		}
		return compareMonomials(p.a, q.a)
	})
	return ways
}

// bit returns the set of a monomial alone, or the empty set if it is t or a variable.
func (m monomials) bit(powers polynomial.Powers) int {
	if powers.Degree() == 1 {
		return 0
	}
	return 1 << m.places[key(powers)]
}
