package plan

import (
	"slices"

	"integraph/api"
	"integraph/limits"
	"integraph/number"
	"integraph/polynomial"
)

// A plan is surely found for rates with so many terms, and a best stock that costs so much.
const (
	sureTerms = 16
	sureCost  = 4
)

// Make returns a plan that computes a system, and its proof.
func Make(s api.System) (api.Plan, []api.Poly, api.Errno) {
	x, e := readSystem(s)
	if e != api.OK {
		return api.Plan{}, nil, e
	}
	if !x.isExact {
		return api.Plan{}, nil, api.ErrState
	}
	best, e := x.bestStock()
	if e != api.OK {
		return api.Plan{}, nil, e
	}
	vars := len(x.rates)
	if vars+best.cost > api.MaxVars {
		return api.Plan{}, nil, api.ErrMany
	}
	// Rates of integrators that make squares may have too many terms where those of the system do not: then tables
	// make them.
	for _, square := range [...]func(*maker, int, polynomial.Poly) int{(*maker).integrated, (*maker).tabulated} {
		p, proof, e := x.made(best, square)
		if e == api.OK && Verify(p, s, numbers(vars), proof) == api.OK {
			return p, proof, api.OK
		}
	}
	if x.terms() > sureTerms || best.cost > sureCost {
		return api.Plan{}, nil, api.ErrMany
	}
	return api.Plan{}, nil, api.ErrLarge
}

// terms returns the number of the terms of all rates.
func (x system) terms() int {
	terms := 0
	for _, rate := range x.rates {
		terms += len(rate)
	}
	return terms
}

// made returns a plan that computes the system with the products of a stock, and its proof.
func (x system) made(best stock, square func(*maker, int, polynomial.Poly) int) (api.Plan, []api.Poly, api.Errno) {
	m := maker{builder: newBuilder(x.starts), shafts: map[string]int{}}
	for v := range len(x.rates) + 1 {
		powers := polynomial.Raised(v, 1)
		m.shafts[key(powers)] = v
		if v > 0 {
			m.proof = append(m.proof, polynomial.Single(number.Whole(1), powers))
		}
	}
	for _, p := range best.products {
		m.multiply(p, func(shaft int, of polynomial.Poly) int { return square(&m, shaft, of) })
	}
	for i, rate := range x.rates {
		m.integrate(i+1, m.sum(rate.Value(x.begin()), m.feeds(rate)))
	}
	p, e := m.write(numbers(len(x.rates) + 1)[1:])
	if e != api.OK {
		return api.Plan{}, nil, e
	}
	proof, e := limits.All(m.proof, func(p polynomial.Poly) (api.Poly, api.Errno) {
		return limits.WritePoly(slices.Values(p), len(x.rates))
	})
	return p, proof, e
}

// maker makes a plan of a system.
type maker struct {
	builder
	shafts map[string]int    // of t, the variables and the monomials, by their keys
	proof  []polynomial.Poly // of the integrators so far
}

// multiply makes the shaft of a product: that of a square, or a quarter of the square of the sum of two factors, less
// that of their difference.
func (m *maker) multiply(p product, square func(shaft int, of polynomial.Poly) int) {
	one, quarter := number.Whole(1), number.Whole(1).Over(number.Whole(4))
	a, b := polynomial.Single(one, p.a), polynomial.Single(one, p.b)
	first, second := direct(m.shafts[key(p.a)]), direct(m.shafts[key(p.b)])
	if p.isSquare() {
		m.shafts[key(p.of)] = square(first.shaft, a)
		return
	}
	sum := square(m.total(first, second), a.Plus(b))
	opposite := feed{second.shaft, one.Negative()}
	difference := square(m.total(first, opposite), a.Plus(b.Scaled(opposite.ratio)))
	m.shafts[key(p.of)] = m.total(feed{sum, quarter}, feed{difference, quarter.Negative()})
}

// total returns the shaft of an adder without a constant.
func (m *maker) total(feeds ...feed) int { return m.add(adder, m.begin(feeds), feeds...) }

// integrated makes the square of a shaft, which has a polynomial u, by an integrator: the integral of 2 u over u.
func (m *maker) integrated(shaft int, u polynomial.Poly) int {
	m.proof = append(m.proof, u.Times(u))
	return m.add(integrator, m.starts[shaft].Power(2), feed{shaft, number.Whole(2)}, direct(shaft))
}

// tabulated makes the square of a shaft by a table; the integrator that it saves integrates t over t.
func (m *maker) tabulated(shaft int, _ polynomial.Poly) int {
	half := number.Whole(1).Over(number.Whole(2))
	m.proof = append(m.proof, polynomial.Single(half, polynomial.Raised(0, 2)))
	m.add(integrator, number.Whole(0), direct(0), direct(0))
	square := m.add(table, m.starts[shaft].Power(2), direct(shaft))
	m.units[square-1].curve = []number.Fraction{{}, {}, number.Whole(1)}
	return square
}

// feeds returns the feeds whose sum is a rate without its constant term.
func (m *maker) feeds(rate polynomial.Poly) []feed {
	var feeds []feed
	for _, t := range rate {
		if t.Powers.Degree() > 0 {
			feeds = append(feeds, feed{m.shafts[key(t.Powers)], t.Factor})
		}
	}
	return feeds
}
