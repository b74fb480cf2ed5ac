package plan

import (
	"strconv"

	"integraph/api"
	"integraph/limits"
	"integraph/number"
	"integraph/polynomial"
)

// Read returns the system of the integrators, and each shaft as a polynomial in it.
func Read(p api.Plan) (api.System, []api.Poly, api.Errno) {
	x, e := readPlan(p)
	if e != api.OK {
		return api.System{}, nil, e
	}
	shafts, rates, e := newReading(x).write()
	if e != api.OK {
		return api.System{}, nil, e
	}
	s := api.System{Rates: rates}
	for i, place := range x.integrators {
		start := p.Units[place].Start
		s.Names = append(s.Names, "z"+strconv.Itoa(i+1))
		s.Start = append(s.Start, api.Span{Low: start, High: start})
	}
	return s, shafts, api.OK
}

// reading has the polynomials of the shafts of a plan, and the rates of its integrators, that have been asked for.
//
// The position of a shaft is first of all a sum of multiples of powers of shafts: of the first ones of those that are
// variables, and of higher ones of those that feed tables. So powers that cancel each other are not expanded.
type reading struct {
	plan
	variables map[int]int                // the numbers of the variables that shafts are; that of the shaft 0 is 0
	sums      map[int]row[int]           // the positions of shafts
	powers    map[int]*polynomial.Stream // by their columns
	rates     map[int]*polynomial.Stream // of the integrators
}

// constant is the column of what all shafts have as their power 0.
const constant = 0

// column returns the column of a power of a shaft.
func column(shaft, power int) int { return shaft*(api.MaxPower+1) + power }

func newReading(p plan) reading {
	r := reading{p, map[int]int{0: 0}, map[int]row[int]{}, map[int]*polynomial.Stream{}, map[int]*polynomial.Stream{}}
	for i, place := range p.integrators {
		r.variables[p.units[place].out] = i + 1
	}
	return r
}

// write returns the polynomials of all shafts, and then of all rates, or the error of the first one that is too large.
func (r reading) write() ([]api.Poly, []api.Poly, api.Errno) {
	vars := len(r.integrators)
	shafts, e := limits.All(numbers(len(r.drivers)), func(shaft int) (api.Poly, api.Errno) {
		return limits.WritePoly(r.shaft(shaft).Terms(), vars)
	})
	if e != api.OK {
		return nil, nil, e
	}
	rates, e := limits.All(numbers(vars), func(i int) (api.Poly, api.Errno) {
		return limits.WritePoly(r.rate(i).Terms(), vars)
	})
	if e != api.OK {
		return nil, nil, e
	}
	return shafts, rates, api.OK
}

// shaft returns the polynomial of a shaft.
func (r reading) shaft(shaft int) *polynomial.Stream { return r.power(shaft, 1) }

// power returns the polynomial of a power of a shaft.
func (r reading) power(shaft, n int) *polynomial.Stream {
	at := column(shaft, n)
	if p, ok := r.powers[at]; ok {
		return p
	}
	var p *polynomial.Stream
	switch n {
	case 0:
		p = polynomial.Known(polynomial.Single(number.Whole(1), polynomial.Powers{}))
	case 1:
		p = r.expanded(shaft)
	default:
		p = times(r.shaft(shaft), r.power(shaft, n-1), beyond(shaft, n))
	}
	r.powers[at] = p
	return p
}

// expanded returns a variable, or the sum of what the position of a shaft consists of.
func (r reading) expanded(shaft int) *polynomial.Stream {
	if v, ok := r.variables[shaft]; ok {
		return variable(v)
	}
	var factors []number.Fraction
	var of []*polynomial.Stream
	for at, factor := range r.position(shaft) {
		factors, of = append(factors, factor), append(of, r.power(at/(api.MaxPower+1), at%(api.MaxPower+1)))
	}
	return polynomial.Combination(factors, of)
}

// position returns the position of a shaft.
func (r reading) position(shaft int) row[int] {
	if sum, ok := r.sums[shaft]; ok {
		return sum
	}
	sum := row[int]{column(0, 1): number.Whole(1)}
	if shaft != 0 {
		u := r.units[r.drivers[shaft]]
		sum = u.position(r, u)
	}
	r.sums[shaft] = sum
	return sum
}

// integral returns the position of the shaft of an integrator.
func (r reading) integral(u unit) row[int] { return row[int]{column(u.out, 1): number.Whole(1)} }

// sum returns the position of the shaft of an adder.
func (r reading) sum(u unit) row[int] {
	rest, sum := u.start, row[int]{}
	for _, f := range u.feeds {
		rest = rest.Minus(r.startOf(f))
		sum.add(r.position(f.shaft), f.ratio)
	}
	sum.add(row[int]{constant: number.Whole(1)}, rest)
	return sum
}

// shown returns the position of the shaft of a table.
func (r reading) shown(u unit) row[int] {
	f, one := u.feeds[0], number.Whole(1)
	sum := row[int]{}
	for n, c := range u.curve {
		factor := c.Times(f.ratio.Power(n))
		switch n {
		case 0:
			sum.add(row[int]{constant: one}, factor)
		case 1:
			sum.add(r.position(f.shaft), factor)
		default:
			sum.add(row[int]{column(f.shaft, n): one}, factor)
		}
	}
	return sum
}

// rate returns the rate of an integrator, whose second feed has a polynomial that is not too large.
func (r reading) rate(i int) *polynomial.Stream {
	if p, ok := r.rates[i]; ok {
		return p
	}
	u := r.units[r.integrators[i]]
	integrand, over := u.feeds[0], u.feeds[1]
	value := r.shaft(over.shaft).Poly()
	factors := []number.Fraction{over.ratio}
	of := []*polynomial.Stream{polynomial.Known(value.Derivative(0))}
	for j := range r.integrators {
		if by := value.Derivative(j + 1); len(by) > 0 { // otherwise the rate of j may be made of this one
			factors = append(factors, over.ratio)
			of = append(of, times(polynomial.Known(by), r.rate(j), beyond(api.MaxShafts+i, j+1)))
		}
	}
	scaled := polynomial.Combination([]number.Fraction{integrand.ratio}, []*polynomial.Stream{r.shaft(integrand.shaft)})
	p := times(scaled, polynomial.Combination(factors, of), beyond(api.MaxShafts+i, 0))
	r.rates[i] = p
	return p
}

// times returns the product of polynomials, or what is given for one with powers that cannot be told.
func times(p, q, beyond *polynomial.Stream) *polynomial.Stream {
	if p.Degree()+q.Degree() > polynomial.MostDegree {
		return beyond
	}
	return polynomial.Product(p, q)
}

// beyond returns what stands for a polynomial with powers that cannot be told. It is too large in any case, and so is
// what is made of it; each pair of numbers has another one, so that they do not cancel each other.
func beyond(a, b int) *polynomial.Stream {
	powers := polynomial.Raised(0, polynomial.MostDegree-a-b)
	powers[1], powers[2] = uint8(a), uint8(b)
	return polynomial.Known(polynomial.Single(number.Whole(1), powers))
}

// variable returns the polynomial that is a variable; 0 is t.
func variable(v int) *polynomial.Stream {
	return polynomial.Known(polynomial.Single(number.Whole(1), polynomial.Raised(v, 1)))
}
