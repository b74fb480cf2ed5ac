package enclose

import (
	"math/big"
	"slices"

	"integraph/api"
)

// What follows computes what chapter 8 defines with the numbers of the library, as directly as it is written there: a
// series of a term is a product of series, one after another, each of them as a whole.

// wide is a span.
type wide [2]*big.Rat

func wideOf(s api.Span) wide { return wide{bigOf(s.Low), bigOf(s.High)} }

func (a wide) span() api.Span { return api.Span{Low: ratOf(a[0]), High: ratOf(a[1])} }

func point(a *big.Rat) wide { return wide{a, a} }

func whole(n int64) wide { return point(big.NewRat(n, 1)) }

func (a wide) plus(b wide) wide {
	return wide{new(big.Rat).Add(a[0], b[0]), new(big.Rat).Add(a[1], b[1])}
}

// hullOf returns the least span with some numbers.
func hullOf(list ...*big.Rat) wide {
	return wide{slices.MinFunc(list, (*big.Rat).Cmp), slices.MaxFunc(list, (*big.Rat).Cmp)}
}

func (a wide) times(b wide) wide {
	var corners []*big.Rat
	for _, x := range a {
		for _, y := range b {
			corners = append(corners, new(big.Rat).Mul(x, y))
		}
	}
	return hullOf(corners...)
}

// power returns the span of the powers, which is not that of the products.
func (a wide) power(n int) wide {
	result := whole(1)
	for range n {
		result = wide{new(big.Rat).Mul(result[0], a[0]), new(big.Rat).Mul(result[1], a[1])}
	}
	list := result[:]
	if n > 0 && a[0].Sign() < 0 && a[1].Sign() > 0 {
		list = append(list, new(big.Rat))
	}
	return hullOf(list...)
}

func (a wide) within(b wide) bool { return b[0].Cmp(a[0]) <= 0 && a[1].Cmp(b[1]) <= 0 }

func (a wide) width() *big.Rat { return new(big.Rat).Sub(a[1], a[0]) }

// floorAt returns the greatest multiple of 1 / 2^bits that is at most a.
func floorAt(a *big.Rat, bits int) *big.Rat {
	unit := new(big.Int).Lsh(big.NewInt(1), uint(bits))
	n := new(big.Int).Mul(a.Num(), unit)
	return new(big.Rat).SetFrac(n.Div(n, a.Denom()), unit) // Div rounds down for divisors above 0
}

func (a wide) outward(bits int) wide {
	high := floorAt(new(big.Rat).Neg(a[1]), bits)
	return wide{floorAt(a[0], bits), high.Neg(high)}
}

func (a wide) fits() bool {
	for _, x := range a {
		if len(new(big.Int).Abs(x.Num()).String()) > api.MaxDigits || len(x.Denom().String()) > api.MaxDigits {
			return false
		}
	}
	return true
}

func widesOf(box []api.Span) []wide {
	var list []wide
	for _, s := range box {
		list = append(list, wideOf(s))
	}
	return list
}

func spansOf(list []wide) []api.Span {
	var spans []api.Span
	for _, a := range list {
		spans = append(spans, a.span())
	}
	return spans
}

func outwards(list []wide, bits int) []wide {
	var rounded []wide
	for _, a := range list {
		rounded = append(rounded, a.outward(bits))
	}
	return rounded
}

func allWithin(a, b []wide) bool {
	for i := range a {
		if !a[i].within(b[i]) {
			return false
		}
	}
	return true
}

// extension returns the value of a polynomial on a span of t and a box.
func extension(p api.Poly, t wide, box []wide) wide {
	sum := whole(0)
	for _, a := range p {
		product := point(bigOf(a.Factor)).times(t.power(a.Powers[0]))
		for i, b := range box {
			product = product.times(b.power(a.Powers[i+1]))
		}
		sum = sum.plus(product)
	}
	return sum
}

// seriesOfProduct returns the product of two series.
func seriesOfProduct(a, b []wide) []wide {
	result := make([]wide, len(a))
	for k := range result {
		result[k] = whole(0)
		for j := 0; j <= k; j++ {
			result[k] = result[k].plus(a[j].times(b[k-j]))
		}
	}
	return result
}

// filled returns the series of an order with some first spans, and then 0.
func filled(order int, first ...wide) []wide {
	list := make([]wide, order+1)
	for k := range list {
		list[k] = whole(0)
		if k < len(first) {
			list[k] = first[k]
		}
	}
	return list
}

// seriesOfRate returns the series of a rate of an order, of which those of the variables are known.
func seriesOfRate(p api.Poly, t wide, variables [][]wide, order int) []wide {
	sum := filled(order)
	for _, a := range p {
		product := filled(order, point(bigOf(a.Factor)))
		for range a.Powers[0] {
			product = seriesOfProduct(product, filled(order, t, whole(1)))
		}
		for i, variable := range variables {
			for range a.Powers[i+1] {
				product = seriesOfProduct(product, variable[:order+1])
			}
		}
		for k := range sum {
			sum[k] = sum[k].plus(product[k])
		}
	}
	return sum
}

// seriesOf returns the Taylor series of a system.
func seriesOf(s api.System, t wide, box []wide, order int) [][]wide {
	variables := make([][]wide, len(box))
	for i, a := range box {
		variables[i] = []wide{a}
	}
	for k := range order {
		var next []wide
		for _, rate := range s.Rates {
			last := seriesOfRate(rate, t, variables, k)[k]
			next = append(next, last.times(point(big.NewRat(1, int64(k+1)))))
		}
		for i, a := range next {
			variables[i] = append(variables[i], a)
		}
	}
	return variables
}

// movedOf returns X[i] + H F[i], with the values F of the rates on a box.
func movedOf(s api.System, from, to *big.Rat, start, box []wide) []wide {
	h := wide{new(big.Rat), new(big.Rat).Sub(to, from)}
	var result []wide
	for i, rate := range s.Rates {
		result = append(result, start[i].plus(h.times(extension(rate, wide{from, to}, box))))
	}
	return result
}

// trialOf returns the trial box of a step, if there is one, and the number of the trial that found it.
func trialOf(s api.System, from, to *big.Rat, start []wide, bits int) ([]wide, int) {
	var v []wide
	for i, a := range movedOf(s, from, to, start, start) {
		v = append(v, hullOf(a[0], a[1], start[i][0], start[i][1]).outward(bits))
	}
	for trial := 1; trial <= 12; trial++ {
		if slices.ContainsFunc(v, func(a wide) bool { return !a.fits() }) {
			return nil, 0
		}
		n := movedOf(s, from, to, start, v)
		if allWithin(n, v) {
			return outwards(n, bits), trial
		}
		for i, a := range n {
			u := hullOf(a[0], a[1], v[i][0], v[i][1])
			more := u.width()
			more.Mul(more, big.NewRat(1, 4)).Add(more, new(big.Rat).SetFrac(big.NewInt(1), new(big.Int).Lsh(big.NewInt(1), uint(bits))))
			v[i] = wide{new(big.Rat).Sub(u[0], more), new(big.Rat).Add(u[1], more)}.outward(bits)
		}
	}
	return nil, 0
}

// taylorOf returns the Taylor box of a step.
func taylorOf(s api.System, from, to *big.Rat, start, box []wide, order int) []wide {
	near := seriesOf(s, point(from), start, order)
	far := seriesOf(s, wide{from, to}, box, order+1)
	h := point(new(big.Rat).Sub(to, from))
	var result []wide
	for i := range near {
		sum, power := whole(0), whole(1)
		for _, a := range near[i] {
			sum = sum.plus(a.times(power))
			power = power.times(h)
		}
		result = append(result, sum.plus(far[i][order+1].times(power)))
	}
	return result
}

// tubeOf returns the boxes of steps, and whether each of them has a trial box.
func tubeOf(s api.System, ends []api.Rat, order, bits int) ([]api.Box, bool) {
	var tube []api.Box
	from, start := new(big.Rat), widesOf(s.Start)
	for _, end := range ends {
		to := bigOf(end)
		box, trial := trialOf(s, from, to, start, bits)
		if trial == 0 {
			return nil, false
		}
		start = outwards(taylorOf(s, from, to, start, box, order), bits)
		from = to
		tube = append(tube, api.Box{End: end, Whole: spansOf(box), Last: spansOf(start)})
	}
	return tube, true
}

// isTube reports whether boxes, which have no errors, are a tube of an order.
func isTube(s api.System, tube []api.Box, order int) bool {
	from, start := new(big.Rat), widesOf(s.Start)
	for _, b := range tube {
		to, box, last := bigOf(b.End), widesOf(b.Whole), widesOf(b.Last)
		if !allWithin(movedOf(s, from, to, start, box), box) || !allWithin(taylorOf(s, from, to, start, box, order), last) {
			return false
		}
		from, start = to, last
	}
	return true
}
