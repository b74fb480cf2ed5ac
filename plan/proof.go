package plan

import (
	"iter"

	"integraph/api"
	"integraph/generate"
	"integraph/limits"
	"integraph/number"
	"integraph/polynomial"
)

// system is a system with polynomials and numbers that have no limits.
type system struct {
	rates   []polynomial.Poly
	starts  []number.Fraction // the least numbers, if they are not exact
	isExact bool
}

// readSystem returns the value of a system, or its first error.
func readSystem(s api.System) (system, api.Errno) {
	if e := generate.CheckSystem(s); e != api.OK {
		return system{}, e
	}
	rates, e := limits.ReadPolys(s.Rates, len(s.Names))
	if e != api.OK {
		return system{}, e
	}
	spans, e := limits.All(s.Start, limits.ReadSpan)
	if e != api.OK {
		return system{}, e
	}
	x := system{rates: rates, isExact: true}
	for _, span := range spans {
		x.starts = append(x.starts, span.Low)
		x.isExact = x.isExact && span.Low.Compare(span.High) == 0
	}
	return x, api.OK
}

// begin returns the point at which the system begins: 0 for t, and the starts.
func (x system) begin() []number.Fraction { return append([]number.Fraction{{}}, x.starts...) }

// checkWanted returns the error of a list of numbers of n variables, or OK.
func checkWanted(wanted []int, n int) api.Errno {
	if len(wanted) == 0 {
		return api.ErrEmpty
	}
	if len(wanted) > api.MaxVars {
		return api.ErrMany
	}
	for _, v := range wanted {
		if v < 0 || v >= n {
			return api.ErrUnknown
		}
	}
	return api.OK
}

// Verify returns OK if a proof shows that a plan computes variables of a system.
func Verify(p api.Plan, s api.System, wanted []int, proof []api.Poly) api.Errno {
	x, e := readPlan(p)
	if e != api.OK {
		return e
	}
	y, e := readSystem(s)
	if e != api.OK {
		return e
	}
	if e := checkWanted(wanted, len(y.rates)); e != api.OK {
		return e
	}
	if len(proof) != len(x.integrators) {
		return api.ErrShape
	}
	polys, e := limits.ReadPolys(proof, len(y.rates))
	if e != api.OK {
		return e
	}
	if len(p.Outputs) != len(wanted) {
		return api.ErrShape
	}
	if !y.isExact {
		return api.ErrState
	}
	r := newReading(x)
	if _, _, e := r.write(); e != api.OK {
		return e
	}
	if !r.isProved(y, wanted, polys) {
		return api.ErrProof
	}
	return api.OK
}

// isProved reports whether polynomials prove that the outputs are wanted variables of a system.
func (r reading) isProved(y system, wanted []int, proof []polynomial.Poly) bool {
	with := append([]polynomial.Poly{variable(0).Poly()}, proof...)
	// The limits of what is read keep all powers of a composition within those that can be told.
	is := func(p *polynomial.Stream, inPlace polynomial.Poly) bool {
		return areSame(polynomial.Compose(p.Poly(), with), inPlace)
	}
	begin := y.begin()
	for i, p := range proof {
		start := r.units[r.integrators[i]].start
		if p.Value(begin).Compare(start) != 0 || !is(r.rate(i), p.Along(y.rates)) {
			return false
		}
	}
	for i, shaft := range r.outputs {
		if !is(r.shaft(shaft), variable(wanted[i]+1).Poly()) {
			return false
		}
	}
	return true
}

// areSame reports whether terms, which are in order, are those of p; it stops at the first one that is not.
func areSame(terms iter.Seq[polynomial.Term], p polynomial.Poly) bool {
	n := 0
	for t := range terms {
		if n == len(p) || t.Powers != p[n].Powers || t.Factor.Compare(p[n].Factor) != 0 {
			return false
		}
		n++
	}
	return n == len(p)
}
