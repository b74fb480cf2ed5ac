package plan

import (
	"integraph/api"
	"integraph/limits"
	"integraph/number"
)

// builder makes a plan, unit by unit. A unit drives the shaft whose number is greater by 1 than its place.
type builder struct {
	kinds  []string
	units  []unit
	starts []number.Fraction // of the shafts
}

// newBuilder returns a builder of a plan that begins with integrators, which are not connected yet.
func newBuilder(starts []number.Fraction) builder {
	b := builder{starts: []number.Fraction{{}}}
	for _, start := range starts {
		b.add(integrator, start)
	}
	return b
}

// add adds a unit, and returns its shaft.
func (b *builder) add(kind string, start number.Fraction, feeds ...feed) int {
	shaft := len(b.starts)
	b.kinds, b.units = append(b.kinds, kind), append(b.units, unit{out: shaft, start: start, feeds: feeds})
	b.starts = append(b.starts, start)
	return shaft
}

// integrate connects the integrator of a shaft: it integrates over t.
func (b *builder) integrate(shaft int, integrand feed) {
	b.units[shaft-1].feeds = []feed{integrand, direct(0)}
}

// direct returns a feed with the ratio 1.
func direct(shaft int) feed { return feed{shaft, number.Whole(1)} }

// begin returns the sum of feeds at the beginning.
func (b *builder) begin(feeds []feed) number.Fraction {
	var sum number.Fraction
	for _, f := range feeds {
		sum = sum.Plus(f.ratio.Times(b.starts[f.shaft]))
	}
	return sum
}

// sum returns a feed with the value of the sum of feeds and of the constant with which it has a start: the only feed,
// if that is it, or one from an adder.
func (b *builder) sum(start number.Fraction, feeds []feed) feed {
	if len(feeds) == 1 && b.begin(feeds).Compare(start) == 0 {
		return feeds[0]
	}
	if len(feeds) == 0 { // a shaft that stands still
		feeds = []feed{direct(0), {0, number.Whole(-1)}}
	}
	for len(feeds) > api.MaxFeeds {
		first := feeds[:api.MaxFeeds]
		part := b.add(adder, b.begin(first), first...)
		feeds = append([]feed{direct(part)}, feeds[api.MaxFeeds:]...)
	}
	return direct(b.add(adder, start, feeds...))
}

// shaft returns a shaft with the value of a feed.
func (b *builder) shaft(f feed) int {
	if f.ratio.Compare(number.Whole(1)) == 0 {
		return f.shaft
	}
	return b.add(adder, b.begin([]feed{f}), f)
}

// write returns the plan with some outputs, or its first error.
func (b *builder) write(outputs []int) (api.Plan, api.Errno) {
	p := api.Plan{Shafts: len(b.starts), Outputs: outputs}
	for i, u := range b.units {
		written, e := u.write(b.kinds[i])
		if e != api.OK {
			return api.Plan{}, e
		}
		p.Units = append(p.Units, written)
	}
	return p, CheckPlan(p)
}

// write returns the texts of a unit, or ErrLarge.
func (u unit) write(kind string) (api.Unit, api.Errno) {
	start, e := limits.WriteRat(u.start)
	if e != api.OK {
		return api.Unit{}, e
	}
	feeds, e := limits.All(u.feeds, func(f feed) (api.Feed, api.Errno) {
		ratio, e := limits.WriteRat(f.ratio)
		return api.Feed{Shaft: f.shaft, Ratio: ratio}, e
	})
	if e != api.OK {
		return api.Unit{}, e
	}
	curve, e := limits.All(u.curve, limits.WriteRat)
	return api.Unit{Kind: kind, Feeds: feeds, Out: u.out, Start: start, Curve: curve}, e
}
