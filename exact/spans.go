package exact

import (
	"integraph/api"
	"integraph/limits"
	"integraph/number"
)

// CheckSpan returns the first error of a span, or OK.
func CheckSpan(s api.Span) api.Errno {
	_, e := limits.ReadSpan(s)
	return e
}

// Outward returns the least span with ends on a grid that contains a span.
func Outward(s api.Span, bits int) (api.Span, api.Errno) {
	x, e := limits.ReadSpan(s)
	if e != api.OK {
		return api.Span{}, e
	}
	if !isGrid(bits) {
		return api.Span{}, api.ErrRange
	}
	return limits.WriteSpan(x.Outward(bits))
}

// AddSpans returns the span of the sums.
func AddSpans(a, b api.Span) (api.Span, api.Errno) { return combineSpans(a, b, number.Span.Plus) }

// SubSpans returns the span of the differences.
func SubSpans(a, b api.Span) (api.Span, api.Errno) { return combineSpans(a, b, number.Span.Minus) }

// MulSpans returns the span of the products.
func MulSpans(a, b api.Span) (api.Span, api.Errno) { return combineSpans(a, b, number.Span.Times) }

// combineSpans returns the result of an operation.
func combineSpans(a, b api.Span, operation func(x, y number.Span) number.Span) (api.Span, api.Errno) {
	x, y, e := limits.Two(a, b, limits.ReadSpan)
	if e != api.OK {
		return api.Span{}, e
	}
	return limits.WriteSpan(operation(x, y))
}

// PowerSpan returns the span of the powers.
func PowerSpan(s api.Span, n int) (api.Span, api.Errno) {
	x, e := limits.ReadSpan(s)
	if e != api.OK {
		return api.Span{}, e
	}
	if n < 0 || n > api.MaxPower {
		return api.Span{}, api.ErrRange
	}
	return limits.WriteSpan(x.Power(n))
}

// Hull returns the least span that contains all spans of a list.
func Hull(l []api.Span) (api.Span, api.Errno) {
	if len(l) == 0 {
		return api.Span{}, api.ErrShape
	}
	if len(l) > api.MaxList {
		return api.Span{}, api.ErrMany
	}
	spans, e := limits.All(l, limits.ReadSpan)
	if e != api.OK {
		return api.Span{}, e
	}
	hull := spans[0]
	for _, s := range spans[1:] {
		hull = hull.Hull(s)
	}
	return limits.WriteSpan(hull)
}

// Within reports whether a span is a part of another one.
func Within(a, b api.Span) (bool, api.Errno) {
	x, y, e := limits.Two(a, b, limits.ReadSpan)
	if e != api.OK {
		return false, e
	}
	return x.Within(y), api.OK
}
