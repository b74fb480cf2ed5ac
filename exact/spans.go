package exact

import (
	"integraph/api"
	"integraph/number"
)

// readSpan returns the value of a span, or its error.
func readSpan(s api.Span) (number.Span, api.Errno) {
	low, high, e := convertTwo(s.Low, s.High, read)
	if e != api.OK {
		return number.Span{}, e
	}
	if low.Compare(high) > 0 {
		return number.Span{}, api.ErrOrder
	}
	return number.Span{Low: low, High: high}, api.OK
}

// writeSpan returns the texts of a span, or ErrLarge.
func writeSpan(s number.Span) (api.Span, api.Errno) {
	low, e := write(s.Low)
	if e != api.OK {
		return api.Span{}, e
	}
	high, e := write(s.High)
	if e != api.OK {
		return api.Span{}, e
	}
	return api.Span{Low: low, High: high}, api.OK
}

// CheckSpan returns the first error of a span, or OK.
func CheckSpan(s api.Span) api.Errno {
	_, e := readSpan(s)
	return e
}

// Outward returns the least span with ends on a grid that contains a span.
func Outward(s api.Span, bits int) (api.Span, api.Errno) {
	x, e := readSpan(s)
	if e != api.OK {
		return api.Span{}, e
	}
	if !isGrid(bits) {
		return api.Span{}, api.ErrRange
	}
	return writeSpan(x.Outward(bits))
}

// AddSpans returns the span of the sums.
func AddSpans(a, b api.Span) (api.Span, api.Errno) { return combineSpans(a, b, number.Span.Plus) }

// SubSpans returns the span of the differences.
func SubSpans(a, b api.Span) (api.Span, api.Errno) { return combineSpans(a, b, number.Span.Minus) }

// MulSpans returns the span of the products.
func MulSpans(a, b api.Span) (api.Span, api.Errno) { return combineSpans(a, b, number.Span.Times) }

// combineSpans returns the result of an operation.
func combineSpans(a, b api.Span, operation func(x, y number.Span) number.Span) (api.Span, api.Errno) {
	x, y, e := convertTwo(a, b, readSpan)
	if e != api.OK {
		return api.Span{}, e
	}
	return writeSpan(operation(x, y))
}

// PowerSpan returns the span of the powers.
func PowerSpan(s api.Span, n int) (api.Span, api.Errno) {
	x, e := readSpan(s)
	if e != api.OK {
		return api.Span{}, e
	}
	if n < 0 || n > api.MaxPower {
		return api.Span{}, api.ErrRange
	}
	return writeSpan(x.Power(n))
}

// Hull returns the least span that contains all spans of a list.
func Hull(l []api.Span) (api.Span, api.Errno) {
	if len(l) == 0 {
		return api.Span{}, api.ErrShape
	}
	if len(l) > api.MaxList {
		return api.Span{}, api.ErrMany
	}
	spans, e := convertAll(l, readSpan)
	if e != api.OK {
		return api.Span{}, e
	}
	hull := spans[0]
	for _, s := range spans[1:] {
		hull = hull.Hull(s)
	}
	return writeSpan(hull)
}

// Within reports whether a span is a part of another one.
func Within(a, b api.Span) (bool, api.Errno) {
	x, y, e := convertTwo(a, b, readSpan)
	if e != api.OK {
		return false, e
	}
	return x.Within(y), api.OK
}
