// Package limits reads numbers, spans and polynomials of package api, which are texts and lists within limits, into
// those of packages number and polynomial, which have none, and writes these back. Package exact says which of them
// are well-formed, and with which errors: see shared/doc/01-exact.md.
package limits

import (
	"strconv"
	"strings"

	"integraph/api"
	"integraph/number"
)

// All converts the elements of a list, or returns the error of the first one with one.
func All[S, T any](list []S, convert func(S) (T, api.Errno)) ([]T, api.Errno) {
	results := make([]T, len(list))
	for i, element := range list {
		result, e := convert(element)
		if e != api.OK {
			return nil, e
		}
		results[i] = result
	}
	return results, api.OK
}

// Two converts two arguments, or returns the error of the first one with one.
func Two[S, T any](a, b S, convert func(S) (T, api.Errno)) (T, T, api.Errno) {
	results, e := All([]S{a, b}, convert)
	if e != api.OK {
		var none T
		return none, none, e
	}
	return results[0], results[1], api.OK
}

// ReadRat returns the value of a number, or its error.
func ReadRat(a api.Rat) (number.Fraction, api.Errno) {
	size, negative := strings.CutPrefix(string(a), "-")
	num, den, isQuotient := strings.Cut(size, "/")
	if !isQuotient {
		den = "1"
	}
	if !isWhole(num) || !isWhole(den) || negative && num == "0" || isQuotient && (den == "0" || den == "1") {
		return number.Fraction{}, api.ErrForm
	}
	if len(num) > api.MaxDigits || len(den) > api.MaxDigits {
		return number.Fraction{}, api.ErrLarge
	}
	value, lowest := number.Quotient(num, den)
	if !lowest {
		return number.Fraction{}, api.ErrForm
	}
	if negative {
		value = value.Negative()
	}
	return value, api.OK
}

// ReadPositive returns the value of a number above 0, or its error.
func ReadPositive(a api.Rat) (number.Fraction, api.Errno) {
	x, e := ReadRat(a)
	if e != api.OK {
		return number.Fraction{}, e
	}
	if x.Sign() <= 0 {
		return number.Fraction{}, api.ErrRange
	}
	return x, api.OK
}

// ReadInteger returns the value of an integer in a line of words, which is at most MaxNumber, or ErrSyntax.
func ReadInteger(word string) (int, api.Errno) {
	n, err := strconv.Atoi(word)
	if !isWhole(word) || err != nil || n > api.MaxNumber {
		return 0, api.ErrSyntax
	}
	return n, api.OK
}

// isWhole reports whether a text has decimal digits without zeros in front.
func isWhole(s string) bool {
	return AreDigits(s) && (s == "0" || s[0] != '0')
}

// AreDigits reports whether a text consists of one or more decimal digits.
func AreDigits(s string) bool {
	for i := range len(s) {
		if s[i] < '0' || s[i] > '9' {
			return false
		}
	}
	return s != ""
}

// WriteRat returns the text of a number, or ErrLarge.
func WriteRat(a number.Fraction) (api.Rat, api.Errno) {
	if !a.Fits(api.MaxDigits) {
		return "", api.ErrLarge
	}
	return api.Rat(a.String()), api.OK
}

// ReadSpan returns the value of a span, or its error.
func ReadSpan(s api.Span) (number.Span, api.Errno) {
	low, high, e := Two(s.Low, s.High, ReadRat)
	if e != api.OK {
		return number.Span{}, e
	}
	if low.Compare(high) > 0 {
		return number.Span{}, api.ErrOrder
	}
	return number.Span{Low: low, High: high}, api.OK
}

// WriteSpan returns the texts of a span, or ErrLarge.
func WriteSpan(s number.Span) (api.Span, api.Errno) {
	low, high, e := Two(s.Low, s.High, WriteRat)
	if e != api.OK {
		return api.Span{}, e
	}
	return api.Span{Low: low, High: high}, api.OK
}
