// Package exact is layer 1: see shared/doc/01-exact.md. It computes with rational numbers, spans and polynomials
// as texts and lists; between reading the arguments and writing the results nothing has a limit.
package exact

import (
	"strings"

	"integraph/api"
	"integraph/number"
)

// convertAll converts the elements of a list, or returns the error of the first one with one.
func convertAll[S, T any](list []S, convert func(S) (T, api.Errno)) ([]T, api.Errno) {
	results := make([]T, len(list))
	for i, element := range list {
		result, e := convert(element)
		if e != api.OK {
			return nil, e
		}
		results[i] = result
	}
	return results, api.OK
}

// convertTwo converts two arguments, or returns the error of the first one with one.
func convertTwo[S, T any](a, b S, convert func(S) (T, api.Errno)) (T, T, api.Errno) {
	results, e := convertAll([]S{a, b}, convert)
	if e != api.OK {
		var none T
		return none, none, e
	}
	return results[0], results[1], api.OK
}

// read returns the value of a number, or its error.
func read(a api.Rat) (number.Fraction, api.Errno) {
	size, negative := strings.CutPrefix(string(a), "-")
	num, den, isQuotient := strings.Cut(size, "/")
	if !isQuotient {
		den = "1"
	}
	if !isWhole(num) || !isWhole(den) || negative && num == "0" || isQuotient && (den == "0" || den == "1") {
		return number.Fraction{}, api.ErrForm
	}
	if len(num) > api.MaxDigits || len(den) > api.MaxDigits {
		return number.Fraction{}, api.ErrLarge
	}
	value, lowest := number.Quotient(num, den)
	if !lowest {
		return number.Fraction{}, api.ErrForm
	}
	if negative {
		value = value.Negative()
	}
	return value, api.OK
}

// isWhole reports whether a text has decimal digits without zeros in front.
func isWhole(s string) bool {
	return areDigits(s) && (s == "0" || s[0] != '0')
}

// areDigits reports whether a text consists of one or more decimal digits.
func areDigits(s string) bool {
	for i := range len(s) {
		if s[i] < '0' || s[i] > '9' {
			return false
		}
	}
	return s != ""
}

// write returns the text of a number, or ErrLarge.
func write(a number.Fraction) (api.Rat, api.Errno) {
	if !a.Fits(api.MaxDigits) {
		return "", api.ErrLarge
	}
	return api.Rat(a.String()), api.OK
}
