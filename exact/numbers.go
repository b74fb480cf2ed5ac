package exact

import (
	"strconv"
	"strings"

	"integraph/api"
	"integraph/limits"
	"integraph/number"
)

// IsName reports whether a text is a name.
func IsName(s string) bool {
	if s == "" || len(s) > api.MaxName {
		return false
	}
	for i, r := range s {
		letter := 'a' <= r && r <= 'z' || 'A' <= r && r <= 'Z'
		later := '0' <= r && r <= '9' || r == '_'
		if !letter && (i == 0 || !later) {
			return false
		}
	}
	return true
}

// Check returns the first error of a number, or OK.
func Check(a api.Rat) api.Errno {
	_, e := limits.ReadRat(a)
	return e
}

// Of returns num / den.
func Of(num, den int) (api.Rat, api.Errno) {
	if den == 0 {
		return "", api.ErrZero
	}
	return limits.WriteRat(number.Whole(num).Over(number.Whole(den)))
}

// Parse returns the number that a text such as 3, -6/4 or 0.25 describes.
func Parse(s string) (api.Rat, api.Errno) {
	if len(s) > api.MaxText {
		return "", api.ErrLong
	}
	size, negative := strings.CutPrefix(s, "-")
	num, den, e := parseQuotient(size)
	if e != api.OK {
		return "", e
	}
	a, _ := number.Quotient(num, den)
	if negative {
		a = a.Negative()
	}
	return limits.WriteRat(a)
}

// parseQuotient returns the digits of the numerator and of the denominator that a text without a sign describes.
func parseQuotient(s string) (string, string, api.Errno) {
	num, den, isQuotient := strings.Cut(s, "/")
	if isQuotient {
		if !limits.AreDigits(num) || !limits.AreDigits(den) {
			return "", "", api.ErrSyntax
		}
		if strings.Trim(den, "0") == "" {
			return "", "", api.ErrZero
		}
		return num, den, api.OK
	}
	whole, parts, hasPoint := strings.Cut(s, ".")
	if !limits.AreDigits(whole) || hasPoint && !limits.AreDigits(parts) {
		return "", "", api.ErrSyntax
	}
	return whole + parts, "1" + strings.Repeat("0", len(parts)), api.OK
}

// Int returns an integer as a machine integer.
func Int(a api.Rat) (int, api.Errno) {
	if e := Check(a); e != api.OK {
		return 0, e
	}
	n, err := strconv.Atoi(string(a))
	if err != nil {
		return 0, api.ErrRange
	}
	return n, api.OK
}

// Add returns the sum.
func Add(a, b api.Rat) (api.Rat, api.Errno) { return combine(a, b, number.Fraction.Plus) }

// Sub returns the difference.
func Sub(a, b api.Rat) (api.Rat, api.Errno) { return combine(a, b, number.Fraction.Minus) }

// Mul returns the product.
func Mul(a, b api.Rat) (api.Rat, api.Errno) { return combine(a, b, number.Fraction.Times) }

// combine returns the result of an operation.
func combine(a, b api.Rat, operation func(x, y number.Fraction) number.Fraction) (api.Rat, api.Errno) {
	x, y, e := limits.Two(a, b, limits.ReadRat)
	if e != api.OK {
		return "", e
	}
	return limits.WriteRat(operation(x, y))
}

// Div returns the quotient.
func Div(a, b api.Rat) (api.Rat, api.Errno) {
	x, y, e := limits.Two(a, b, limits.ReadRat)
	if e != api.OK {
		return "", e
	}
	if y.Sign() == 0 {
		return "", api.ErrZero
	}
	return limits.WriteRat(x.Over(y))
}

// Compare returns -1, 0 or 1.
func Compare(a, b api.Rat) (int, api.Errno) {
	x, y, e := limits.Two(a, b, limits.ReadRat)
	if e != api.OK {
		return 0, e
	}
	return x.Compare(y), api.OK
}

// Floor returns the greatest integer that is at most a.
func Floor(a api.Rat) (api.Rat, api.Errno) {
	x, e := limits.ReadRat(a)
	if e != api.OK {
		return "", e
	}
	return limits.WriteRat(x.Floor())
}

// Nearest returns the nearest number of a grid.
func Nearest(a api.Rat, bits int) (api.Rat, api.Errno) {
	x, e := limits.ReadRat(a)
	if e != api.OK {
		return "", e
	}
	if !isGrid(bits) {
		return "", api.ErrRange
	}
	return limits.WriteRat(x.Nearest(bits))
}

// isGrid reports whether there is a grid of these bits.
func isGrid(bits int) bool { return 0 <= bits && bits <= api.MaxBits }
