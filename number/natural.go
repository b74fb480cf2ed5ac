package number

import (
	"math/bits"
	"strconv"
	"strings"
)

// natural is a whole number from 0 on: its limbs of 64 bits, the lowest one first, without zeros at the top.
// Values share limbs, so no function changes a natural that it did not make itself.
type natural []uint64

const (
	chunkDigits = 19 // as many decimal digits as fit in a limb in any case
	chunk       = 10000000000000000000
)

func (a natural) trimmed() natural {
	for len(a) > 0 && a[len(a)-1] == 0 {
		a = a[:len(a)-1]
	}
	return a
}

func (a natural) isOne() bool { return len(a) == 1 && a[0] == 1 }

func (a natural) bitLength() int {
	if len(a) == 0 {
		return 0
	}
	return 64*(len(a)-1) + bits.Len64(a[len(a)-1])
}

func (a natural) compare(b natural) int {
	if len(a) != len(b) {
		if len(a) < len(b) {
			return -1
		}
		return 1
	}
	for i := len(a) - 1; i >= 0; i-- {
		if a[i] < b[i] {
			return -1
		}
		if a[i] > b[i] {
			return 1
		}
	}
	return 0
}

func (a natural) plus(b natural) natural {
	if len(a) < len(b) {
		a, b = b, a
	}
	sum := make(natural, len(a)+1)
	var carry uint64
	for i := range a {
		var limb uint64
		if i < len(b) {
			limb = b[i]
		}
		sum[i], carry = bits.Add64(a[i], limb, carry)
	}
	sum[len(a)] = carry
	return sum.trimmed()
}

// minus returns a - b, where b is at most a.
func (a natural) minus(b natural) natural {
	rest := make(natural, len(a))
	var borrow uint64
	for i := range a {
		var limb uint64
		if i < len(b) {
			limb = b[i]
		}
		rest[i], borrow = bits.Sub64(a[i], limb, borrow)
	}
	return rest.trimmed()
}

func (a natural) times(b natural) natural {
	if len(a) == 0 || len(b) == 0 {
		return nil
	}
	product := make(natural, len(a)+len(b))
	for i, x := range a {
		product[i+len(b)] = addMultiple(product[i:i+len(b)], b, x)
	}
	return product.trimmed()
}

// addMultiple adds x times b to the limbs of sum, of which there are as many as b has, and returns what is carried.
func addMultiple(sum, b natural, x uint64) uint64 {
	var carry, more uint64
	for i, y := range b {
		high, low := bits.Mul64(x, y)
		low, more = bits.Add64(low, sum[i], 0)
		high += more
		sum[i], more = bits.Add64(low, carry, 0)
		carry = high + more
	}
	return carry
}

// subMultiple subtracts x times b from the limbs of rest, of which there are as many as b has, and returns what is borrowed.
func subMultiple(rest, b natural, x uint64) uint64 {
	var borrow, more uint64
	for i, y := range b {
		high, low := bits.Mul64(x, y)
		low, more = bits.Add64(low, borrow, 0)
		high += more
		rest[i], more = bits.Sub64(rest[i], low, 0)
		borrow = high + more
	}
	return borrow
}

func (a natural) power(n int) natural {
	result := natural{1}
	for ; n > 0; n /= 2 {
		if n%2 == 1 {
			result = result.times(a)
		}
		if n > 1 {
			a = a.times(a)
		}
	}
	return result
}

// root returns the greatest whole number whose square is at most a (Newton's method, from a number that is greater).
func (a natural) root() natural {
	if len(a) == 0 {
		return nil
	}
	x := natural{1}.shifted((a.bitLength() + 1) / 2)
	for {
		quotient, _ := a.divide(x)
		next := x.plus(quotient).shiftedDown(1)
		if next.compare(x) >= 0 {
			return x
		}
		x = next
	}
}

// shifted returns a times 2^by.
func (a natural) shifted(by int) natural {
	limbs, rest := by/64, uint(by%64)
	result := make(natural, len(a)+limbs+1)
	for i, limb := range a {
		result[i+limbs] |= limb << rest
		result[i+limbs+1] = limb >> (64 - rest)
	}
	return result.trimmed()
}

// divide returns the quotient of a and b, which is not 0, rounded down, and the rest.
func (a natural) divide(b natural) (natural, natural) {
	if a.compare(b) < 0 {
		return nil, a
	}
	if len(b) == 1 {
		quotient, rest := a.divideByLimb(b[0])
		return quotient, natural{rest}.trimmed()
	}
	return a.divideByMany(b)
}

func (a natural) divideByLimb(b uint64) (natural, uint64) {
	quotient := make(natural, len(a))
	var rest uint64
	for i := len(a) - 1; i >= 0; i-- {
		quotient[i], rest = bits.Div64(rest, a[i], b)
	}
	return quotient.trimmed(), rest
}

// divideByMany is long division by a number of several limbs (Knuth's algorithm D): with the highest bit of
// the divisor set, a limb of the quotient that is guessed from the highest limbs is at most a little too great.
func (a natural) divideByMany(b natural) (natural, natural) {
	shift := bits.LeadingZeros64(b[len(b)-1])
	divisor := b.shifted(shift)
	rest := make(natural, len(a)+1)
	copy(rest, a.shifted(shift))
	n := len(divisor)
	quotient := make(natural, len(rest)-n)
	for j := len(quotient) - 1; j >= 0; j-- {
		guess := guessLimb(rest[j:j+n+1], divisor)
		borrow := subMultiple(rest[j:j+n], divisor, guess)
		rest[j+n], borrow = bits.Sub64(rest[j+n], borrow, 0)
		for borrow != 0 {
			guess--
			var carry uint64
			rest[j+n], carry = bits.Add64(rest[j+n], addMultiple(rest[j:j+n], divisor, 1), 0)
			borrow -= carry
		}
		quotient[j] = guess
	}
	return quotient.trimmed(), rest.trimmed().shiftedDown(shift)
}

// guessLimb returns the quotient of rest and divisor or a little more; rest has one limb more than divisor.
func guessLimb(rest, divisor natural) uint64 {
	n := len(divisor)
	first, second := divisor[n-1], divisor[n-2]
	if rest[n] >= first {
		return ^uint64(0)
	}
	guess, left := bits.Div64(rest[n], rest[n-1], first)
	for {
		high, low := bits.Mul64(guess, second)
		if high < left || high == left && low <= rest[n-2] {
			return guess
		}
		guess--
		left += first
		if left < first {
			return guess
		}
	}
}

// shiftedDown returns a divided by 2^by, rounded down, where by is less than 64.
func (a natural) shiftedDown(by int) natural {
	result := make(natural, len(a))
	for i := range a {
		result[i] = a[i] >> uint(by)
		if i+1 < len(a) {
			result[i] |= a[i+1] << uint(64-by)
		}
	}
	return result.trimmed()
}

// decimal returns the number with these decimal digits.
func decimal(digits string) natural {
	var result natural
	for len(digits) > 0 {
		n := (len(digits)-1)%chunkDigits + 1
		result = result.extended(digits[:n])
		digits = digits[n:]
	}
	return result
}

// extended returns the number whose decimal digits are those of a and then at most chunkDigits further ones.
func (a natural) extended(digits string) natural {
	result := make(natural, len(a)+1)
	factor, value := uint64(1), uint64(0)
	for i := range len(digits) {
		factor *= 10
		value = 10*value + uint64(digits[i]-'0')
	}
	for i, limb := range a {
		high, low := bits.Mul64(limb, factor)
		low, carry := bits.Add64(low, value, 0)
		result[i], value = low, high+carry
	}
	result[len(a)] = value
	return result.trimmed()
}

func (a natural) String() string {
	if len(a) == 0 {
		return "0"
	}
	var chunks []string
	for len(a) > 0 {
		var rest uint64
		a, rest = a.divideByLimb(chunk)
		text := strconv.FormatUint(rest, 10)
		if len(a) > 0 {
			text = strings.Repeat("0", chunkDigits-len(text)) + text
		}
		chunks = append(chunks, text)
	}
	var b strings.Builder
	for i := len(chunks) - 1; i >= 0; i-- {
		b.WriteString(chunks[i])
	}
	return b.String()
}

// fits reports whether a has at most this many decimal digits.
func (a natural) fits(digits int) bool {
	// The logarithm of 10 to the base 2 is between 3.3219 and 3.3220: most numbers are clearly within or beyond,
	// without a power of 10.
	length := a.bitLength()
	if length <= digits*33219/10000 {
		return true
	}
	if length > digits*33220/10000+2 {
		return false
	}
	return a.compare(natural{10}.power(digits)) < 0
}
