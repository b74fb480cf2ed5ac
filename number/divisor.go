package number

import "math/bits"

// divisor returns the greatest common divisor of a and b; that of 0 and another number is this one.
func divisor(a, b natural) natural {
	if a.compare(b) < 0 {
		a, b = b, a
	}
	for len(b) > 1 {
		if s := shortcut(a, b); s.b0 != 0 {
			a, b = s.apply(a, b)
		} else {
			_, rest := a.divide(b)
			a, b = b, rest
		}
	}
	if len(b) == 0 {
		return a
	}
	_, rest := a.divideByLimb(b[0])
	return natural{limbDivisor(b[0], rest)}
}

func limbDivisor(a, b uint64) uint64 {
	for b != 0 {
		a, b = b, a%b
	}
	return a
}

// steps are several steps of Euclid's algorithm at once: they lead from a and b to a0 a - b0 b and b1 b - a1 a,
// or, if their number is odd, to the negatives of these.
type steps struct {
	a0, b0, a1, b1 uint64
	odd            bool
}

// shortcut does as many steps with the highest bits of a and b, where a is at least b, as are surely those of
// the whole numbers (Lehmer's algorithm, with Jebelean's condition); with b0 = 0 they lead nowhere.
func shortcut(a, b natural) steps {
	shift := uint(bits.LeadingZeros64(a[len(a)-1]))
	x, y := highest(a, len(a), shift), highest(b, len(a), shift)
	var u0, u1, u2 uint64 = 0, 1, 0
	var v0, v1, v2 uint64 = 0, 0, 1
	odd := true
	for y >= v2 && x-y >= v1+v2 {
		q := x / y
		x, y = y, x-q*y
		u0, u1, u2 = u1, u2, u1+q*u2
		v0, v1, v2 = v1, v2, v1+q*v2
		odd = !odd
	}
	return steps{a0: u0, b0: v0, a1: u1, b1: v1, odd: odd}
}

// highest returns the 64 bits of a that stand shift bits below the top of n limbs; n is at least 2.
func highest(a natural, n int, shift uint) uint64 {
	var high, low uint64
	if len(a) >= n {
		high = a[n-1]
	}
	if len(a) >= n-1 {
		low = a[n-2]
	}
	return high<<shift | low>>(64-shift)
}

func (s steps) apply(a, b natural) (natural, natural) {
	if s.odd {
		return difference(b, s.b0, a, s.a0), difference(a, s.a1, b, s.b1)
	}
	return difference(a, s.a0, b, s.b0), difference(b, s.b1, a, s.a1)
}

// difference returns x a - y b, which is not negative.
func difference(a natural, x uint64, b natural, y uint64) natural {
	n := max(len(a), len(b))
	result := make(natural, n+1)
	copy(result, a)
	var carry, more uint64
	for i, limb := range result {
		high, low := bits.Mul64(limb, x)
		result[i], more = bits.Add64(low, carry, 0)
		carry = high + more
	}
	borrow := subMultiple(result[:len(b)], b, y)
	for i := len(b); i <= n && borrow != 0; i++ {
		result[i], borrow = bits.Sub64(result[i], borrow, 0)
	}
	return result.trimmed()
}
