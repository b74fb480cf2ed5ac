package generate

import (
	"iter"

	"integraph/polynomial"
)

// monomials visits all products of powers of the variables from the first to the last number (0 is t) whose sum of
// powers is from least to most, in the order of terms.
func monomials(first, last, least, most int) iter.Seq[polynomial.Powers] {
	return func(yield func(polynomial.Powers) bool) {
		var powers polynomial.Powers
		var visit func(v, left int) bool
		visit = func(v, left int) bool {
			if v == last {
				powers[v] = uint8(left)
				return yield(powers)
			}
			for power := left; power >= 0; power-- {
				powers[v] = uint8(power)
				if !visit(v+1, left-power) {
					return false
				}
			}
			return true
		}
		for sum := most; sum >= least; sum-- {
			if !visit(first, sum) {
				return
			}
		}
	}
}

// upTo returns what is visited, and true, or nothing and false if there are more than some.
func upTo(most int, visited iter.Seq[polynomial.Powers]) ([]polynomial.Powers, bool) {
	var list []polynomial.Powers
	for powers := range visited {
		if len(list) == most {
			return nil, false
		}
		list = append(list, powers)
	}
	return list, true
}
