package gear

import (
	"maps"
	"slices"

	"integraph/api"
)

// shelf has the number of wheels of each number of teeth that are left; kinds of which none is left are not in it.
type shelf map[int]int

func shelfOf(stock []api.Wheel) shelf {
	s := shelf{}
	for _, w := range stock {
		s[w.Teeth] = w.Count
	}
	return s
}

// take removes the wheels of a train, and reports whether all of them were there.
func (s shelf) take(train []api.Pair) bool {
	for _, p := range train {
		if !s.takeWheel(p.Driver) || !s.takeWheel(p.Driven) {
			return false
		}
	}
	return true
}

func (s shelf) takeWheel(teeth int) bool {
	switch count := s[teeth]; count {
	case 0:
		return false
	case 1:
		delete(s, teeth)
	default:
		s[teeth] = count - 1
	}
	return true
}

// stock returns the wheels that are left.
func (s shelf) stock() []api.Wheel {
	var stock []api.Wheel
	for _, teeth := range slices.Sorted(maps.Keys(s)) {
		stock = append(stock, api.Wheel{Teeth: teeth, Count: s[teeth]})
	}
	return stock
}
