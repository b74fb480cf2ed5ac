package bus

import (
	"iter"
	"math/bits"
	"slices"

	"integraph/api"
)

// mostArranged is the greatest number of tracks that are numbered in all orders.
const mostArranged = 7

// Crossings returns the number of crossings of a layout.
func Crossings(nets []api.Net, columns int, l api.Layout) (int, api.Errno) {
	r, e := readLayout(nets, columns, l)
	if e != api.OK {
		return 0, e
	}
	return r.crossings(l.Tracks), api.OK
}

// crossings returns the number of crossings of nets on some tracks.
func (r *row) crossings(tracks []int) int {
	taken := r.taken(tracks)
	sum := 0
	for net, position := range r.taps() {
		below := uint64(1)<<tracks[net] - 1
		sum += bits.OnesCount64(taken[position] & below)
	}
	return sum
}

// taken returns for each position the set of the tracks that nets around it are on: a bit for each track, of which
// there are no more than bits. Each of them belongs to a single net there, since nets on one track do not meet.
func (r *row) taken(tracks []int) []uint64 {
	sets := make([]uint64, len(r.order))
	for net, extent := range r.extents {
		for position := extent[0]; position <= extent[1]; position++ {
			sets[position] |= 1 << tracks[net]
		}
	}
	return sets
}

// exchanges has, for two tracks a and b at [a][b], the crossings of a under b, as if a were less than b.
type exchanges [api.MaxTracks][api.MaxTracks]int

// exchanges returns the crossings of each two tracks that nets are on.
func (r *row) exchanges(tracks []int) *exchanges {
	var under exchanges
	taken := r.taken(tracks)
	for net, position := range r.taps() {
		own := tracks[net]
		for others := taken[position] &^ (1 << own); others != 0; others &= others - 1 {
			under[bits.TrailingZeros64(others)][own]++
		}
	}
	return &under
}

// bound returns the sum, over each two tracks, of the crossings of the order in which there are fewer.
func (x *exchanges) bound() int {
	sum := 0
	for b := range x {
		for a := range b {
			sum += min(x[a][b], x[b][a])
		}
	}
	return sum
}

// numbered returns the crossings if the tracks from 0 on get other numbers.
func (x *exchanges) numbered(numbers []int) int {
	sum := 0
	for a, i := range numbers {
		for b, j := range numbers {
			if i < j {
				sum += x[a][b]
			}
		}
	}
	return sum
}

// Bound returns a number of crossings below which no numbering of the tracks has any.
func Bound(nets []api.Net, columns int, l api.Layout) (int, api.Errno) {
	r, e := readLayout(nets, columns, l)
	if e != api.OK {
		return 0, e
	}
	return r.exchanges(l.Tracks).bound(), api.OK
}

// Arrange returns the numbering of the tracks with the least crossings.
func Arrange(nets []api.Net, columns int, l api.Layout) (api.Layout, api.Errno) {
	r, e := readLayout(nets, columns, l)
	if e != api.OK {
		return api.Layout{}, e
	}
	tracks, count := inTurn(l.Tracks)
	if count > mostArranged {
		return api.Layout{}, api.ErrLimit
	}
	under := r.exchanges(tracks)
	bound := under.bound()
	var best []int
	least := 0
	// Tracks are numbered as they first occur in the list, so that lists come in the order of their numberings.
	for numbers := range orders(count) {
		crossings := under.numbered(numbers)
		if best == nil || crossings < least {
			best, least = slices.Clone(numbers), crossings
		}
		if least == bound {
			break // no other numbering has fewer
		}
	}
	for net, track := range tracks {
		tracks[net] = best[track]
	}
	return api.Layout{Order: slices.Clone(l.Order), Tracks: tracks}, api.OK
}

// inTurn returns tracks with the numbers from 0 on, in the order in which they first occur, and how many there are.
func inTurn(tracks []int) ([]int, int) {
	var first []int
	list := make([]int, len(tracks))
	for net, track := range tracks {
		if !slices.Contains(first, track) {
			first = append(first, track)
		}
		list[net] = slices.Index(first, track)
	}
	return list, len(first)
}

// Best returns the order with the least crossings.
func Best(nets []api.Net, columns int) (api.Layout, api.Errno) {
	if e := CheckNets(nets, columns); e != api.OK {
		return api.Layout{}, e
	}
	if columns > api.MaxColumns {
		return api.Layout{}, api.ErrLimit
	}
	var best api.Layout
	var least []int // its crossings, tracks and length
	for order := range orders(columns) {
		r := newRow(nets, order)
		tracks, count := r.tracks()
		costs := []int{r.crossings(tracks), count, r.length()}
		if least == nil || slices.Compare(costs, least) < 0 {
			best, least = api.Layout{Order: slices.Clone(order), Tracks: tracks}, costs
		}
	}
	return best, api.OK
}

// orders visits all orders of the numbers from 0 to n - 1, the lexicographically first one first, in a list that is
// used again for the next one.
func orders(n int) iter.Seq[[]int] {
	return func(yield func([]int) bool) {
		order := make([]int, 0, n)
		var extend func() bool // reports whether the visitor goes on
		extend = func() bool {
			goesOn := len(order) < n || yield(order)
		numbers:
			for k := range n {
				switch {
				case !goesOn:
					break numbers
				case !slices.Contains(order, k):
					order = append(order, k)
					goesOn = extend()
					order = order[:len(order)-1]
				}
			}
			return goesOn
		}
		extend()
	}
}

// Mirror returns the layout in the opposite order.
func Mirror(nets []api.Net, columns int, l api.Layout) (api.Layout, api.Errno) {
	if e := CheckLayout(nets, columns, l); e != api.OK {
		return api.Layout{}, e
	}
	mirrored := api.Layout{Order: slices.Clone(l.Order), Tracks: slices.Clone(l.Tracks)}
	slices.Reverse(mirrored.Order)
	return mirrored, api.OK
}
