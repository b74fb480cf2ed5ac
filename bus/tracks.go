package bus

import "integraph/api"

// Tracks returns a track for each net, and how many tracks there are.
func Tracks(nets []api.Net, columns int, order []int) ([]int, int, api.Errno) {
	r, e := readRow(nets, columns, order)
	if e != api.OK {
		return nil, 0, e
	}
	tracks, count := r.tracks()
	return tracks, count, api.OK
}

// tracks returns for each net the least track that is free where the net begins, and how many tracks there are.
func (r *row) tracks() ([]int, int) {
	tracks := make([]int, len(r.nets))
	var ends []int // for each track the greatest position that is taken
	for position := range r.order {
		for net, extent := range r.extents {
			if extent[0] != position {
				continue
			}
			track := 0
			for track < len(ends) && ends[track] >= position {
				track++
			}
			if track == len(ends) {
				ends = append(ends, 0)
			}
			tracks[net], ends[track] = track, extent[1]
		}
	}
	return tracks, len(ends)
}

// Clique returns nets that meet each other at a position, as many as there are tracks.
func Clique(nets []api.Net, columns int, order []int) ([]int, int, api.Errno) {
	r, e := readRow(nets, columns, order)
	if e != api.OK {
		return nil, 0, e
	}
	most, at := r.around(0), 0
	for position := range r.order {
		if list := r.around(position); len(list) > len(most) {
			most, at = list, position
		}
	}
	return most, at, api.OK
}

// around returns the nets whose extents contain a position.
func (r *row) around(position int) []int {
	var list []int
	for net, extent := range r.extents {
		if contains(extent, position) {
			list = append(list, net)
		}
	}
	return list
}

// CheckClique returns OK for nets that meet each other.
func CheckClique(nets []api.Net, columns int, order, clique []int) api.Errno {
	r, e := readRow(nets, columns, order)
	if e != api.OK {
		return e
	}
	if e := checkDifferent(clique, len(nets)); e != api.OK {
		return e
	}
	for i, net := range clique {
		for _, other := range clique[:i] {
			if !meet(r.extents[net], r.extents[other]) {
				return api.ErrProof
			}
		}
	}
	return api.OK
}

// CheckLayout returns the first error of a layout, or OK.
func CheckLayout(nets []api.Net, columns int, l api.Layout) api.Errno {
	_, e := readLayout(nets, columns, l)
	return e
}

// readLayout returns the row of the order of a layout, or the first error of the nets and the layout.
func readLayout(nets []api.Net, columns int, l api.Layout) (*row, api.Errno) {
	r, e := readRow(nets, columns, l.Order)
	if e != api.OK {
		return nil, e
	}
	if len(l.Tracks) != len(nets) {
		return nil, api.ErrShape
	}
	for _, track := range l.Tracks {
		if track < 0 || track >= api.MaxTracks {
			return nil, api.ErrRange
		}
	}
	for i, track := range l.Tracks {
		for j := range i {
			if l.Tracks[j] == track && meet(r.extents[i], r.extents[j]) {
				return nil, api.ErrConflict
			}
		}
	}
	return r, api.OK
}
