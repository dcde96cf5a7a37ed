package active

import (
	"iter"
)

// maxAlike is how many alike entries may stand behind the last marker.
const maxAlike = 3

// row holds entries one behind the other. Its places are looked at by those who call it.
type row struct {
	// Pointers, since entries are large, and all behind a place move when one is put in or goes.
	entries []*entry
}

func (r *row) size() int {
	return len(r.entries)
}

func (r *row) at(i int) *entry {
	return r.entries[i]
}

func (r *row) put(i int, x *entry) {
	r.entries = append(r.entries, x)
	copy(r.entries[i+1:], r.entries[i:])
	r.entries[i] = x
}

func (r *row) remove(i int) {
	copy(r.entries[i:], r.entries[i+1:])
	r.cut(len(r.entries) - 1)
}

// cut leaves the first n entries. The room of the others stays, but not what they held.
func (r *row) cut(n int) {
	clear(r.entries[n:])
	r.entries = r.entries[:n]
}

// lastMarker tells the last marker's place, -1 if there is none.
func (r *row) lastMarker() int {
	i := len(r.entries) - 1
	for i >= 0 && !r.entries[i].isMarker() {
		i--
	}
	return i
}

// surplus tells the place of the entry that goes if x comes: the earliest of those behind the last marker that are alike
// to it, if there are maxAlike; -1, if none goes.
func (r *row) surplus(x *entry) int {
	earliest, n := -1, 0
	for i, y := range r.behindMarker() {
		if alike(x, y) {
			earliest = i
			n++
		}
	}
	if n < maxAlike {
		return -1
	}
	return earliest
}

// elements goes over the places of the elements, with their numbers. Markers are left out: None is no element.
func (r *row) elements() iter.Seq2[int, int] {
	return func(yield func(int, int) bool) {
		for i, x := range r.entries {
			if !x.isMarker() && !yield(i, x.node) {
				return
			}
		}
	}
}

// behindMarker goes over the places and entries behind the last marker, from the last one back.
func (r *row) behindMarker() iter.Seq2[int, *entry] {
	return func(yield func(int, *entry) bool) {
		for i := len(r.entries) - 1; i >= 0; i-- {
			x := r.entries[i]
			if x.isMarker() || !yield(i, x) {
				return
			}
		}
	}
}
