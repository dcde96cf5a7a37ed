package task

// line is what waits of one source, the first one ahead. The room of a channel is there from its beginning on:
// pointers wait in it, so that it takes little, whatever a T is.
type line[T any] struct {
	waits chan *T
}

func newLine[T any](room int) line[T] {
	return line[T]{waits: make(chan *T, room)}
}

func (l line[T]) made() bool { return l.waits != nil }

func (l line[T]) size() int { return len(l.waits) }

// add makes x the last one; false if there is no room.
func (l line[T]) add(x T) bool {
	select {
	case l.waits <- &x:
		return true
	default:
		return false
	}
}

// take takes the first one; false if there is none.
func (l line[T]) take() (T, bool) {
	select {
	case x := <-l.waits:
		return *x, true
	default:
		var none T
		return none, false
	}
}
