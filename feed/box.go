package feed

// box is a reader's.
type box[T any] struct {
	things chan *T // pointers, as a channel takes no things of 64 KiB or more; what they point at is never written
	lost   int
}

func newBox[T any](places int) *box[T] { return &box[T]{things: make(chan *T, places)} }

// put lays a thing behind all others. It never waits: a box that is full has an eldest to lose, and then a place.
func (b *box[T]) put(v *T) {
	select {
	case b.things <- v:
	default:
		<-b.things
		b.lost++
		b.things <- v
	}
}

// take takes the eldest out; false, if there is none.
func (b *box[T]) take() (T, bool) {
	select {
	case v := <-b.things:
		return *v, true
	default:
		var none T
		return none, false
	}
}
