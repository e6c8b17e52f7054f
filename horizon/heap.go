package horizon

// ranked is what a heap asks of its elements.
type ranked[T any] interface {
	before(other T) bool
}

// heap has its least element in front: none is before the one at (i-1)/2.
type heap[T ranked[T]] []T

func (h *heap[T]) push(x T) {
	*h = append(*h, x)
	h.rise(len(*h) - 1)
}

// pop takes the least element out; there must be one.
func (h *heap[T]) pop() T {
	s := *h
	least, last := s[0], len(s)-1
	s[0] = s[last]
	// What was taken out must not be held by the room behind the heap.
	clear(s[last:])
	*h = s[:last]
	h.sink(0)
	return least
}

func (h heap[T]) rise(i int) {
	for i > 0 {
		above := (i - 1) / 2
		if !h[i].before(h[above]) {
			return
		}
		h[i], h[above] = h[above], h[i]
		i = above
	}
}

func (h heap[T]) sink(i int) {
	for {
		least := i
		for below := 2*i + 1; below <= 2*i+2 && below < len(h); below++ {
			if h[below].before(h[least]) {
				least = below
			}
		}
		if least == i {
			return
		}
		h[i], h[least] = h[least], h[i]
		i = least
	}
}
