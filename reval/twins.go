package reval

// twins is a map of lists: under each list, told by where it lies, the copy of it.
type twins[T any] map[spot[T]][]T

// spot is where a list that is not empty lies, and how far it goes.
type spot[T any] struct {
	first  *T
	length int
}

func spotOf[T any](l []T) spot[T] {
	return spot[T]{&l[0], len(l)}
}

// of tells the copy of l that is kept (false: there is none).
func (m twins[T]) of(l []T) ([]T, bool) {
	twin, ok := m[spotOf(l)]
	return twin, ok
}

// add makes a copy of l, and keeps it.
func (m twins[T]) add(l []T) []T {
	twin := fresh(l)
	m[spotOf(l)] = twin
	return twin
}

// drop keeps the copy of l no longer.
func (m twins[T]) drop(l []T) {
	delete(m, spotOf(l))
}

// fresh tells what l has in memory of its own, without spare room.
func fresh[T any](l []T) []T {
	if l == nil {
		return nil
	}
	return append(make([]T, 0, len(l)), l...)
}
