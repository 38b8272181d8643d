package bucket

// lists is a map of lists: under each key what was added there, in the order in which it came.
type lists[K, V comparable] map[K][]V

// add puts v at the end of the list of k, unless it stands at its end already.
func (l lists[K, V]) add(k K, v V) {
	list := l[k]
	if n := len(list); n > 0 && list[n-1] == v {
		return
	}
	l[k] = append(list, v)
}
