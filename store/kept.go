package store

// width is how many nodes hang on one.
const width = 4

// kept is values by numbers from 0 on.
//
// A kept that is copied by an assignment shares its nodes with the copy.
// So no node is written into: whoever puts or drops a value makes those on the way to it anew.
// (A map would have to be made anew as a whole.)
type kept[V any] struct {
	top   *node[V]
	count int // how many values there are
}

// node has the value of one number (nil: none), and the nodes that hang on it.
//
// Seen from a node, its own number is 0, and any other number i is with the node (i - 1) mod width, as (i - 1) / width.
type node[V any] struct {
	value *V
	below [width]*node[V]
}

// find tells the value of number i (false: it has none).
func (k *kept[V]) find(i int) (V, bool) {
	n := k.top
	for n != nil && i > 0 {
		n = n.below[(i-1)%width]
		i = (i - 1) / width
	}
	if n == nil || i < 0 || n.value == nil {
		var none V
		return none, false
	}
	return *n.value, true
}

// put gives number i, which is not below 0, the value v.
func (k *kept[V]) put(i int, v V) {
	if _, ok := k.find(i); !ok {
		k.count++
	}
	k.top = k.top.with(i, &v)
}

// drop takes the value of number i away.
func (k *kept[V]) drop(i int) {
	if _, ok := k.find(i); ok {
		k.count--
		k.top = k.top.with(i, nil)
	}
}

// with makes the node that n (nil: nothing) is with the value v of number i. One in which nothing is left is nil.
func (n *node[V]) with(i int, v *V) *node[V] {
	var made node[V]
	if n != nil {
		made = *n
	}
	if i == 0 {
		made.value = v
	} else {
		b := (i - 1) % width
		made.below[b] = made.below[b].with((i-1)/width, v)
	}
	if made == (node[V]{}) {
		return nil
	}
	return &made
}
