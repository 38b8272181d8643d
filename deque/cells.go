package deque

import (
	"tapestrier/api"
)

// maxSize is how many places a deque may have, whatever it is made for.
const maxSize = 1024

// The cells of a deque: its two numbers, and behind them its places.
const (
	top    = 0
	bottom = 1
	places = 2
)

// outside is the cell top as an access tells it; the others have the numbers below it.
const outside = -1000

// cells is all that the operations of a deque have in common. They come at it by one access a step.
//
// The places are an array for the most that there may be, so that a deque that is copied has its own.
type cells struct {
	all  [places + maxSize]int
	size int        // how many of the places are in use
	last api.Access // what was done last
}

// place tells the cell in which the n-th number stands of those that were ever there (from 0 on).
func (c *cells) place(n int) int {
	return places + n%c.size
}

// read tells what is in a cell.
func (c *cells) read(who, cell int) int {
	c.did(who, cell, false)
	return c.all[cell]
}

// write puts v into a cell.
func (c *cells) write(who, cell, v int) {
	c.did(who, cell, true)
	c.all[cell] = v
}

// raise makes what is in a cell one more if it is n, and tells whether it was. (It counts as a write in either case.)
func (c *cells) raise(who, cell, n int) bool {
	c.did(who, cell, true)
	if c.all[cell] != n {
		return false
	}
	c.all[cell] = n + 1
	return true
}

func (c *cells) did(who, cell int, write bool) {
	c.last = api.Access{Who: who, Cell: outside - cell, Write: write, Atomic: true}
}
