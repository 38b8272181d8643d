package deque

import (
	"iter"

	"tapestrier/api"
)

// operation is what one who began, and how far it is. A zero one does not go on.
//
// All that it knows is in it, and nothing of it in a function that waits, so that a deque that is copied has its own.
type operation struct {
	who, kind int
	step      int // its next step, from 1 on (0: there is none)
	t, b, x   int
	won       bool
}

// outcome is what a step tells: x and ok of one with which the operation ended.
type outcome struct {
	ended bool
	x     int
	ok    bool
}

// mayDo tells whether kind is one, and who is one for it.
func mayDo(who, kind int) bool {
	switch kind {
	case api.OPush, api.OPop:
		return who == 0
	case api.OSteal:
		return who != 0
	}
	return false
}

// goesOn tells whether the operation was begun and has not ended.
func (o *operation) goesOn() bool {
	return o.step != 0
}

// steps tells what each step of the operation tells, from its next one on. A step is done when it is asked for.
// Who leaves it amid may go on with another one: the operation knows how far it is.
func (o *operation) steps(c *cells) iter.Seq[outcome] {
	return func(yield func(outcome) bool) {
		for o.goesOn() {
			if !yield(o.does(c)) {
				return
			}
		}
	}
}

// pulled tells the next one of what an iterator tells (a zero one: there is none), and leaves the others undone.
func pulled[V any](all iter.Seq[V]) V {
	for next := range all {
		return next
	}
	var none V
	return none
}

// does does the next step.
func (o *operation) does(c *cells) outcome {
	switch o.kind {
	case api.OPush:
		return o.push(c)
	case api.OPop:
		return o.pop(c)
	default:
		return o.steal(c)
	}
}

// push does the next step of an OPush.
func (o *operation) push(c *cells) outcome {
	switch o.step {
	case 1:
		o.b = c.read(o.who, bottom)
	case 2:
		o.t = c.read(o.who, top)
		if o.b-o.t == c.size {
			return o.end(false)
		}
	case 3:
		c.write(o.who, c.place(o.b), o.x)
	default:
		c.write(o.who, bottom, o.b+1)
		return o.end(true)
	}
	return o.goOn(o.step + 1)
}

// pop does the next step of an OPop.
func (o *operation) pop(c *cells) outcome {
	switch o.step {
	case 1:
		o.b = c.read(o.who, bottom) - 1
	case 2:
		c.write(o.who, bottom, o.b)
	case 3:
		o.t = c.read(o.who, top)
		if o.t > o.b {
			return o.goOn(6)
		}
	case 4:
		o.x = c.read(o.who, c.place(o.b))
		if o.t < o.b {
			return o.end(true)
		}
	case 5:
		o.won = c.raise(o.who, top, o.t)
	default:
		c.write(o.who, bottom, o.b+1)
		return o.end(o.won)
	}
	return o.goOn(o.step + 1)
}

// steal does the next step of an OSteal.
func (o *operation) steal(c *cells) outcome {
	switch o.step {
	case 1:
		o.t = c.read(o.who, top)
	case 2:
		o.b = c.read(o.who, bottom)
		if o.t >= o.b {
			return o.end(false)
		}
	case 3:
		o.x = c.read(o.who, c.place(o.t))
	default:
		return o.end(c.raise(o.who, top, o.t))
	}
	return o.goOn(o.step + 1)
}

// goOn makes n the next step.
func (o *operation) goOn(n int) outcome {
	o.step = n
	return outcome{}
}

// end ends the operation, and tells its x if it is true.
func (o *operation) end(ok bool) outcome {
	x := o.x
	*o = operation{}
	if !ok {
		x = 0
	}
	return outcome{true, x, ok}
}
