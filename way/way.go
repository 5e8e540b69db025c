// Package way is no layer: it has what the layers share that go along a program's ways.
package way

import (
	"iter"
	"slices"

	"tappet/api"
)

// Behind goes over the numbers of those that come behind the instruction, that has number n, in a program that flow.Check tells no error of. It holds the one instruction, so that no list is kept.
func Behind(i api.Instr, n int) iter.Seq[int] {
	return func(yield func(int) bool) {
		switch i.Op {
		case api.OpYield:
		case api.OpJump:
			yield(int(i.C))
		case api.OpZero:
			if yield(n+1) && int(i.C) != n+1 {
				yield(int(i.C))
			}
		default:
			yield(n + 1)
		}
	}
}

// Waiting are numbers that wait for their turn.
type Waiting struct {
	// Each is less than the one ahead: the least one is taken from the end, where it costs nothing.
	falling []int
}

// Put lets a number wait.
func (w *Waiting) Put(n int) {
	at, _ := slices.BinarySearchFunc(w.falling, n, func(x, n int) int { return n - x })
	w.falling = slices.Insert(w.falling, at, n)
}

// Turns goes over the least one that waits, over and over, until none does; each waits no more at its turn, and what is put there waits too.
func (w *Waiting) Turns() iter.Seq[int] {
	return func(yield func(int) bool) {
		for len(w.falling) > 0 {
			last := len(w.falling) - 1
			n := w.falling[last]
			w.falling = w.falling[:last]
			if !yield(n) {
				return
			}
		}
	}
}
