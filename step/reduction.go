package step

import (
	"iter"

	"virgation/api"
)

// reduction is a closed term of the sort o on its way.
type reduction struct {
	bodies   []part
	at       part // the term behind the steps so far
	tooLarge bool // behind one more step it has more than MaxSize nodes
}

func begin(s api.Scheme, t api.Term) *reduction {
	r := &reduction{at: partOf(t)}
	for _, f := range s.Funs {
		r.bodies = append(r.bodies, partOf(f.Body))
	}
	return r
}

// step makes one step; it is false if there is none, or the term behind it is too large.
func (r *reduction) step() bool {
	if r.isDone() {
		return false
	}
	next := r.bodies[r.at.n].fill(r.at.args)
	r.tooLarge = next.nodes > api.MaxSize
	if r.tooLarge {
		return false
	}
	r.at = next
	return true
}

// isDone looks for a symbol: a closed term has no variable as its head.
func (r *reduction) isDone() bool {
	return r.at.kind == api.KSym
}

// replaced makes at most fuel steps, and visits the functions that are replaced.
func (r *reduction) replaced(fuel int) iter.Seq[int] {
	return func(yield func(int) bool) {
		for range fuel {
			f := r.at.n
			if !r.step() || !yield(f) {
				return
			}
		}
	}
}

// end returns the error with which a reduction ends when replaced has visited everything.
func (r *reduction) end() api.Errno {
	if r.tooLarge {
		return api.ErrLimit
	}
	if !r.isDone() {
		return api.ErrFuel
	}
	return api.OK
}
