package health

import (
	"slices"

	"postilion/api"
	"postilion/breaker"
	"postilion/window"
)

// parent is what must stay the same for a parent to keep its record through a reload; its user, password and weight may change.
type parent struct {
	name  string
	at    api.Target
	proto uint8
}

// record is how one parent does.
type record struct {
	key     int
	who     parent
	window  window.Window
	breaker breaker.Breaker
}

// keyOf returns the record's key.
func keyOf(r *record) int { return r.key }

// parentOf returns whose record it is.
func parentOf(r *record) parent { return r.who }

// find returns the place of the first record that tells what is wanted, or -1 if none does.
func find[T comparable](records []*record, tells func(*record) T, wanted T) int {
	return slices.IndexFunc(records, func(one *record) bool { return tells(one) == wanted })
}

// counts reports whether an outcome, of a trial or not, counts at that tick.
func (r *record) counts(now int, trial bool) bool {
	if trial {
		return r.breaker.Trial
	}
	return r.breaker.State(now) == breaker.Closed
}

// wanted reports whether the parent should be probed at that tick.
func (r *record) wanted(now int) bool {
	return r.breaker.State(now) == breaker.Half && !r.breaker.Trial
}
