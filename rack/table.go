package rack

import (
	"cmp"
	"iter"
	"slices"
)

// row is a value and the id under which it is stored.
type row[V any] struct {
	id    int
	value V
}

// table is at most size values under ids. Its rows ascend by id, so that what is told of them hangs on no order of storing.
type table[V any] struct {
	size int
	rows []row[V]
}

// full reports whether the table stores as many values as its size.
func (t *table[V]) full() bool {
	return len(t.rows) >= t.size
}

// find returns the place of the row with that id, or, if there is none, the place where it would stand.
func (t *table[V]) find(id int) (place int, used bool) {
	return slices.BinarySearchFunc(t.rows, id, func(one row[V], id int) int {
		return cmp.Compare(one.id, id)
	})
}

// add stores the value under the id, and reports whether it did: it doesn't if the id is in use. Whoever calls has asked whether the table is full.
func (t *table[V]) add(id int, value V) bool {
	place, used := t.find(id)
	if used {
		return false
	}
	t.rows = slices.Insert(t.rows, place, row[V]{id, value})
	return true
}

// remove takes the row at that place out of the table.
func (t *table[V]) remove(place int) {
	t.rows = slices.Delete(t.rows, place, place+1)
}

// ids enumerates the ids that are in use, in ascending order.
func (t *table[V]) ids() iter.Seq[int] {
	return func(yield func(int) bool) {
		for _, one := range t.rows {
			if !yield(one.id) {
				return
			}
		}
	}
}
