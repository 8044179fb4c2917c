package rack

import (
	"math"
	"slices"
	"testing"

	"postilion/api"
)

// wrongIDs are ids that no value can be stored under.
var wrongIDs = []int{math.MinInt, -api.MaxNumber, -1, 0, api.MaxNumber + 1, api.MaxNumber + 2, math.MaxInt}

// made returns an empty rack.
func made(t *testing.T, size, first, step int) *Rack {
	t.Helper()
	r, e := New(size, first, step)
	if e != api.OK || r == nil {
		t.Fatalf("New(%d, %d, %d): %v, %d", size, first, step, r, e)
	}
	return r
}

// late returns an empty rack of which all own ids but the last left are used up. (To give them all, and drop them, would take a thousand million calls and more.)
func late(t *testing.T, size, first, step, left int) *Rack {
	t.Helper()
	r := made(t, size, first, step)
	count := (api.MaxNumber-first)/step + 1
	r.next = first + (count-left)*step
	return r
}

// gives fails the test unless Give returns that id.
func gives(t *testing.T, r *Rack, value, want int) {
	t.Helper()
	if id, e := r.Give(value); id != want || e != api.OK {
		t.Fatalf("Give(%d): %d, %d; want %d", value, id, e, want)
	}
}

// refuses fails the test unless Give returns ErrFull.
func refuses(t *testing.T, r *Rack) {
	t.Helper()
	if id, e := r.Give(77); id != 0 || e != api.ErrFull {
		t.Fatalf("Give: %d, %d; want ErrFull", id, e)
	}
}

// ok fails the test if there is an error.
func ok(t *testing.T, e api.Errno) {
	t.Helper()
	if e != api.OK {
		t.Fatalf("error %d", e)
	}
}

// stores fails the test unless the rack stores just these values, each under its id, by all that can be asked without a change.
func stores(t *testing.T, r *Rack, want map[int]int) {
	t.Helper()
	var ids []int
	for id, value := range want {
		ids = append(ids, id)
		if v, e := r.Get(id); v != value || e != api.OK {
			t.Fatalf("Get(%d): %d, %d; want %d", id, v, e, value)
		}
	}
	slices.Sort(ids)
	if got := r.IDs(); !slices.Equal(got, ids) || r.Len() != len(ids) {
		t.Fatalf("%d ids: %v, want %v", r.Len(), got, ids)
	}
}

// P3.1: what New takes, at both edges of each of the three numbers.
func TestNew(t *testing.T) {
	sizes := []int{math.MinInt, -1, 0, 1, 2, 63, 64, 65, 1000, math.MaxInt}
	starts := []int{math.MinInt, -1, 0, 1, 2, 999, 1000, 1001, api.MaxNumber, math.MaxInt}
	for _, size := range sizes {
		for _, first := range starts {
			for _, step := range starts {
				r, e := New(size, first, step)
				if size < 1 || size > 64 || first < 1 || first > 1000 || step < 1 || step > 1000 {
					if r != nil || e != api.ErrArg {
						t.Errorf("New(%d, %d, %d): %v, %d", size, first, step, r, e)
					}
					continue
				}
				if e != api.OK {
					t.Fatalf("New(%d, %d, %d): %d", size, first, step, e)
				}
				stores(t, r, nil)
				want := map[int]int{}
				for i := range size {
					gives(t, r, i, first+i*step)
					want[first+i*step] = i
				}
				refuses(t, r)
				stores(t, r, want)
			}
		}
	}
}

// P3.1: racks of the same numbers are not one rack.
func TestNewIsFresh(t *testing.T) {
	a, b := made(t, 2, 1, 1), made(t, 2, 1, 1)
	gives(t, a, 7, 1)
	gives(t, a, 8, 2)
	ok(t, b.Hold(2, 9))
	gives(t, b, 10, 1)
	stores(t, a, map[int]int{1: 7, 2: 8})
	stores(t, b, map[int]int{1: 10, 2: 9})
}

// P3.1: the ids ascend, in whatever order they were stored, and the number follows each call.
func TestIDsAscend(t *testing.T) {
	r := made(t, 64, 500, 1000)
	want := map[int]int{}
	for i := range 40 {
		id := 1 + (i*17)%41*(api.MaxNumber/41)
		ok(t, r.Hold(id, i))
		want[id] = i
		stores(t, r, want)
	}
	for i := range 24 {
		gives(t, r, -i, 500+1000*i)
		want[500+1000*i] = -i
		stores(t, r, want)
	}
	for i := range 40 {
		id := 1 + (i*29)%41*(api.MaxNumber/41)
		if _, used := want[id]; used {
			ok(t, r.Drop(id))
			delete(want, id)
		}
		stores(t, r, want)
	}
}

// P3.1: the ids that are returned belong to the caller.
func TestIDsAreCopies(t *testing.T) {
	r := made(t, 3, 1, 1)
	gives(t, r, 10, 1)
	gives(t, r, 20, 2)
	a, b := r.IDs(), r.IDs()
	a[0], a[1] = 9, 9
	_ = append(a[:1], 8)
	gives(t, r, 30, 3)
	if !slices.Equal(b, []int{1, 2}) {
		t.Errorf("what was returned is changed: %v", b)
	}
	stores(t, r, map[int]int{1: 10, 2: 20, 3: 30})
}

// P3.2: own ids come one step behind the other, whatever is dropped in between.
func TestGiveInOrder(t *testing.T) {
	for _, step := range []int{1, 2, 999, 1000} {
		for _, first := range []int{1, 2, 999, 1000} {
			r := made(t, 2, first, step)
			for i := range 500 {
				id := first + i*step
				gives(t, r, i, id)
				if i%2 == 1 {
					ok(t, r.Drop(id-step))
					ok(t, r.Drop(id))
				}
			}
		}
	}
}

// P3.2: every number is a value.
func TestGiveEachValue(t *testing.T) {
	r := made(t, 5, 1, 1)
	want := map[int]int{}
	for i, v := range []int{0, -1, math.MinInt, math.MaxInt, api.MaxNumber + 1} {
		gives(t, r, v, i+1)
		want[i+1] = v
	}
	stores(t, r, want)
}

// P3.2: ids that are in use when Give comes to them, one and several on end, are skipped, and are not allocated later either.
func TestGiveSkips(t *testing.T) {
	r := made(t, 8, 1, 2)
	for _, id := range []int{3, 5, 9, 4} {
		ok(t, r.Hold(id, -id))
	}
	gives(t, r, 10, 1)
	gives(t, r, 11, 7) // behind 3 and 5
	stores(t, r, map[int]int{1: 10, 3: -3, 4: -4, 5: -5, 7: 11, 9: -9})
	for _, id := range []int{3, 5, 4} {
		ok(t, r.Drop(id))
	}
	gives(t, r, 12, 11) // behind 9; 3 and 5 are free, and were skipped
	ok(t, r.Drop(9))
	gives(t, r, 13, 13)
	stores(t, r, map[int]int{1: 10, 7: 11, 11: 12, 13: 13})
}

// P3.2: an own id that was held and dropped before Give came to it was never skipped.
func TestGiveOfWhatWasHeld(t *testing.T) {
	r := made(t, 3, 1, 1)
	ok(t, r.Hold(1, 10))
	ok(t, r.Hold(2, 20))
	ok(t, r.Drop(1))
	gives(t, r, 30, 1)
	gives(t, r, 40, 3) // 2 is in use
	stores(t, r, map[int]int{1: 30, 2: 20, 3: 40})
}

// P3.2: a rack that is full gives nothing, and no own id is used up or skipped by that.
func TestGiveFull(t *testing.T) {
	for size := 1; size <= 64; size++ {
		r := made(t, size, 1, 1)
		want := map[int]int{}
		for i := range size {
			ok(t, r.Hold(1000+i, i))
			want[1000+i] = i
		}
		for range 3 {
			refuses(t, r)
			stores(t, r, want)
		}
		ok(t, r.Drop(1000))
		gives(t, r, 5, 1)
		delete(want, 1000)
		want[1] = 5
		refuses(t, r)
		stores(t, r, want)
	}
}

// P3.2: a full rack is refused before Give comes to an id in use, so that this one isn't skipped.
func TestGiveFullSkipsNothing(t *testing.T) {
	r := made(t, 2, 1, 1)
	ok(t, r.Hold(1, 10))
	ok(t, r.Hold(2, 20))
	refuses(t, r)
	ok(t, r.Drop(1))
	gives(t, r, 30, 1)
	stores(t, r, map[int]int{1: 30, 2: 20})
}

// P3.2: own ids go up to MaxNumber, or as near to it as the steps lead, and no further.
func TestGiveUsedUp(t *testing.T) {
	for _, first := range []int{1, 2, 7, 999, 1000} {
		for _, step := range []int{1, 2, 3, 999, 1000} {
			const left = 3
			r := late(t, 2, first, step, left)
			last := api.MaxNumber - (api.MaxNumber-first)%step
			for i := range left {
				id := last - (left-1-i)*step
				gives(t, r, i, id)
				ok(t, r.Drop(id))
			}
			for range 3 {
				refuses(t, r)
				stores(t, r, nil)
			}
			ok(t, r.Hold(last, 8)) // the rack has room as before
			ok(t, r.Hold(first, 9))
			refuses(t, r)
			stores(t, r, map[int]int{last: 8, first: 9})
		}
	}
}

// P3.2: MaxNumber itself is an own id, if the steps lead there.
func TestGiveMaxNumber(t *testing.T) {
	r := late(t, 4, 1, 2, 1)
	gives(t, r, 5, api.MaxNumber)
	refuses(t, r)
	stores(t, r, map[int]int{api.MaxNumber: 5})
}

// P3.2: when the own ids that are left are in use, none is left: they are skipped, and are not allocated later either.
func TestGiveSkipsTheLast(t *testing.T) {
	r := late(t, 8, 1, 1, 3)
	for id := api.MaxNumber - 2; id <= api.MaxNumber; id++ {
		ok(t, r.Hold(id, 1))
	}
	refuses(t, r)
	for id := api.MaxNumber - 2; id <= api.MaxNumber; id++ {
		ok(t, r.Drop(id))
	}
	refuses(t, r)
	stores(t, r, nil)
}

// P3.3: ids at both edges, those of the rack's own row and others.
func TestHold(t *testing.T) {
	r := made(t, 64, 1, 1000)
	want := map[int]int{}
	for i, id := range []int{1, 2, 3, 63, 64, 65, 999, 1000, 1001, 1 << 31, 1 << 32, api.MaxNumber - 1, api.MaxNumber} {
		for _, wrong := range wrongIDs {
			if e := r.Hold(wrong, 1); e != api.ErrArg {
				t.Errorf("Hold of %d: %d", wrong, e)
			}
		}
		ok(t, r.Hold(id, -i))
		want[id] = -i
		stores(t, r, want)
	}
}

// P3.3: an id in use is refused, and its value stays; so it is with one that Give allocated.
func TestHoldInUse(t *testing.T) {
	r := made(t, 4, 1, 1)
	gives(t, r, 10, 1)
	ok(t, r.Hold(3, 30))
	for _, id := range []int{1, 3} {
		if e := r.Hold(id, 99); e != api.ErrArg {
			t.Errorf("Hold of %d: %d", id, e)
		}
	}
	stores(t, r, map[int]int{1: 10, 3: 30})
}

// P3.3: a full rack refuses each id; but for one that is wrong or in use, ErrArg comes before ErrFull.
func TestHoldFull(t *testing.T) {
	for _, size := range []int{1, 2, 64} {
		r := made(t, size, 1, 1)
		want := map[int]int{}
		for i := range size {
			gives(t, r, i, i+1)
			want[i+1] = i
		}
		for _, id := range []int{size + 1, size + 2, api.MaxNumber - 1, api.MaxNumber} {
			if e := r.Hold(id, 99); e != api.ErrFull {
				t.Errorf("size %d: Hold of %d: %d", size, id, e)
			}
		}
		for _, id := range append([]int{1, size}, wrongIDs...) {
			if e := r.Hold(id, 99); e != api.ErrArg {
				t.Errorf("size %d: Hold of %d: %d", size, id, e)
			}
		}
		stores(t, r, want)
	}
}

// P3.3, P3.4: an id that was dropped is held anew, whether Give had allocated it or not; Give returns neither again.
func TestHoldAnew(t *testing.T) {
	r := made(t, 3, 1, 1)
	gives(t, r, 10, 1)
	ok(t, r.Hold(9, 90))
	for i := range 3 {
		ok(t, r.Drop(1))
		ok(t, r.Drop(9))
		stores(t, r, nil)
		ok(t, r.Hold(9, 91+i))
		ok(t, r.Hold(1, 11+i))
		stores(t, r, map[int]int{1: 11 + i, 9: 91 + i})
	}
	gives(t, r, 20, 2)
	ok(t, r.Drop(1))
	gives(t, r, 30, 3)
	stores(t, r, map[int]int{2: 20, 3: 30, 9: 93})
}

// P3.4: ids that are not in use: none was ever, they were dropped, or they can't be.
func TestNone(t *testing.T) {
	r := made(t, 3, 2, 2)
	none := append([]int{1, 3, 4, 5, 7, 8, api.MaxNumber}, wrongIDs...)
	gives(t, r, 20, 2)
	gives(t, r, 40, 4)
	ok(t, r.Hold(6, 60))
	ok(t, r.Drop(4))
	for range 2 {
		for _, id := range none {
			if v, e := r.Get(id); v != 0 || e != api.ErrNone {
				t.Errorf("Get(%d): %d, %d", id, v, e)
			}
			if e := r.Set(id, 99); e != api.ErrNone {
				t.Errorf("Set(%d): %d", id, e)
			}
			if e := r.Drop(id); e != api.ErrNone {
				t.Errorf("Drop(%d): %d", id, e)
			}
		}
		stores(t, r, map[int]int{2: 20, 6: 60})
	}
}

// P3.4: Set replaces the value as often as it is called, of ids that Give and Hold stored under, in a full rack too.
func TestSet(t *testing.T) {
	r := made(t, 2, 1, 1)
	ok(t, r.Hold(api.MaxNumber, 5))
	gives(t, r, 6, 1)
	for _, v := range []int{0, -1, math.MinInt, math.MaxInt, 7} {
		ok(t, r.Set(api.MaxNumber, v))
		stores(t, r, map[int]int{1: 6, api.MaxNumber: v})
	}
	ok(t, r.Set(1, 8))
	stores(t, r, map[int]int{1: 8, api.MaxNumber: 7})
}

// P3.4: a value that was dropped is gone: its room is free, and the id has no value of its own from before.
func TestDrop(t *testing.T) {
	r := made(t, 1, 1, 1)
	for i := range 100 {
		gives(t, r, 1000+i, i+1)
		refuses(t, r)
		if e := r.Hold(5000, 1); e != api.ErrFull {
			t.Fatalf("%d: %d", i, e)
		}
		ok(t, r.Drop(i+1))
		if e := r.Drop(i + 1); e != api.ErrNone {
			t.Fatalf("%d: %d", i, e)
		}
		stores(t, r, nil)
	}
}

// P3.1 to P3.4: a nil *Rack, and Racks that New did not return: one of no value, and a copy. ErrNil comes before the other errors.
func TestNotMade(t *testing.T) {
	r := made(t, 2, 1, 1)
	gives(t, r, 10, 1)
	copied := *r
	for i, x := range []*Rack{nil, {}, new(Rack), &copied} {
		for range 2 { // the second time, to see that nothing was stored
			if x.Len() != 0 || len(x.IDs()) != 0 {
				t.Errorf("%d: %d, %v", i, x.Len(), x.IDs())
			}
			if id, e := x.Give(1); id != 0 || e != api.ErrNil {
				t.Errorf("%d: Give: %d, %d", i, id, e)
			}
			for _, id := range append([]int{1, 2, api.MaxNumber}, wrongIDs...) {
				v, e := x.Get(id)
				if v != 0 || e != api.ErrNil || x.Hold(id, 1) != api.ErrNil || x.Set(id, 1) != api.ErrNil || x.Drop(id) != api.ErrNil {
					t.Errorf("%d: of %d: %d, %d", i, id, v, e)
				}
			}
		}
	}
	stores(t, r, map[int]int{1: 10})
	gives(t, r, 20, 2)
}

// model is what a rack should be, kept in the simplest way: a map, and each own id that was come to.
type model struct {
	size, first, step int
	values            map[int]int
	come              int // so many own ids were come to
	given             map[int]bool
	counter           int // of values: each one is stored once
}

// give is Give.
func (m *model) give() (int, api.Errno) {
	if len(m.values) == m.size {
		return 0, api.ErrFull
	}
	for {
		id := m.first + m.come*m.step
		m.come++
		if _, used := m.values[id]; !used {
			m.values[id] = m.counter
			return id, api.OK
		}
	}
}

// hold is Hold, of an id that can be in use.
func (m *model) hold(id int) api.Errno {
	if _, used := m.values[id]; used {
		return api.ErrArg
	}
	if len(m.values) == m.size {
		return api.ErrFull
	}
	m.values[id] = m.counter
	return api.OK
}

// do does one of the calls that change a rack with both, and holds the answers and what is stored then against each other.
func (m *model) do(t *testing.T, r *Rack, what, id int) {
	t.Helper()
	m.counter++
	_, used := m.values[id]
	want, got := api.ErrNone, api.OK
	switch what {
	case 0:
		var wantID, gotID int
		wantID, want = m.give()
		gotID, got = r.Give(m.counter)
		if gotID != wantID {
			t.Fatalf("Give: %d, want %d", gotID, wantID)
		}
		if m.given[gotID] {
			t.Fatalf("Give: %d again", gotID)
		}
		if got == api.OK {
			m.given[gotID] = true
		}
	case 1:
		want, got = m.hold(id), r.Hold(id, m.counter)
	case 2:
		got = r.Set(id, m.counter)
		if used {
			m.values[id], want = m.counter, api.OK
		}
	case 3:
		got = r.Drop(id)
		if used {
			delete(m.values, id)
			want = api.OK
		}
	}
	if got != want {
		t.Fatalf("call %d of id %d: %d, want %d", what, id, got, want)
	}
	stores(t, r, m.values)
}

// P3.5, P3.6: every row of four calls, of each kind and of each id that counts, with racks of small sizes.
func TestAllShortRows(t *testing.T) {
	const steps, ids, kinds = 4, 4, 1 + 3*4
	for size := 1; size <= 3; size++ {
		for first := 1; first <= 2; first++ {
			for step := 1; step <= 2; step++ {
				for row := range kinds * kinds * kinds * kinds {
					r := made(t, size, first, step)
					m := &model{size: size, first: first, step: step, values: map[int]int{}, given: map[int]bool{}}
					for left, i := row, 0; i < steps; i++ {
						if kind := left % kinds; kind == 0 {
							m.do(t, r, 0, 0)
						} else {
							m.do(t, r, 1+(kind-1)/ids, 1+(kind-1)%ids)
						}
						left /= kinds
					}
				}
			}
		}
	}
}

// P3.5, P3.6: long rows of calls, with racks of which the greatest is one; the numbers come from a rule of their own, so each run is the same.
func TestLongRows(t *testing.T) {
	for _, size := range []int{1, 2, 7, 63, 64} {
		for _, step := range []int{1, 2, 1000} {
			r := made(t, size, step, step)
			m := &model{size: size, first: step, step: step, values: map[int]int{}, given: map[int]bool{}}
			state := uint32(size*1001 + step)
			draw := func(n int) int {
				state = state*1664525 + 1013904223
				return int(state>>16) % n
			}
			for range 10000 {
				about := m.come + draw(2*size+2) - size // own ids that were come to, and those that will be
				what, id := draw(4), max(1, about*step+draw(2))
				if used := r.IDs(); len(used) > 0 && draw(2) == 0 { // or the rack would soon be full of old ones
					id = used[draw(len(used))]
				}
				m.do(t, r, what, id)
			}
			if m.come < 500 {
				t.Fatalf("size %d, step %d: only %d own ids were come to", size, step, m.come)
			}
		}
	}
}

// The chapter's examples.
func TestExamples(t *testing.T) {
	r := made(t, 2, 1, 2)
	gives(t, r, 7, 1)
	ok(t, r.Hold(3, 9))
	refuses(t, r)
	ok(t, r.Drop(1))
	gives(t, r, 8, 5)
	if ids := r.IDs(); !slices.Equal(ids, []int{3, 5}) {
		t.Errorf("%v", ids)
	}
}

// The table stores values of any type, and whoever leaves the range of its ids early is asked no more.
func TestTable(t *testing.T) {
	x := &table[string]{size: 2}
	if !x.add(9, "i") || x.full() || !x.add(4, "d") || !x.full() || x.add(4, "e") {
		t.Errorf("%v", x.rows)
	}
	for id := range x.ids() {
		if id != 4 {
			t.Errorf("%d", id)
		}
		break
	}
	place, used := x.find(4)
	if !used || x.rows[place].value != "d" {
		t.Errorf("%d, %v, %v", place, used, x.rows)
	}
	x.remove(place)
	if place, used := x.find(9); place != 0 || !used || x.full() {
		t.Errorf("%d, %v, %v", place, used, x.rows)
	}
}
