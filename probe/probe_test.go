package probe

import (
	"math"
	"slices"
	"testing"

	"postilion/api"
)

// The greatest key, and the latest tick of a round: MaxNumber - MaxTicks.
const (
	greatest = 1099511627775
	latest   = 1099511626775
)

// model is a plan, in the words of the chapter: the period, and the Next of each key.
type model struct {
	every int
	next  map[int]int
}

// keys returns the keys of the rows, in ascending order.
func (m *model) keys() []int {
	var all []int
	for key := range m.next {
		all = append(all, key)
	}
	slices.Sort(all)
	return all
}

// add returns what Add does.
func (m *model) add(key int) api.Errno {
	if _, has := m.next[key]; has || key < 1 || key > greatest {
		return api.ErrArg
	}
	if len(m.next) == 64 {
		return api.ErrFull
	}
	m.next[key] = 0
	return api.OK
}

// drop returns what Drop does.
func (m *model) drop(key int) api.Errno {
	if _, has := m.next[key]; !has {
		return api.ErrNone
	}
	delete(m.next, key)
	return api.OK
}

// set returns what Every does.
func (m *model) set(every int) api.Errno {
	if every < 1 || every > 1000 {
		return api.ErrArg
	}
	m.every = every
	return api.OK
}

// round returns what Round does.
func (m *model) round(now int, wanted []int) []int {
	if now < 0 || now > latest {
		return nil
	}
	var due []int
	for _, key := range m.keys() {
		switch {
		case !slices.Contains(wanted, key):
			m.next[key] = 0
		case m.next[key] <= now:
			m.next[key] = now + m.every
			due = append(due, key)
		}
	}
	return due
}

// both is a plan and the model of it, which must answer alike.
type both struct {
	t *testing.T
	p *Plan
	m model
}

// made returns a plan with that period and those keys, added in that order.
func made(t *testing.T, every int, keys ...int) *both {
	t.Helper()
	p, e := New(every)
	if e != api.OK || p == nil {
		t.Fatalf("New(%d): %v, %d", every, p, e)
	}
	b := &both{t, p, model{every, map[int]int{}}}
	for _, key := range keys {
		b.add(key, api.OK)
	}
	return b
}

// same fails the test unless the plan's error is the model's.
func (b *both) same(call string, n int, got, model api.Errno) {
	b.t.Helper()
	if got != model {
		b.t.Fatalf("%s(%d): %d, want %d", call, n, got, model)
	}
}

// says fails the test unless the error, the plan's and the model's, is the one that is written out.
func (b *both) says(call string, n int, got, model, want api.Errno) {
	b.t.Helper()
	b.same(call, n, got, model)
	b.same(call, n, got, want)
}

// add adds a key, which must answer that.
func (b *both) add(key int, want api.Errno) {
	b.t.Helper()
	b.says("Add", key, b.p.Add(key), b.m.add(key), want)
}

// drop drops a key, which must answer that.
func (b *both) drop(key int, want api.Errno) {
	b.t.Helper()
	b.says("Drop", key, b.p.Drop(key), b.m.drop(key), want)
}

// every sets a period, which must answer that.
func (b *both) every(every int, want api.Errno) {
	b.t.Helper()
	b.says("Every", every, b.p.Every(every), b.m.set(every), want)
}

// round makes a round, in which these keys must be due.
func (b *both) round(now int, wanted []int, want ...int) {
	b.t.Helper()
	got, model := b.p.Round(now, wanted), b.m.round(now, wanted)
	if !slices.Equal(got, want) || !slices.Equal(got, model) {
		b.t.Fatalf("Round(%d, %v): %v, want %v (the model says %v)", now, wanted, got, want, model)
	}
}

// alike makes a round, in which the keys must be due that the model says.
func (b *both) alike(now int, wanted []int) {
	b.t.Helper()
	if got, want := b.p.Round(now, wanted), b.m.round(now, wanted); !slices.Equal(got, want) {
		b.t.Fatalf("Round(%d, %v): %v, want %v", now, wanted, got, want)
	}
}

// holds fails the test unless the plan has these keys.
func (b *both) holds(want ...int) {
	b.t.Helper()
	if got := b.p.Keys(); !slices.Equal(got, want) || !slices.Equal(got, b.m.keys()) {
		b.t.Fatalf("Keys: %v, want %v (the model says %v)", got, want, b.m.keys())
	}
}

// tells fails the test unless the plan is just what the model is. At the tick ahead of a row's Next it is not due; at the Next it is; and then it is due a period later. (So the plan is changed; it is asked last.)
func (b *both) tells() {
	b.t.Helper()
	all := b.m.keys()
	b.holds(all...)
	var ticks []int
	for _, next := range b.m.next {
		for _, tick := range []int{next, next + b.m.every} {
			ticks = append(ticks, tick-1, tick)
		}
	}
	slices.Sort(ticks)
	for _, tick := range ticks {
		b.alike(tick, all)
	}
}

// upTo returns the keys from 1 to n.
func upTo(n int) []int {
	var all []int
	for i := range n {
		all = append(all, i+1)
	}
	return all
}

// P10.1: what New takes as a period, and that the plan has it, and no rows.
func TestNew(t *testing.T) {
	for _, every := range []int{math.MinInt, -1000, -1, 0, 1001, 1002, greatest, math.MaxInt} {
		if p, e := New(every); p != nil || e != api.ErrArg {
			t.Errorf("New(%d): %v, %d", every, p, e)
		}
	}
	for _, every := range []int{1, 2, 5, 999, 1000} {
		b := made(t, every)
		b.holds()
		b.round(0, []int{1, 2})
		b.add(2, api.OK)
		b.round(7, []int{2}, 2)
		b.round(7+every-1, []int{2})
		b.round(7+every, []int{2}, 2)
		b.tells()
	}
}

// P10.1: plans of the same period are not one plan.
func TestNewIsFresh(t *testing.T) {
	a, b := made(t, 5), made(t, 5)
	a.add(1, api.OK)
	b.holds()
	b.add(1, api.OK)
	a.round(3, []int{1}, 1)
	b.round(2, []int{1}, 1)
	a.every(7, api.OK)
	b.drop(1, api.OK)
	b.add(2, api.OK)
	a.tells()
	b.tells()
}

// P10.1: what Every takes as a period, and that one it doesn't take changes nothing.
func TestEvery(t *testing.T) {
	for _, every := range []int{1, 2, 5, 999, 1000} {
		b := made(t, 10, 4)
		b.every(every, api.OK)
		b.round(0, []int{4}, 4)
		b.round(every-1, []int{4})
		b.round(every, []int{4}, 4)
		for _, wrong := range []int{math.MinInt, -1000, -1, 0, 1001, 1002, greatest, math.MaxInt} {
			b.every(wrong, api.ErrArg)
		}
		b.holds(4)
		b.round(2*every-1, []int{4})
		b.round(2*every, []int{4}, 4)
		b.tells()
	}
}

// P10.1: Every changes the rounds that follow, but not the Next of rows that were due before, whether the period becomes shorter or longer.
func TestEveryKeepsNext(t *testing.T) {
	b := made(t, 10, 1, 2, 3)
	b.round(100, []int{1, 2, 3}, 1, 2, 3)
	b.every(3, api.OK)
	b.round(103, []int{1, 2, 3})
	b.round(109, []int{1, 2}) // 3 isn't wanted, and so it is due anew
	b.round(110, []int{1, 2, 3}, 1, 2, 3)
	b.every(20, api.OK)
	b.round(112, []int{1, 2, 3})
	b.round(113, []int{1, 2, 3}, 1, 2, 3)
	b.round(116, []int{1, 2, 3})
	b.every(1, api.OK)
	b.round(132, []int{1, 2, 3})
	b.round(133, []int{3, 1}, 1, 3)
	b.round(134, []int{3, 1, 2}, 1, 2, 3)
	b.tells()

	b = made(t, 1000, 1)
	b.round(5, []int{1}, 1)
	b.every(1, api.OK)
	b.every(1000, api.OK)
	b.every(1, api.OK) // the last one counts
	b.round(1004, []int{1})
	b.round(1005, []int{1}, 1)
	b.round(1006, []int{1}, 1)
	b.tells()
}

// P10.1: the keys ascend, whatever the order of Add: each order of five keys.
func TestKeysAscend(t *testing.T) {
	keys := []int{1, 2, 500, greatest - 1, greatest}
	var orders func(order []int)
	orders = func(order []int) {
		if len(order) == len(keys) {
			b := made(t, 5, order...)
			b.holds(1, 2, 500, greatest-1, greatest)
			b.round(0, order, 1, 2, 500, greatest-1, greatest)
			b.drop(order[2], api.OK)
			b.tells()
			return
		}
		for _, key := range keys {
			if !slices.Contains(order, key) {
				orders(append(slices.Clone(order), key))
			}
		}
	}
	orders(nil)
}

// P10.2: which keys Add takes.
func TestAdd(t *testing.T) {
	b := made(t, 5)
	for _, wrong := range []int{math.MinInt, -greatest, -1, 0, greatest + 1, greatest + 2, math.MaxInt} {
		b.add(wrong, api.ErrArg)
		b.holds()
	}
	b.add(greatest, api.OK)
	b.add(1, api.OK)
	b.holds(1, greatest)
	for _, wrong := range []int{1, greatest, 0, greatest + 1, math.MinInt, math.MaxInt} {
		b.add(wrong, api.ErrArg)
		b.holds(1, greatest)
	}
	b.add(2, api.OK)
	b.round(9, []int{2, 1, greatest, 0, greatest + 1}, 1, 2, greatest)
	b.tells()
}

// P10.2: a row that is added has a Next of 0, so it is due at the tick 0, and at each later one, whatever rounds there were.
func TestAddNext(t *testing.T) {
	b := made(t, 5, 7)
	b.round(0, []int{7}, 7)
	b.add(8, api.OK)
	b.add(6, api.OK)
	b.round(0, []int{7, 8, 6}, 6, 8)
	b.round(1000, []int{7, 8, 6}, 6, 7, 8)
	b.add(9, api.OK)
	b.round(0, []int{7, 8, 6, 9}, 9)
	b.tells()
}

// P10.2: that an error of Add changes nothing, not the Next of the row that has the key either.
func TestAddErrors(t *testing.T) {
	b := made(t, 5, 1, 2)
	b.round(10, []int{1, 2}, 1, 2)
	b.add(1, api.ErrArg)
	b.add(0, api.ErrArg)
	b.round(14, []int{1, 2})
	b.round(15, []int{1, 2}, 1, 2)
	b.add(2, api.ErrArg)
	b.tells()
}

// P10.2: 64 rows, and one more; and that ErrArg comes ahead of ErrFull.
func TestFull(t *testing.T) {
	for _, step := range []int{1, -1, 29} {
		b := made(t, 5)
		place := 0
		for range 64 {
			b.add(place+1, api.OK)
			place = (place + step + 64) % 64
		}
		all := upTo(64)
		b.holds(all...)
		b.round(3, all, all...)
		for _, key := range []int{65, 66, 1000, greatest - 1, greatest} {
			b.add(key, api.ErrFull)
		}
		for _, key := range []int{1, 2, 30, 64, 0, -1, greatest + 1, math.MinInt, math.MaxInt} {
			b.add(key, api.ErrArg)
		}
		b.holds(all...)
		b.round(7, all)
		b.round(8, all, all...)
		for _, key := range []int{1, 64, 30} { // the first row, the last one, one between them
			b.drop(key, api.OK)
			b.drop(key, api.ErrNone)
			b.add(key, api.OK)
			b.add(65, api.ErrFull)
			b.round(9, all, key)
		}
		b.drop(64, api.OK)
		b.add(greatest, api.OK)
		b.add(64, api.ErrFull)
		b.tells()
	}
}

// P10.2: Drop removes the row with that key, and no other; without such a row it changes nothing.
func TestDrop(t *testing.T) {
	for _, dropped := range []int{1, 5, 9, greatest} {
		b := made(t, 5, 1, 5, 9, greatest)
		b.round(10, []int{1, 9}, 1, 9)
		b.round(12, []int{1, 5, 9, greatest}, 5, greatest)
		for _, none := range []int{math.MinInt, -1, 0, 2, 4, 6, 8, 10, greatest - 1, greatest + 1, math.MaxInt} {
			b.drop(none, api.ErrNone)
		}
		b.holds(1, 5, 9, greatest)
		b.drop(dropped, api.OK)
		b.drop(dropped, api.ErrNone)
		b.tells()
	}
	b := made(t, 5)
	b.drop(1, api.ErrNone)
	b.add(1, api.OK)
	b.drop(1, api.OK)
	b.drop(1, api.ErrNone)
	b.holds()
	b.round(3, []int{1})
}

// P10.2: a key that a row had, and that was dropped, may be added again, and is a new row: its Next is 0.
func TestDroppedAnew(t *testing.T) {
	b := made(t, 5, 3, 8)
	b.round(10, []int{3, 8}, 3, 8)
	b.drop(3, api.OK)
	b.round(11, []int{3, 8})
	b.add(3, api.OK)
	b.holds(3, 8)
	b.round(11, []int{3, 8}, 3)
	b.drop(8, api.OK)
	b.add(8, api.OK)
	b.add(8, api.ErrArg)
	b.round(0, []int{3, 8}, 8)
	b.tells()
}

// P10.3: a row is not due at the tick just ahead of its Next, and it is at it.
func TestRoundAtNext(t *testing.T) {
	for _, every := range []int{1, 2, 5, 1000} {
		for _, start := range []int{0, 1, 6, 1 << 20, latest - 2000} {
			b := made(t, every, 1, 2)
			b.round(start, []int{1}, 1)
			b.round(start, []int{1, 2}, 2)
			b.round(start+every-1, []int{1, 2})
			b.round(start+every, []int{1, 2}, 1, 2)
			b.round(start+every, []int{1, 2})
			b.round(start+2*every-1, []int{2, 1})
			b.round(start+2*every, []int{2, 1}, 1, 2)
			b.tells()
		}
	}
}

// P10.3: a row that is due late is due again a period after that, not a period after its Next.
func TestRoundLate(t *testing.T) {
	b := made(t, 5, 1)
	b.round(3, []int{1}, 1)
	b.round(11, []int{1}, 1)
	b.round(13, []int{1})
	b.round(15, []int{1})
	b.round(16, []int{1}, 1)
	b.tells()
}

// outside are ticks at which no round is made.
var outside = []int{math.MinInt, math.MinInt + 1, -latest, -1000, -1, latest + 1, latest + 2, latest + 1000, greatest, greatest + 1, math.MaxInt - 1, math.MaxInt}

// P10.3: rounds beyond the first tick and the last one return no keys and change nothing, not even the Next of a row that isn't wanted.
func TestRoundOutside(t *testing.T) {
	for _, now := range outside {
		b := made(t, 5, 1, 2, 3)
		b.round(now, []int{1, 2, 3})
		b.round(10, []int{1, 2}, 1, 2)
		b.round(now, nil)
		b.round(now, []int{})
		b.round(now, []int{1})
		b.round(now, []int{1, 2, 3})
		b.round(14, []int{1, 2})
		b.round(now, nil)
		b.round(14, []int{1, 2, 3}, 3)
		b.round(now, []int{2, 2, 99})
		b.tells()
	}
}

// P10.3: rounds at the first tick and at the last one, and the longest period there.
func TestRoundAtEnds(t *testing.T) {
	for _, now := range []int{0, 1, latest - 1, latest} {
		for _, every := range []int{1, 5, 1000} {
			b := made(t, every, 1, 2, greatest)
			b.round(now, []int{greatest, 1}, 1, greatest)
			b.round(now, []int{greatest, 1, 2}, 2)
			b.round(now, []int{greatest, 1, 2})
			b.round(now, []int{2})
			b.round(now, []int{greatest, 1, 2}, 1, greatest)
		}
	}
	b := made(t, 1, 1)
	b.round(latest-1, []int{1}, 1)
	b.round(latest, []int{1}, 1)
	b.round(latest+1, []int{1})
	b.every(1000, api.OK)
	b.round(latest-1000, []int{1})
	b.round(0, nil)
	b.round(latest-1000, []int{1}, 1)
	b.round(latest-1, []int{1})
	b.round(latest, []int{1}, 1)
	b.round(latest, []int{1})
}

// P10.3: at ticks that go back a row is not due until its Next, unless it was not wanted in between; at each tick it is what it is there.
func TestRoundBack(t *testing.T) {
	b := made(t, 5, 3, 8)
	b.round(10, []int{3}, 3)
	b.round(9, []int{3, 8}, 8)
	b.round(0, []int{3, 8})
	b.round(13, []int{3, 8})
	b.round(14, []int{3, 8}, 8)
	b.round(2, []int{8})
	b.round(1, []int{3, 8}, 3)
	b.round(5, []int{3, 8})
	b.round(6, []int{3, 8}, 3)
	b.round(0, nil)
	b.round(0, []int{3, 8}, 3, 8)
	b.tells()
}

// P10.3: wanted lists of all kinds: nil, empty, not in order, with repetitions, with keys that no row has.
func TestWanted(t *testing.T) {
	for _, x := range []struct {
		wanted, due []int
	}{
		{nil, nil},
		{[]int{}, nil},
		{[]int{3}, []int{3}},
		{[]int{3, 8}, []int{3, 8}},
		{[]int{8, 3}, []int{3, 8}},
		{[]int{20, 8, 3}, []int{3, 8, 20}},
		{[]int{8, 20, 3}, []int{3, 8, 20}},
		{[]int{8, 8}, []int{8}},
		{[]int{3, 8, 3, 8, 3}, []int{3, 8}},
		{[]int{20, 20, 20, 3, 20}, []int{3, 20}},
		{[]int{99}, nil},
		{[]int{0, -1, -3, 4, 7, 9, 19, 21}, nil},
		{[]int{99, 8, 2, 20, 1, 3, 98}, []int{3, 8, 20}},
		{[]int{math.MinInt, 8, math.MaxInt, 8, greatest, greatest + 1}, []int{8}},
	} {
		b := made(t, 5, 20, 3, 8)
		b.round(30, x.wanted, x.due...)
		b.round(34, x.wanted)
		b.holds(3, 8, 20)
		b.round(35, x.wanted, x.due...)
		b.tells()
	}
	b := made(t, 5) // no row
	b.round(3, []int{3, 8})
	b.round(3, nil)
	b.add(8, api.OK) // one row
	b.round(3, []int{3})
	b.round(3, []int{3, 8}, 8)
	b.tells()
}

// P10.3: a list in which a key stands ten thousand times, and in which a thousand keys stand that no row has.
func TestWantedLong(t *testing.T) {
	all := upTo(64)
	b := made(t, 5, all...)
	var wanted []int
	for i := range 10000 {
		wanted = append(wanted, 7, 1000+i%1000)
	}
	b.round(3, wanted, 7)
	b.round(7, append(wanted, 64), 64)
	b.round(8, append(wanted, 64), 7)
	for i := range 10000 {
		wanted[i] = 64 - i%64
	}
	b.round(12, wanted, slices.DeleteFunc(slices.Clone(all), func(key int) bool { return key == 7 })...)
	b.round(13, wanted, 7)
	b.tells()
}

// P10.1, P10.3: a list that was returned is the caller's own: what becomes of it changes nothing in the plan, nor in another list.
func TestListsReturned(t *testing.T) {
	b := made(t, 5, 3, 8, 20)
	spoil := func(list []int) {
		for i := range list {
			list[i] = 99
		}
		whole := list[:cap(list)]
		for i := range whole {
			whole[i] = 99
		}
		_ = append(list, 99)
	}
	one, other := b.p.Keys(), b.p.Keys()
	spoil(one)
	if !slices.Equal(other, []int{3, 8, 20}) {
		t.Errorf("%v", other)
	}
	b.holds(3, 8, 20)
	first := b.p.Round(10, []int{3, 8, 20})
	spoil(other)
	second := b.p.Round(15, []int{20, 8, 3})
	if !slices.Equal(first, []int{3, 8, 20}) {
		t.Errorf("%v", first)
	}
	spoil(first)
	if !slices.Equal(second, []int{3, 8, 20}) {
		t.Errorf("%v", second)
	}
	spoil(second)
	b.m.round(10, []int{3, 8, 20})
	b.m.round(15, []int{3, 8, 20})
	b.holds(3, 8, 20)
	b.round(19, []int{3, 8, 20})
	b.tells()
}

// P10.3: the list that is passed in is not changed, not returned, and not kept.
func TestListPassed(t *testing.T) {
	b := made(t, 5, 3, 8, 20)
	store := []int{20, 3, 3, 99, 8, 77, 66, 55}
	wanted := store[:5]
	due := b.p.Round(10, wanted)
	if !slices.Equal(store, []int{20, 3, 3, 99, 8, 77, 66, 55}) {
		t.Errorf("changed: %v", store)
	}
	for i := range store {
		store[i] = 11
	}
	if !slices.Equal(due, []int{3, 8, 20}) {
		t.Errorf("shared: %v", due)
	}
	b.m.round(10, []int{3, 8, 20})
	b.round(14, []int{3, 8, 20})
	b.round(15, []int{3, 8}, 3, 8)
	b.round(15, []int{3, 8, 20}, 20)

	wanted = []int{3, 8, 20}
	due = b.p.Round(20, wanted)
	due[0], due[1], due[2] = 1, 2, 4
	if !slices.Equal(wanted, []int{3, 8, 20}) {
		t.Errorf("changed by the list that was returned: %v", wanted)
	}
}

// unmade are plans that New did not return.
func unmade(t *testing.T) []*Plan {
	whole := *made(t, 5, 3, 8).p
	empty := *made(t, 1000).p
	return []*Plan{nil, {}, new(Plan), &whole, &empty}
}

// P10.1 to P10.3: ErrNil comes first, whatever else is wrong, on a nil *Plan and on one that New did not return; Round and Keys return no keys there.
func TestNil(t *testing.T) {
	numbers := []int{math.MinInt, -1, 0, 1, 2, 3, 5, 8, 1000, 1001, latest, greatest, greatest + 1, math.MaxInt}
	for i, p := range unmade(t) {
		for _, n := range numbers {
			if e := p.Add(n); e != api.ErrNil {
				t.Errorf("%d: Add(%d): %d", i, n, e)
			}
			if e := p.Drop(n); e != api.ErrNil {
				t.Errorf("%d: Drop(%d): %d", i, n, e)
			}
			if e := p.Every(n); e != api.ErrNil {
				t.Errorf("%d: Every(%d): %d", i, n, e)
			}
			for _, wanted := range [][]int{nil, {}, {3}, {3, 8, 99}} {
				if due := p.Round(n, wanted); len(due) != 0 {
					t.Errorf("%d: Round(%d, %v): %v", i, n, wanted, due)
				}
			}
			if keys := p.Keys(); len(keys) != 0 {
				t.Errorf("%d: Keys: %v", i, keys)
			}
		}
	}
}

// P10.1 to P10.3: what is asked of a copy changes nothing in the plan that New returned.
func TestCopy(t *testing.T) {
	b := made(t, 5, 3, 8)
	b.round(10, []int{3, 8}, 3, 8)
	other := *b.p
	other.Add(5)
	other.Drop(3)
	other.Every(1)
	other.Round(40, []int{3})
	b.holds(3, 8)
	b.round(14, []int{3, 8})
	b.tells()
}

// P10.4: a row that is wanted in a round at every tick is due at the first one, and then once in each period: for each period.
func TestPeriod(t *testing.T) {
	for every := 1; every <= 1000; every++ {
		first := every * 37 % 11
		p := made(t, every, 6, 7, 8).p
		for now := first; now <= first+3*every; now++ {
			due := len(p.Round(now, []int{7})) == 1
			if due != ((now-first)%every == 0) {
				t.Fatalf("period %d: at %d, %d after the first: %v", every, now, now-first, due)
			}
		}
	}
}

// P10.4: a row that is not wanted is never due.
func TestNotWanted(t *testing.T) {
	for _, every := range []int{1, 2, 5, 1000} {
		p := made(t, every, 6, 7, 8).p
		for now := range 2 * every {
			if due := p.Round(now, []int{8, 9, 6}); slices.Contains(due, 7) {
				t.Fatalf("period %d: at %d: %v", every, now, due)
			}
		}
	}
}

// P10.4: a row that is wanted again after a round in which it was not is due at once, whenever that was within its period, and counts its period from there.
func TestWantedAnew(t *testing.T) {
	const every = 20
	for gap := 1; gap < 2*every; gap++ {
		for width := 1; width < 5; width++ {
			b := made(t, every, 6, 7, 8)
			b.round(0, []int{7}, 7)
			for now := 1; now < gap; now++ {
				b.alike(now, []int{7})
			}
			for now := range width {
				b.round(gap+now, nil)
			}
			anew := gap + width
			b.round(anew, []int{7}, 7)
			for now := anew + 1; now < anew+every; now++ {
				b.round(now, []int{7})
			}
			b.round(anew+every, []int{7}, 7)
			b.tells()
		}
	}
}

// chosen returns the keys whose bits are set, the least significant one being that of the first key.
func chosen(keys []int, bits int) []int {
	var all []int
	for i, key := range keys {
		if bits>>i&1 == 1 {
			all = append(all, key)
		}
	}
	return all
}

// P10.5: whether a row is due is the same as in a plan that has it alone, whatever neighbours are wanted: all ways in which a row and its two neighbours are wanted in four rounds, for several rows of ticks.
func TestIndependence(t *testing.T) {
	keys := []int{4, 5, 9}
	for _, ticks := range [][]int{{0, 1, 2, 3}, {0, 1, 3, 4}, {7, 9, 8, 10}, {5, 5, 7, 7}, {9, 2, 3, 1}} {
		for ways := range 8 * 8 * 8 * 8 {
			p := made(t, 2, keys...).p
			alone := []*Plan{made(t, 2, 4).p, made(t, 2, 5).p, made(t, 2, 9).p}
			for i, now := range ticks {
				wanted := chosen(keys, ways>>(3*i))
				due := p.Round(now, wanted)
				var each []int
				for _, one := range alone {
					each = append(each, one.Round(now, wanted)...)
				}
				if !slices.Equal(due, each) {
					t.Fatalf("%v, ways %o: at %d: %v, alone %v", ticks, ways, now, due, each)
				}
			}
		}
	}
}

// P10.5: neither do neighbours that are added or dropped between the rounds change anything for the row: all ways in which they are in 12 rounds, in one of which the row isn't wanted.
func TestIndependenceOfRows(t *testing.T) {
	for ways := range 1 << 12 {
		p, alone := made(t, 3, 5).p, made(t, 3, 5).p
		for now := range 12 {
			neighbour := []int{4, 6}[now%2]
			if ways>>now&1 == 1 {
				p.Add(neighbour)
			} else {
				p.Drop(neighbour)
			}
			wanted := []int{6, 5, 4}
			if now == 7 {
				wanted = []int{6, 4}
			}
			due, want := slices.Contains(p.Round(now, wanted), 5), len(alone.Round(now, wanted)) == 1
			if due != want {
				t.Fatalf("ways %b: at %d: %v, alone %v", ways, now, due, want)
			}
		}
	}
}

// steps are calls on a plan and its model, each of which says whether they answer alike.
func steps() []func(b *both) bool {
	var all []func(b *both) bool
	for _, now := range []int{-1, 0, 1, 3} {
		for bits := range 4 {
			wanted := chosen([]int{1, 2}, bits)
			all = append(all, func(b *both) bool {
				return slices.Equal(b.p.Round(now, wanted), b.m.round(now, wanted))
			})
		}
	}
	for _, n := range []int{0, 1, 2} {
		all = append(all,
			func(b *both) bool { return b.p.Every(n) == b.m.set(n) },
			func(b *both) bool { return b.p.Add(n) == b.m.add(n) },
			func(b *both) bool { return b.p.Drop(n) == b.m.drop(n) },
		)
	}
	return all
}

// P10.1 to P10.5: all rows of four calls, from a plan with two rows, against a plain reading of the chapter.
func TestAllRows(t *testing.T) {
	all := steps()
	count := len(all)
	for row := range count * count * count * count {
		b := made(t, 2, 2, 1)
		rest := row
		for range 4 {
			if !all[rest%count](b) {
				t.Fatalf("row %d: call %d", row, rest%count)
			}
			rest /= count
		}
		b.tells()
	}
}

// mixer returns numbers from 0 to n-1 without a visible order, others for another seed.
func mixer(seed uint32) func(n int) int {
	return func(n int) int {
		seed = seed*1664525 + 1013904223
		return int(seed>>16) % n
	}
}

// P10.1 to P10.5: long rows of calls of all kinds, against a plain reading of the chapter.
func TestLongRows(t *testing.T) {
	keys := append(upTo(80), 0, -1, greatest, greatest+1)
	ticks := append([]int{latest - 5, latest - 1, latest}, outside...)
	for seed := range uint32(100) {
		next := mixer(seed)
		b := made(t, 1+next(20))
		now := 0
		for range 1000 {
			key := keys[next(len(keys))]
			switch next(20) {
			case 0, 1, 2, 3, 4:
				b.same("Add", key, b.p.Add(key), b.m.add(key))
			case 5:
				b.same("Drop", key, b.p.Drop(key), b.m.drop(key))
			case 7:
				every := next(30)
				b.same("Every", every, b.p.Every(every), b.m.set(every))
			case 8:
				b.alike(ticks[next(len(ticks))], b.m.keys())
			case 9:
				now = max(0, now-next(30))
			default:
				now += next(4)
				var wanted []int
				for range next(100) {
					wanted = append(wanted, keys[next(len(keys))])
				}
				b.alike(now, wanted)
			}
			b.holds(b.m.keys()...)
		}
		b.tells()
	}
}

// The section 'Examples' of the chapter.
func TestExamples(t *testing.T) {
	b := made(t, 5, 3, 8)
	b.round(2, []int{3}, 3)
	b.round(4, []int{3, 8}, 8)
	b.round(7, []int{3, 8}, 3)
	b.round(8, nil)
	b.round(9, []int{3}, 3)
	b.tells()
}
