package health

import (
	"math"
	"slices"
	"strconv"
	"testing"

	"postilion/api"
	"postilion/breaker"
	"postilion/window"
)

// end is the time at which the time stays: MaxNumber - 9000.
const end = 1099511618775

// shut is a closed breaker.
var shut breaker.Breaker

// open returns a breaker that was opened at that tick, for so many ticks, without a trial.
func open(since, span int) breaker.Breaker {
	return breaker.Breaker{Opened: true, Since: since, Span: span}
}

// tried returns such a breaker with a trial in progress.
func tried(since, span int) breaker.Breaker {
	return breaker.Breaker{Opened: true, Since: since, Span: span, Trial: true}
}

// called returns a parent of that name.
func called(name string) api.Parent {
	return api.Parent{Name: name, At: api.Target{Host: api.Host{Kind: api.HkName, Text: name + ".example"}, Port: 1080}, Proto: api.PrSocks, User: "u", Pass: "p", Weight: 1}
}

// with returns a configuration with these limits and parents.
func with(fails, cool, probe int, parents ...api.Parent) api.Config {
	return api.Config{ID: "me", Limits: api.Limits{Fails: fails, Cool: cool, Probe: probe}, Parents: parents}
}

// config returns a configuration with these limits, and a parent for each letter of the names.
func config(fails, cool, probe int, names string) api.Config {
	c := with(fails, cool, probe)
	for _, name := range names {
		c.Parents = append(c.Parents, called(string(name)))
	}
	return c
}

// goodsOf returns the outcomes that a text of g and b tells, the oldest first.
func goodsOf(text string) []bool {
	var goods []bool
	for _, c := range text {
		goods = append(goods, c == 'g')
	}
	return goods
}

// keeps returns the number of the window that keeps these outcomes, at most 8.
func keeps(goods []bool) window.Window {
	bits := 0
	for _, good := range goods {
		bits *= 2
		if !good {
			bits++
		}
	}
	return window.Window(256*len(goods) + bits)
}

// state is a record, in the words of the chapter, and the Next of its row in the plan of probes.
type state struct {
	who   api.Parent
	key   int
	goods []bool
	b     breaker.Breaker
	next  int
}

// model is a health table, in the words of the chapter.
type model struct {
	now, fails, cool, every int
	last                    int
	all                     []*state
}

// bounded says whether n is from 1 to most.
func bounded(n, most int) bool { return n > 0 && n < most+1 }

// reload returns what Reload does, and New, where there is no record yet.
func (m *model) reload(c api.Config) api.Errno {
	l := c.Limits
	if len(c.Parents) > 16 || !bounded(l.Fails, 8) || !bounded(l.Cool, 1000) || !bounded(l.Probe, 1000) {
		return api.ErrArg
	}
	m.fails, m.cool, m.every = l.Fails, l.Cool, l.Probe
	var all []*state
	for _, p := range c.Parents {
		var its *state
		for _, s := range m.all {
			if its == nil && s.who.Name == p.Name && s.who.At == p.At && s.who.Proto == p.Proto && !slices.Contains(all, s) {
				its = s
			}
		}
		if its == nil {
			m.last++
			its = &state{who: p, key: m.last}
		}
		all = append(all, its)
	}
	m.all = all
	return api.OK
}

// half says whether the record's breaker is half open.
func (m *model) half(s *state) bool { return s.b.Opened && m.now >= s.b.Since+s.b.Span }

// lets returns what Lets does.
func (m *model) lets(i int) bool {
	if i < 0 || i >= len(m.all) {
		return false
	}
	s := m.all[i]
	return !s.b.Opened || m.half(s) && !s.b.Trial
}

// try returns what Try does.
func (m *model) try(i int) (bool, api.Errno) {
	if !m.lets(i) {
		return false, api.ErrArg
	}
	s := m.all[i]
	s.b.Trial = s.b.Opened
	return s.b.Trial, api.OK
}

// place returns what Place does.
func (m *model) place(key int) int {
	for i, s := range m.all {
		if s.key == key {
			return i
		}
	}
	return -1
}

// keys returns the keys of all records, in ascending order.
func (m *model) keys() []int {
	var all []int
	for _, s := range m.all {
		all = append(all, s.key)
	}
	slices.Sort(all)
	return all
}

// tick returns what Tick does.
func (m *model) tick() []int {
	if m.now < end {
		m.now++
	}
	var due []int
	for _, key := range m.keys() {
		s := m.all[m.place(key)]
		switch {
		case !m.half(s) || s.b.Trial:
			s.next = 0
		case s.next <= m.now:
			s.next = m.now + m.every
			s.b.Trial = true
			due = append(due, key)
		}
	}
	return due
}

// add adds an outcome to the record's window.
func (s *state) add(good bool) {
	s.goods = append(s.goods, good)
	if len(s.goods) > 8 {
		s.goods = s.goods[1:]
	}
}

// bads returns how many outcomes in the record's window are bad.
func (s *state) bads() int {
	n := 0
	for _, good := range s.goods {
		if !good {
			n++
		}
	}
	return n
}

// outcome returns what Good, Bad and Back do: kind is g, b or x.
func (m *model) outcome(kind rune, key int, trial bool) api.Errno {
	i := m.place(key)
	if i < 0 {
		return api.ErrNone
	}
	s := m.all[i]
	if trial != s.b.Trial || !trial && s.b.Opened {
		return api.OK
	}
	switch {
	case kind == 'g' && trial:
		s.b, s.goods = shut, nil
	case kind == 'g':
		s.add(true)
	case kind == 'b' && trial:
		s.b = open(m.now, min(2*s.b.Span, 8*m.cool))
	case kind == 'b':
		s.add(false)
		if s.bads() >= m.fails {
			s.b = open(m.now, m.cool)
		}
	case trial:
		s.b.Trial = false
	}
	return api.OK
}

// both is a health table and the model of it, which must answer alike.
type both struct {
	t *testing.T
	h *Health
	m model
}

// made returns a table of that configuration.
func made(t *testing.T, c api.Config) *both {
	t.Helper()
	h, e := New(c)
	b := &both{t: t, h: h}
	if want := b.m.reload(c); h == nil || e != api.OK || want != api.OK {
		t.Fatalf("New: %v, %d (the model says %d)", h, e, want)
	}
	b.tells()
	return b
}

// same fails the test unless the error, the table's and the model's, is the one that is written out.
func (b *both) same(call string, got, model, want api.Errno) {
	b.t.Helper()
	if got != want || got != model {
		b.t.Fatalf("at %d: %s: %d, want %d (the model says %d)", b.m.now, call, got, want, model)
	}
}

// reload reloads a configuration, which must answer that.
func (b *both) reload(c api.Config, want api.Errno) {
	b.t.Helper()
	b.same("Reload", b.h.Reload(c), b.m.reload(c), want)
	b.tells()
}

// tick lets a tick pass, at which these keys must be due.
func (b *both) tick(want ...int) {
	b.t.Helper()
	got, model := b.h.Tick(), b.m.tick()
	if !slices.Equal(got, want) || !slices.Equal(got, model) {
		b.t.Fatalf("Tick to %d: %v, want %v (the model says %v)", b.m.now, got, want, model)
	}
	b.tells()
}

// ticks lets so many ticks pass, at which no key must be due.
func (b *both) ticks(n int) {
	b.t.Helper()
	for range n {
		b.tick()
	}
}

// try tries the parent with index i, which must answer that.
func (b *both) try(i int, trial bool, want api.Errno) {
	b.t.Helper()
	got, e := b.h.Try(i)
	model, modelE := b.m.try(i)
	b.same("Try", e, modelE, want)
	if got != trial || got != model {
		b.t.Fatalf("at %d: Try(%d): %v, want %v (the model says %v)", b.m.now, i, got, trial, model)
	}
	b.tells()
}

// outcome tells the table of an outcome: g is Good, b is Bad, x is Back.
func (b *both) outcome(kind rune, key int, trial bool) api.Errno {
	switch kind {
	case 'g':
		return b.h.Good(key, trial)
	case 'b':
		return b.h.Bad(key, trial)
	}
	return b.h.Back(key, trial)
}

// come tells the table of outcomes that are not those of a trial, one for each letter.
func (b *both) come(key int, kinds string) {
	b.t.Helper()
	b.each(key, kinds, false, api.OK)
}

// ends tells the table of an outcome of a trial.
func (b *both) ends(key int, kind string) {
	b.t.Helper()
	b.each(key, kind, true, api.OK)
}

// each tells the table of outcomes, each of which must answer that.
func (b *both) each(key int, kinds string, trial bool, want api.Errno) {
	b.t.Helper()
	for _, kind := range kinds {
		b.same(string(kind)+" of "+strconv.Itoa(key), b.outcome(kind, key, trial), b.m.outcome(kind, key, trial), want)
		b.tells()
	}
}

// is fails the test unless the parent with index i has this key, keeps these outcomes and has this breaker.
func (b *both) is(i, key int, goods string, br breaker.Breaker) {
	b.t.Helper()
	w, got := b.h.Tells(i)
	if b.h.Key(i) != key || w != keeps(goodsOf(goods)) || got != br {
		b.t.Fatalf("at %d: %d: key %d, %d, %v; want %d, %q, %v", b.m.now, i, b.h.Key(i), w, got, key, goods, br)
	}
}

// tells fails the test unless the table is just what the model is.
func (b *both) tells() {
	b.t.Helper()
	if b.h.Now() != b.m.now || len(b.h.records) != len(b.m.all) || !slices.Equal(b.h.probes.Keys(), b.m.keys()) {
		b.t.Fatalf("Now %d, %d records, rows %v; want %d, %d, %v", b.h.Now(), len(b.h.records), b.h.probes.Keys(), b.m.now, len(b.m.all), b.m.keys())
	}
	for i, s := range b.m.all {
		w, br := b.h.Tells(i)
		if b.h.Key(i) != s.key || b.h.Place(s.key) != i || w != keeps(s.goods) || br != s.b || b.h.Lets(i) != b.m.lets(i) {
			b.t.Fatalf("at %d: %d: key %d, place %d, %d, %v, %v; want %v", b.m.now, i, b.h.Key(i), b.h.Place(s.key), w, br, b.h.Lets(i), *s)
		}
	}
}

// rows fails the test unless the keys are due, from here on, at the same ticks as in the model, where each trial is given back at once.
func (b *both) rows(ticks int) {
	b.t.Helper()
	for range ticks {
		got, want := b.h.Tick(), b.m.tick()
		if !slices.Equal(got, want) {
			b.t.Fatalf("Tick to %d: %v, want %v", b.m.now, got, want)
		}
		for _, key := range got {
			b.ends(key, "x")
		}
	}
	b.tells()
}

// trip tells the table of bad outcomes of the key until its breaker, which is closed, is open.
func (b *both) trip(key int) {
	b.t.Helper()
	for range 9 {
		if !b.m.lets(b.m.place(key)) {
			return
		}
		b.come(key, "b")
	}
	b.t.Fatalf("%d does not open", key)
}

// limited fails the test unless the first parent, whose record is new and has that key, is held to the limits of the configuration: it opens with Fails bad outcomes, for Cool ticks, and is due once in Probe ticks. Without a parent nothing is ever due.
func (b *both) limited(c api.Config, key int) {
	b.t.Helper()
	if len(c.Parents) == 0 {
		b.ticks(3)
		return
	}
	for i := range c.Limits.Fails {
		b.is(0, key, "bbbbbbbb"[:i], shut)
		b.come(key, "b")
	}
	b.is(0, key, "bbbbbbbb"[:c.Limits.Fails], open(0, c.Limits.Cool))
	b.ticks(c.Limits.Cool - 1)
	b.tick(key)
	b.ends(key, "x")
	b.ticks(c.Limits.Probe - 1)
	b.tick(key)
}

// upTo returns the numbers from 1 to n.
func upTo(n int) []int {
	var all []int
	for i := range n {
		all = append(all, i+1)
	}
	return all
}

// letters are as many names as there may be parents, and one more.
const letters = "abcdefghijklmnopq"

// wrong are configurations that New and Reload don't take.
func wrong() []api.Config {
	var all []api.Config
	for _, n := range []int{math.MinInt, -1, 0, 9, 10, 1000, math.MaxInt} {
		all = append(all, config(n, 10, 5, "ab"))
	}
	for _, n := range []int{math.MinInt, -1000, -1, 0, 1001, 1002, 8000, 1 << 40, math.MaxInt} {
		all = append(all, config(2, n, 5, "ab"), config(2, 10, n, "ab"), config(2, n, n, ""), config(0, n, 5, "ab"))
	}
	many := with(2, 10, 5)
	for i := range 1000 {
		many.Parents = append(many.Parents, called(strconv.Itoa(i)))
	}
	return append(all, config(2, 10, 5, letters), config(0, 0, 0, letters), config(9, 1001, 1001, letters), many, api.Config{}, api.Config{Parents: many.Parents[:2]})
}

// right are configurations that they take, each at an edge.
func right() []api.Config {
	return []api.Config{
		config(2, 10, 5, ""), config(2, 10, 5, "a"), config(2, 10, 5, letters[:15]), config(2, 10, 5, letters[:16]),
		config(1, 10, 5, "ab"), config(7, 10, 5, "ab"), config(8, 10, 5, "ab"),
		config(2, 1, 5, "ab"), config(2, 2, 5, "ab"), config(2, 999, 5, "ab"), config(2, 1000, 5, "ab"),
		config(2, 10, 1, "ab"), config(2, 10, 2, "ab"), config(2, 10, 999, "ab"), config(2, 10, 1000, "ab"),
		config(1, 1, 1, ""), config(8, 1000, 1000, letters[:16]),
		with(2, 10, 5, api.Parent{}, api.Parent{}, api.Parent{Proto: 255, Weight: -1}),
	}
}

// P11.1: what New doesn't take.
func TestNewWrong(t *testing.T) {
	for i, c := range wrong() {
		if h, e := New(c); h != nil || e != api.ErrArg {
			t.Errorf("%d: %v, %d", i, h, e)
		}
	}
}

// P11.1: what New takes, and that each parent has a new key, an empty window and a closed breaker, in order; that the limits are the configuration's.
func TestNew(t *testing.T) {
	for _, c := range right() {
		b := made(t, c)
		if b.h.Now() != 0 {
			t.Errorf("Now %d", b.h.Now())
		}
		for i := range c.Parents {
			b.is(i, i+1, "", shut)
			b.try(i, false, api.OK)
		}
		b.limited(c, 1)
	}
}

// P11.1: tables of the same configuration are not one table.
func TestNewIsFresh(t *testing.T) {
	c := config(2, 10, 5, "ab")
	a, b := made(t, c), made(t, c)
	a.trip(1)
	a.tick()
	b.is(0, 1, "", shut)
	b.tells()
	b.reload(config(2, 10, 5, "xyz"), api.OK)
	a.is(0, 1, "bb", open(0, 10))
	a.tells()
	a.reload(config(2, 10, 5, "v"), api.OK)
	a.is(0, 3, "", shut)
	b.is(0, 3, "", shut)
	b.tells()
}

// P11.1: the time is 0, and grows by 1 with each tick and with nothing else.
func TestNow(t *testing.T) {
	b := made(t, config(1, 4, 3, "ab"))
	for n := range 50 {
		if b.h.Now() != n {
			t.Fatalf("%d, want %d", b.h.Now(), n)
		}
		b.try(1, false, api.OK)
		b.come(1, "gbx")
		b.reload(config(1, 4, 3, "ba"[n%2:]+"ab"), api.OK)
		b.reload(config(9, 4, 3, "ab"), api.ErrArg)
		b.reload(config(1, 4, 3, "ab"), api.OK)
		if b.h.Now() != n {
			t.Fatalf("%d, want %d", b.h.Now(), n)
		}
		b.h.Tick()
		b.m.tick()
	}
}

// stages are tables of three parents: one that is closed, with a good and a bad outcome; one that is open; one that is half open, with a trial or without.
func stages(t *testing.T, trial bool) *both {
	t.Helper()
	b := made(t, config(2, 10, 5, "abc"))
	b.come(3, "gbb")
	b.ticks(9)
	b.tick(3)
	if !trial {
		b.ends(3, "x")
	}
	b.come(1, "gb")
	b.come(2, "bb")
	b.is(0, 1, "gb", shut)
	b.is(1, 2, "bb", open(10, 10))
	if trial {
		b.is(2, 3, "gbb", tried(0, 10))
	} else {
		b.is(2, 3, "gbb", open(0, 10))
	}
	return b
}

// P11.2: what Reload doesn't take changes nothing, neither what is told, nor the limits, nor at which ticks keys are due.
func TestReloadWrong(t *testing.T) {
	for _, c := range wrong() {
		for _, trial := range []bool{false, true} {
			b := stages(t, trial)
			b.reload(c, api.ErrArg)
			b.come(1, "b")
			b.is(0, 1, "gbb", open(10, 10))
			b.rows(40)
			b.reload(config(2, 10, 5, "abcd"), api.OK)
			b.is(3, 4, "", shut)
		}
	}
}

// P11.2: what Reload takes: each edge, with the limits of the new configuration from there on.
func TestReload(t *testing.T) {
	for _, c := range right() {
		b := made(t, config(3, 20, 7, "xy"))
		b.come(1, "gb")
		b.reload(c, api.OK)
		for i := range c.Parents {
			b.is(i, i+3, "", shut)
		}
		b.limited(c, 3)
	}
}

// P11.2, P11.9: the same parents in any order keep their keys, windows, breakers and rows; nothing changes but indices.
func TestReloadOrder(t *testing.T) {
	for _, x := range []struct {
		names string
		keys  []int
	}{
		{"abc", []int{1, 2, 3}}, {"acb", []int{1, 3, 2}}, {"bac", []int{2, 1, 3}},
		{"bca", []int{2, 3, 1}}, {"cab", []int{3, 1, 2}}, {"cba", []int{3, 2, 1}},
	} {
		for _, trial := range []bool{false, true} {
			b := stages(t, trial)
			b.ticks(3)
			b.reload(config(2, 10, 5, x.names), api.OK)
			for i, key := range x.keys {
				switch key {
				case 1:
					b.is(i, 1, "gb", shut)
				case 2:
					b.is(i, 2, "bb", open(10, 10))
				default:
					br := open(0, 10)
					br.Trial = trial
					b.is(i, 3, "gbb", br)
				}
			}
			b.come(1, "b")
			b.rows(40)
			b.reload(config(2, 10, 5, "abcd"), api.OK) // no key was used up
			b.is(3, 4, "", shut)
		}
	}
}

// P11.2: some of the parents, and others beside them: those that stay keep what they have, the others are new, and those that are gone are forgotten, even if they come back.
func TestReloadSome(t *testing.T) {
	b := stages(t, true)
	b.reload(config(2, 10, 5, "cxay"), api.OK)
	b.is(0, 3, "gbb", tried(0, 10))
	b.is(1, 4, "", shut)
	b.is(2, 1, "gb", shut)
	b.is(3, 5, "", shut)
	if b.h.Place(2) != -1 {
		t.Errorf("%d", b.h.Place(2))
	}
	b.each(2, "gbx", false, api.ErrNone)
	b.reload(config(2, 10, 5, "bxc"), api.OK)
	b.is(0, 6, "", shut)
	b.is(1, 4, "", shut)
	b.is(2, 3, "gbb", tried(0, 10))
	b.ends(3, "b")
	b.is(2, 3, "gbb", open(10, 20))
	b.reload(config(2, 10, 5, "c"), api.OK)
	b.is(0, 3, "gbb", open(10, 20))
	b.ticks(19)
	b.tick(3)
	b.ends(3, "x")
	b.rows(40)
}

// P11.2, P11.9: other parents, or none, discard what was recorded; the rows of those that are gone are gone.
func TestReloadOthers(t *testing.T) {
	for _, trial := range []bool{false, true} {
		for _, names := range []string{"", "x", "xyz", letters[1:17]} {
			b := stages(t, trial)
			c := config(2, 10, 5, names)
			for i := range c.Parents {
				c.Parents[i].At.Port = 1 // so none is the same
			}
			b.reload(c, api.OK)
			for i := range c.Parents {
				b.is(i, i+4, "", shut)
			}
			var rows []int
			for i := range names {
				rows = append(rows, i+4)
			}
			if got := b.h.probes.Keys(); !slices.Equal(got, rows) {
				t.Errorf("rows %v, want %v", got, rows)
			}
			for key := 1; key < 4; key++ {
				b.each(key, "gbx", false, api.ErrNone)
				b.each(key, "gbx", true, api.ErrNone)
			}
			b.ticks(20)
			b.reload(config(2, 10, 5, "abc"), api.OK)
			for i := range 3 {
				b.is(i, 4+len(names)+i, "", shut)
			}
			b.ticks(20)
		}
	}
}

// P11.2: what makes a parent the same: its Name, its At and its Proto, each for itself; not its user, its password or its weight.
func TestReloadSame(t *testing.T) {
	for i, x := range []struct {
		change func(p *api.Parent)
		same   bool
	}{
		{func(p *api.Parent) {}, true},
		{func(p *api.Parent) { p.User = "other" }, true},
		{func(p *api.Parent) { p.Pass = "other" }, true},
		{func(p *api.Parent) { p.Weight = 99 }, true},
		{func(p *api.Parent) { p.User, p.Pass, p.Weight = "", "", 0 }, true},
		{func(p *api.Parent) { p.Name = "b" }, false},
		{func(p *api.Parent) { p.Name = "A" }, false},
		{func(p *api.Parent) { p.Name = "" }, false},
		{func(p *api.Parent) { p.At.Port = 1081 }, false},
		{func(p *api.Parent) { p.At.Host.Text = "b.example" }, false},
		{func(p *api.Parent) { p.At.Host.Kind = api.HkV4 }, false},
		{func(p *api.Parent) { p.At = api.Target{} }, false},
		{func(p *api.Parent) { p.Proto = api.PrConnect }, false},
		{func(p *api.Parent) { p.Proto = api.PrNone }, false},
	} {
		b := made(t, config(2, 10, 5, "a"))
		b.trip(1)
		p := called("a")
		x.change(&p)
		b.reload(with(2, 10, 5, p), api.OK)
		if x.same {
			b.is(0, 1, "bb", open(0, 10))
		} else {
			b.is(0, 2, "", shut)
		}
		if got := b.h.Key(0) == 1; got != x.same {
			t.Errorf("%d: %v", i, got)
		}
		b.rows(20)
	}
}

// P11.2: what is compared is the configuration just ahead: a parent that was changed, and then changed back, is new.
func TestReloadLastOne(t *testing.T) {
	b := made(t, config(2, 10, 5, "a"))
	b.come(1, "b")
	other := called("a")
	other.Proto = api.PrConnect
	b.reload(with(2, 10, 5, other), api.OK)
	b.come(2, "bg")
	b.reload(config(2, 10, 5, "a"), api.OK)
	b.is(0, 3, "", shut)
	b.reload(with(2, 10, 5, other, called("a")), api.OK)
	b.is(0, 4, "", shut)
	b.is(1, 3, "", shut)
}

// P11.2: parents that stand there twice: each takes over the first record in order that has not been taken over yet.
func TestReloadTwice(t *testing.T) {
	start := func() *both {
		b := made(t, config(3, 10, 5, "abaa"))
		b.come(1, "b")
		b.come(2, "gg")
		b.come(3, "bg")
		b.come(4, "bbb")
		return b
	}
	first, second, third := "b", "bg", "bbb"
	b := start()
	b.reload(config(3, 10, 5, "aaab"), api.OK)
	b.is(0, 1, first, shut)
	b.is(1, 3, second, shut)
	b.is(2, 4, third, open(0, 10))
	b.is(3, 2, "gg", shut)

	b = start()
	b.reload(config(3, 10, 5, "ba"), api.OK)
	b.is(0, 2, "gg", shut)
	b.is(1, 1, first, shut)
	b.reload(config(3, 10, 5, "aba"), api.OK)
	b.is(0, 1, first, shut)
	b.is(1, 2, "gg", shut)
	b.is(2, 5, "", shut)

	b = start()
	b.reload(config(3, 10, 5, "aabaaba"), api.OK)
	b.is(0, 1, first, shut)
	b.is(1, 3, second, shut)
	b.is(2, 2, "gg", shut)
	b.is(3, 4, third, open(0, 10))
	b.is(4, 5, "", shut)
	b.is(5, 6, "", shut)
	b.is(6, 7, "", shut)
	b.reload(config(3, 10, 5, "baaaaba"), api.OK)
	for i, key := range []int{2, 1, 3, 4, 5, 6, 7} {
		if b.h.Key(i) != key {
			t.Errorf("%d: %d, want %d", i, b.h.Key(i), key)
		}
	}
	b.rows(30)
}

// P11.2: the first record in order is that of the order before the reload, not the one with the least key.
func TestReloadTwiceByOrder(t *testing.T) {
	b := made(t, config(3, 10, 5, "a"))
	b.come(1, "b")
	other := called("a")
	other.Weight = 7 // of the same name, address and protocol, so it is the same parent
	b.reload(with(3, 10, 5, other, called("b"), called("a")), api.OK)
	b.is(0, 1, "b", shut)
	b.is(2, 3, "", shut)
	b.reload(with(3, 10, 5, called("b"), called("a"), other), api.OK)
	b.is(0, 2, "", shut)
	b.is(1, 1, "b", shut)
	b.is(2, 3, "", shut)

	// Sixteen of them: each keeps its place.
	c := config(3, 10, 5, "aaaaaaaaaaaaaaaa")
	b = made(t, c)
	for i := range 16 {
		b.come(i+1, "bgbgbgbgbgbgbgbg"[:i/2])
	}
	b.reload(c, api.OK)
	for i := range 16 {
		if b.h.Key(i) != i+1 {
			t.Errorf("%d: %d", i, b.h.Key(i))
		}
	}
}

// P11.2: a reload amid a trial: it goes on, lets nothing else pass, and its outcome counts; once, and under its key.
func TestReloadAmidTrial(t *testing.T) {
	for _, x := range []struct {
		kind  string
		goods string
		want  breaker.Breaker
	}{
		{"g", "", shut},
		{"b", "gbb", open(12, 20)},
		{"x", "gbb", open(0, 10)},
	} {
		b := stages(t, true)
		b.reload(config(2, 10, 5, "cab"), api.OK)
		b.try(0, false, api.ErrArg)
		b.ticks(2)
		b.try(0, false, api.ErrArg)
		b.ends(3, x.kind)
		b.is(0, 3, x.goods, x.want)
		b.ends(3, "gbx")
		b.is(0, 3, x.goods, x.want)
		b.rows(40)
	}
	b := stages(t, true)
	b.reload(config(2, 10, 5, "ab"), api.OK)
	b.reload(config(2, 10, 5, "abc"), api.OK)
	b.each(3, "gbx", true, api.ErrNone)
	b.ends(4, "gbx")
	b.is(2, 4, "", shut)
}

// P11.2: the limits of the new configuration hold for what comes from there on; a breaker that is open stays so for its Span, and one that is closed with enough bad outcomes opens with the next bad one.
func TestReloadLimits(t *testing.T) {
	b := made(t, config(4, 10, 5, "ab"))
	b.come(1, "bbb")
	b.come(2, "bbbb")
	b.reload(config(2, 3, 5, "ab"), api.OK)
	b.is(0, 1, "bbb", shut)
	b.is(1, 2, "bbbb", open(0, 10))
	b.come(1, "g")
	b.is(0, 1, "bbbg", shut)
	b.tick()
	b.come(1, "b")
	b.is(0, 1, "bbbgb", open(1, 3))
	b.ticks(2)
	b.reload(config(8, 1000, 5, "ab"), api.OK)
	b.tick(1)
	b.ends(1, "b")
	b.is(0, 1, "bbbgb", open(4, 6))
	b.ticks(5)
	b.tick(1, 2)
	b.reload(config(8, 1, 5, "ab"), api.OK)
	b.ends(1, "b")
	b.is(0, 1, "bbbgb", open(10, 8))
	b.ends(2, "b")
	b.is(1, 2, "bbbb", open(10, 8))

	b = made(t, config(1, 10, 5, "a"))
	b.reload(config(8, 10, 5, "a"), api.OK)
	b.come(1, "bbbbbbb")
	b.is(0, 1, "bbbbbbb", shut)
	b.come(1, "b")
	b.is(0, 1, "bbbbbbbb", open(0, 10))
}

// P11.2: a record that is taken over keeps its row, and so the tick at which it is due next; one that is new is due as soon as it is wanted.
func TestReloadRows(t *testing.T) {
	for gap := range 5 {
		for _, names := range []string{"ab", "ba", "aab", "xayb"} {
			b := made(t, config(1, 1, 5, "ab"))
			b.come(1, "b")
			b.tick(1)
			b.ends(1, "x")
			b.ticks(gap)
			b.reload(config(1, 1, 5, names), api.OK)
			b.ticks(4 - gap)
			b.tick(1)
			b.rows(20)
		}
	}
	b := made(t, config(1, 1, 5, "a"))
	b.come(1, "b")
	b.tick(1)
	b.ends(1, "x")
	b.reload(config(1, 1, 5, ""), api.OK)
	b.reload(config(1, 1, 5, "a"), api.OK)
	b.come(2, "b")
	b.tick(2)
}

// P11.2: another period Probe holds for the rounds that follow; a row stays due at the tick at which it is.
func TestReloadProbe(t *testing.T) {
	b := made(t, config(1, 1, 5, "a"))
	b.come(1, "b")
	b.tick(1)
	b.ends(1, "x")
	b.reload(config(1, 1, 2, "a"), api.OK)
	b.ticks(4)
	b.tick(1)
	b.ends(1, "x")
	b.tick()
	b.tick(1)
	b.ends(1, "x")
	b.reload(config(1, 1, 1000, "a"), api.OK)
	b.tick()
	b.tick(1)
	b.ends(1, "x")
	b.reload(config(1, 1, 1, "a"), api.OK)
	b.reload(config(1, 1, 0, "a"), api.ErrArg)
	b.reload(config(1, 1, 1001, "a"), api.ErrArg)
	b.ticks(999)
	b.tick(1)
	b.ends(1, "x")
	b.tick(1)
	b.ends(1, "x")
	b.tick(1)
}

// P11.2: keys rise from 1, and none is used twice, whatever is removed, and whatever is not taken.
func TestKeysRise(t *testing.T) {
	b := made(t, config(2, 10, 5, "abc"))
	used := map[int]bool{}
	last := 0
	note := func() {
		for i := range b.m.all {
			key := b.h.Key(i)
			if !used[key] {
				if key != last+1 {
					t.Fatalf("%d after %d", key, last)
				}
				used[key], last = true, key
			}
		}
	}
	note()
	for _, names := range []string{"abc", "", "", "c", "cba", "c", "b", "", "a", "b", "a", letters[:16], "", letters[1:17], "qq", "q", "qq"} {
		b.reload(config(2, 10, 5, names), api.OK)
		note()
		b.reload(config(2, 10, 5, letters), api.ErrArg)
		note()
	}
	if last != 3+0+1+2+1+1+1+1+15+16+1+1 {
		t.Errorf("%d", last)
	}
}

// places are indices at which there is no parent, in a table of n.
func places(n int) []int {
	return []int{math.MinInt, -n, -2, -1, n, n + 1, 2 * n, 1 << 40, math.MaxInt}
}

// P11.3: Key, Place, Lets and Tells of each parent, and where there is none.
func TestPlaces(t *testing.T) {
	for n := range 17 {
		b := made(t, config(2, 10, 5, letters[:n]))
		for i := range n {
			if b.h.Key(i) != i+1 || b.h.Place(i+1) != i || !b.h.Lets(i) {
				t.Errorf("%d of %d: %d, %d, %v", i, n, b.h.Key(i), b.h.Place(i+1), b.h.Lets(i))
			}
			b.come(i+1, "b")
		}
		for _, i := range places(n) {
			if n == 0 && i == 0 || i >= 0 && i < n {
				continue
			}
			w, br := b.h.Tells(i)
			if b.h.Key(i) != 0 || b.h.Lets(i) || w != 0 || br != shut {
				t.Errorf("%d of %d: %d, %v, %d, %v", i, n, b.h.Key(i), b.h.Lets(i), w, br)
			}
		}
		for _, key := range []int{math.MinInt, -n, -1, 0, n + 1, n + 2, 1 << 40, math.MaxInt} {
			if key > 0 && key <= n {
				continue
			}
			if b.h.Place(key) != -1 {
				t.Errorf("%d of %d: %d", key, n, b.h.Place(key))
			}
			b.each(key, "gbx", false, api.ErrNone)
			b.each(key, "gbx", true, api.ErrNone)
		}
	}
	empty := made(t, config(2, 10, 5, ""))
	for _, i := range []int{-1, 0, 1} {
		w, br := empty.h.Tells(i)
		if empty.h.Key(i) != 0 || empty.h.Place(i) != -1 || empty.h.Lets(i) || w != 0 || br != shut {
			t.Errorf("%d of none", i)
		}
		empty.try(i, false, api.ErrArg)
	}
}

// P11.3: keys of records that were removed have no place; the others have theirs.
func TestPlaceRemoved(t *testing.T) {
	b := made(t, config(2, 10, 5, "abc"))
	b.reload(config(2, 10, 5, "cx"), api.OK)
	for key, want := range map[int]int{-1: -1, 0: -1, 1: -1, 2: -1, 3: 0, 4: 1, 5: -1} {
		if got := b.h.Place(key); got != want {
			t.Errorf("%d: %d, want %d", key, got, want)
		}
	}
	if b.h.Key(2) != 0 || b.h.Lets(2) {
		t.Errorf("%d, %v", b.h.Key(2), b.h.Lets(2))
	}
	for _, key := range []int{-1, 0, 1, 2, 5} {
		b.each(key, "gbx", false, api.ErrNone)
		b.each(key, "gbx", true, api.ErrNone)
	}
}

// P11.3: Lets at the ticks around those at which a breaker is half open, asked again and again.
func TestLets(t *testing.T) {
	b := made(t, config(1, 10, 1000, "ab"))
	lets := func(want bool) {
		t.Helper()
		for range 3 {
			if b.h.Lets(0) != want || !b.h.Lets(1) {
				t.Fatalf("at %d: %v, %v", b.h.Now(), b.h.Lets(0), b.h.Lets(1))
			}
		}
	}
	b.ticks(7)
	lets(true)
	b.come(1, "b")
	for range 9 {
		lets(false)
		b.tick()
	}
	lets(false)
	b.tick(1)
	lets(false)
	b.ends(1, "x")
	lets(true)
	b.tick()
	lets(true)
	b.try(0, true, api.OK)
	lets(false)
	b.ends(1, "g")
	lets(true)
}

// P11.4: Try of a closed breaker, again and again; of an open one; of a half open one, once; of no parent.
func TestTry(t *testing.T) {
	b := made(t, config(2, 4, 1000, "abc"))
	for range 5 {
		b.try(0, false, api.OK)
		b.try(1, false, api.OK)
		b.is(0, 1, "", shut)
	}
	b.trip(2)
	for range 3 {
		b.try(1, false, api.ErrArg)
		b.is(1, 2, "bb", open(0, 4))
		b.tick()
	}
	b.try(1, false, api.ErrArg)
	b.tick(2)
	b.try(1, false, api.ErrArg)
	b.is(1, 2, "bb", tried(0, 4))
	b.ends(2, "x")
	b.try(1, true, api.OK)
	b.is(1, 2, "bb", tried(0, 4))
	for range 3 {
		b.try(1, false, api.ErrArg)
		b.try(0, false, api.OK)
		b.try(2, false, api.OK)
		b.tick()
	}
	b.ends(2, "g")
	b.try(1, false, api.OK)
	for _, i := range places(3) {
		b.try(i, false, api.ErrArg)
	}
	b.is(0, 1, "", shut)
	b.is(1, 2, "", shut)
	b.is(2, 3, "", shut)
}

// P11.4: Try makes the trial of the parent with that index, whatever its key.
func TestTryByIndex(t *testing.T) {
	b := made(t, config(1, 1, 1000, "abc"))
	b.trip(1)
	b.trip(3)
	b.tick(1, 3)
	b.ends(1, "x")
	b.ends(3, "x")
	b.reload(config(1, 1, 1000, "cab"), api.OK)
	b.try(0, true, api.OK)
	b.is(0, 3, "b", tried(0, 1))
	b.is(1, 1, "b", open(0, 1))
	b.try(2, false, api.OK)
	b.is(2, 2, "", shut)
}

// P11.5: each outcome, of a trial and not, for a breaker that is closed, open, half open, and half open with a trial.
func TestOutcomes(t *testing.T) {
	for _, x := range []struct {
		stage string
		kind  string
		trial bool
		goods string
		want  breaker.Breaker
	}{
		{"closed", "g", false, "gbg", shut},
		{"closed", "g", true, "gb", shut},
		{"closed", "b", false, "gbb", shut},
		{"closed", "bb", false, "gbbb", open(14, 10)},
		{"closed", "b", true, "gb", shut},
		{"closed", "bbbbbbbb", true, "gb", shut},
		{"closed", "x", false, "gb", shut},
		{"closed", "x", true, "gb", shut},
		{"open", "g", false, "gbbb", open(14, 10)},
		{"open", "g", true, "gbbb", open(14, 10)},
		{"open", "b", false, "gbbb", open(14, 10)},
		{"open", "b", true, "gbbb", open(14, 10)},
		{"open", "x", false, "gbbb", open(14, 10)},
		{"open", "x", true, "gbbb", open(14, 10)},
		{"half", "g", false, "gbbb", open(4, 10)},
		{"half", "g", true, "gbbb", open(4, 10)},
		{"half", "b", false, "gbbb", open(4, 10)},
		{"half", "b", true, "gbbb", open(4, 10)},
		{"half", "x", false, "gbbb", open(4, 10)},
		{"half", "x", true, "gbbb", open(4, 10)},
		{"trial", "g", false, "gbbb", tried(4, 10)},
		{"trial", "g", true, "", shut},
		{"trial", "gg", true, "", shut},
		{"trial", "gb", true, "", shut},
		{"trial", "b", false, "gbbb", tried(4, 10)},
		{"trial", "bbbbbbbb", false, "gbbb", tried(4, 10)},
		{"trial", "b", true, "gbbb", open(14, 20)},
		{"trial", "bb", true, "gbbb", open(14, 20)},
		{"trial", "bg", true, "gbbb", open(14, 20)},
		{"trial", "x", false, "gbbb", tried(4, 10)},
		{"trial", "x", true, "gbbb", open(4, 10)},
		{"trial", "xg", true, "gbbb", open(4, 10)},
		{"trial", "xb", true, "gbbb", open(4, 10)},
	} {
		b := made(t, config(3, 10, 1000, "ab"))
		b.ticks(4)
		b.come(1, "gb")
		b.come(2, "gbgb")
		switch x.stage {
		case "closed":
			b.ticks(10)
		case "open":
			b.ticks(10)
			b.come(1, "bb")
		default:
			b.come(1, "bb")
			b.ticks(9)
			b.tick(1)
			if x.stage == "half" {
				b.ends(1, "x")
			}
		}
		b.each(1, x.kind, x.trial, api.OK)
		b.is(0, 1, x.goods, x.want)
		b.is(1, 2, "gbgb", shut)
		b.rows(30)
	}
}

// P11.5: Fails bad outcomes in a row open the breaker, and one less doesn't; with a good one between they do as long as all are in the window.
func TestFails(t *testing.T) {
	for fails := 1; fails <= 8; fails++ {
		row := "bbbbbbbb"[:fails]
		less := row[1:]
		b := made(t, config(fails, 10, 5, "a"))
		b.come(1, less)
		b.is(0, 1, less, shut)
		b.come(1, "b")
		b.is(0, 1, row, open(0, 10))

		b = made(t, config(fails, 10, 5, "a"))
		b.come(1, less+"g")
		b.is(0, 1, less+"g", shut)
		b.come(1, "b")
		if fails < 8 {
			b.is(0, 1, less+"gb", open(0, 10))
		} else { // the first bad one was dropped
			b.is(0, 1, "bbbbbbgb", shut)
			b.come(1, "bbbbbb")
			b.is(0, 1, "gbbbbbbb", shut)
			b.come(1, "b")
			b.is(0, 1, "bbbbbbbb", open(0, 10))
		}

		b = made(t, config(fails, 10, 5, "a"))
		b.come(1, less+"gggggggg"+less)
		b.is(0, 1, "gggggggg"[:8-len(less)]+less, shut)
		b.come(1, "g")
		b.come(1, "gggggggg"[:8-fails]+"b")
		b.tells()
	}
}

// P11.5: only bad outcomes that are still in the window count towards Fails: two bad ones with so many good ones between.
func TestFailsSlide(t *testing.T) {
	for between := range 12 {
		b := made(t, config(2, 10, 5, "a"))
		b.come(1, "b"+"gggggggggggg"[:between]+"b")
		if got := !b.h.Lets(0); got != (between <= 6) {
			t.Errorf("%d between: %v", between, got)
		}
	}
}

// P11.5: a good trial empties the window, so that Fails bad outcomes are needed anew, and the next span is Cool again.
func TestGoodTrial(t *testing.T) {
	for fails := 1; fails <= 8; fails++ {
		b := made(t, config(fails, 3, 1, "a"))
		for range 3 {
			b.trip(1)
			b.ticks(2)
			b.tick(1)
			b.ends(1, "b")
			b.ticks(5)
			b.tick(1)
			b.ends(1, "g")
			b.is(0, 1, "", shut)
			b.come(1, "bbbbbbbb"[:fails-1])
			if !b.h.Lets(0) {
				t.Errorf("Fails %d", fails)
			}
		}
	}
}

// P11.5: each bad trial doubles the span, up to 8 times Cool; a trial that is given back changes no span.
func TestBackOff(t *testing.T) {
	for _, cool := range []int{1, 2, 3, 10, 125, 999, 1000} {
		b := made(t, config(2, cool, 1000, "a"))
		b.trip(1)
		for _, times := range []int{1, 2, 4, 8, 8, 8} {
			_, br := b.h.Tells(0)
			if br != open(b.h.Now(), times*cool) {
				t.Errorf("Cool %d, times %d: %v", cool, times, br)
			}
			for range times*cool - 1 {
				if due := b.h.Tick(); len(due) != 0 || b.h.Lets(0) {
					t.Fatalf("Cool %d, times %d: at %d: %v, %v", cool, times, b.h.Now(), due, b.h.Lets(0))
				}
				b.m.tick()
			}
			b.tick(1)
			b.ends(1, "x")
			b.try(0, true, api.OK)
			b.ends(1, "b")
		}
	}
}

// P11.6: at which ticks a key is due: as soon as its breaker is half open, and then once in each period, as long as it is so and no trial is in progress.
func TestTick(t *testing.T) {
	b := made(t, config(1, 3, 5, "ab"))
	b.ticks(10)
	b.trip(1)
	b.ticks(2)
	b.tick(1) // 13
	b.is(0, 1, "b", tried(10, 3))
	b.ticks(20) // the trial goes on
	b.ends(1, "x")
	b.tick(1) // 34: it was not wanted in the round before
	b.ends(1, "x")
	b.ticks(4)
	b.tick(1) // 39
	b.ends(1, "x")
	b.tick()
	b.try(0, true, api.OK) // a request's trial at 40
	b.tick()
	b.ends(1, "x")
	b.tick(1) // 42
	b.ends(1, "b")
	b.ticks(5)
	b.tick(1) // 48
	b.ends(1, "g")
	b.ticks(20)
	b.is(0, 1, "", shut)
	b.is(1, 2, "", shut)
}

// P11.6: several keys are due at once, in ascending order, whatever the order of the parents; a trial begins for each that is returned, and for no other.
func TestTickSeveral(t *testing.T) {
	b := made(t, config(1, 3, 5, "abcdef"))
	b.reload(config(1, 3, 5, "fdbace"), api.OK)
	b.trip(6)
	b.trip(2)
	b.trip(1)
	b.tick()
	b.trip(5) // it is open a tick longer
	b.tick()
	b.tick(1, 2, 6)
	b.is(0, 6, "b", tried(0, 3))
	b.is(1, 4, "", shut)
	b.is(2, 2, "b", tried(0, 3))
	b.is(3, 1, "b", tried(0, 3))
	b.is(4, 3, "", shut)
	b.is(5, 5, "b", open(1, 3))
	b.ends(2, "x")
	b.tick(5)
	b.is(2, 2, "b", open(0, 3)) // half open, but it was due a tick ago
	b.is(5, 5, "b", tried(1, 3))
	b.ticks(3)
	b.tick(2)
	b.is(2, 2, "b", tried(0, 3))
}

// P11.6: sixteen parents that are all due.
func TestTickAll(t *testing.T) {
	b := made(t, config(8, 2, 7, letters[:16]))
	for key := range 17 {
		if key > 0 {
			b.trip(key)
		}
	}
	b.tick()
	b.tick(upTo(16)...)
	b.ticks(10)
	for key := range 17 {
		if key > 0 {
			b.ends(key, "x")
		}
	}
	b.tick(upTo(16)...)
	b.try(3, false, api.ErrArg)
}

// P11.6: the time stays at its end, and rounds are made there still.
func TestTickEnd(t *testing.T) {
	for _, ahead := range []int{0, 1, 2, 5} {
		b := made(t, config(1, 1, 5, "abc"))
		b.h.now, b.m.now = end-ahead, end-ahead
		b.trip(1)
		if ahead > 0 {
			b.tick(1)
			b.ends(1, "x")
		}
		b.trip(2)
		for range ahead + 5 {
			b.h.Tick()
			b.m.tick()
			b.tells()
		}
		if b.h.Now() != end {
			t.Errorf("%d", b.h.Now())
		}
		b.trip(3)
		b.is(2, 3, "b", open(end, 1))
		b.ticks(20)
		if b.h.Now() != end || b.h.Lets(2) {
			t.Errorf("%d, %v", b.h.Now(), b.h.Lets(2))
		}
	}
}

// P11.6: at the end of time a breaker that is half open there is probed, is not due again while it is wanted, and is due once more when it was not.
func TestTickAtEnd(t *testing.T) {
	b := made(t, config(1, 1000, 1000, "ab"))
	b.h.now, b.m.now = end-1000, end-1000
	b.trip(1)
	b.ticks(999)
	b.tick(1)
	b.is(0, 1, "b", tried(end-1000, 1000))
	b.ticks(3)
	b.ends(1, "x")
	b.tick(1)
	b.ends(1, "x")
	b.ticks(3)
	b.try(0, true, api.OK)
	b.ends(1, "b")
	b.is(0, 1, "b", open(end, 2000))
	b.try(1, false, api.OK)
	b.trip(2)
	b.is(1, 2, "b", open(end, 1000))
	b.ticks(5)
	b.try(0, false, api.ErrArg)
	b.reload(config(1, 1, 1, "bac"), api.OK)
	b.is(0, 2, "b", open(end, 1000))
	b.is(1, 1, "b", open(end, 2000))
	b.is(2, 3, "", shut)
	b.come(3, "gb")
	b.is(2, 3, "gb", open(end, 1))
	b.ticks(5)
}

// P11.7: after Fails bad outcomes in a row a parent lets no request pass for Cool ticks, whatever else is told of it, and lets one pass then.
func TestNoRequestsWhileOpen(t *testing.T) {
	for fails := 1; fails <= 8; fails++ {
		for _, before := range []string{"", "g", "ggggggggg"} {
			for _, cool := range []int{1, 2, 10, 100, 1000} {
				b := made(t, config(fails, cool, 7, "ab"))
				b.come(1, before+"bbbbbbbb"[:fails])
				for now := range cool {
					if b.h.Lets(0) {
						t.Fatalf("Fails %d, Cool %d: lets at %d", fails, cool, now)
					}
					b.h.Good(1, false)
					b.h.Good(1, true)
					b.h.Bad(1, true)
					b.h.Back(1, true)
					if trial, e := b.h.Try(0); trial || e != api.ErrArg {
						t.Fatalf("Fails %d, Cool %d: Try at %d: %v, %d", fails, cool, now, trial, e)
					}
					due := b.h.Tick()
					if want := now == cool-1; slices.Contains(due, 1) != want || len(due) > 1 {
						t.Fatalf("Fails %d, Cool %d: due at %d: %v", fails, cool, now+1, due)
					}
				}
				b.h.Back(1, true)
				if !b.h.Lets(0) {
					t.Fatalf("Fails %d, Cool %d: does not let at %d", fails, cool, cool)
				}
			}
		}
	}
}

// steps are calls on a table of two parents and its model, each of which says whether they answer alike.
func steps() []func(b *both) bool {
	all := []func(b *both) bool{
		func(b *both) bool { return slices.Equal(b.h.Tick(), b.m.tick()) },
		func(b *both) bool { return b.alikeTry(0) },
		func(b *both) bool { return b.alikeTry(1) },
	}
	for _, names := range []string{"ba", "ac", "a", "aa"} {
		c := config(2, 1, 2, names)
		all = append(all, func(b *both) bool { return b.h.Reload(c) == b.m.reload(c) })
	}
	for _, kind := range "gbx" {
		for _, trial := range []bool{false, true} {
			all = append(all, func(b *both) bool { return b.outcome(kind, 1, trial) == b.m.outcome(kind, 1, trial) })
		}
	}
	return append(all, func(b *both) bool { return b.outcome('b', 2, false) == b.m.outcome('b', 2, false) })
}

// alikeTry tries the parent with index i, and says whether the table and the model answer alike.
func (b *both) alikeTry(i int) bool {
	got, e := b.h.Try(i)
	want, wantE := b.m.try(i)
	return got == want && e == wantE
}

// P11.1 to P11.9: all rows of four calls, from tables in four stages, against a plain reading of the chapter.
func TestAllRows(t *testing.T) {
	all := steps()
	count := len(all)
	for stage := range 4 {
		for row := range count * count * count * count {
			b := made(t, config(2, 1, 2, "ab"))
			switch stage {
			case 1:
				b.outcome('b', 1, false)
				b.m.outcome('b', 1, false)
			case 2, 3:
				b.trip(1)
				b.tick(1)
				if stage == 3 {
					b.ends(1, "x")
				}
			}
			rest := row
			for range 4 {
				if !all[rest%count](b) {
					t.Fatalf("stage %d, row %d: call %d", stage, row, rest%count)
				}
				rest /= count
			}
			b.tells()
		}
	}
}

// mixer returns numbers from 0 to n-1 without a visible order, others for another seed.
func mixer(seed uint32) func(n int) int {
	return func(n int) int {
		seed = seed*1664525 + 1013904223
		return int(seed>>16) % n
	}
}

// some returns parents of a few kinds, some of them more than once.
func some(next func(n int) int, most int) []api.Parent {
	var all []api.Parent
	for range next(most + 1) {
		p := called(string(letters[next(5)]))
		p.At.Port += next(8) / 7
		p.Proto += uint8(next(8) / 7)
		p.Weight = next(100)
		all = append(all, p)
	}
	return all
}

// P11.1 to P11.9: long rows of calls of all kinds, against a plain reading of the chapter.
func TestLongRows(t *testing.T) {
	for seed := range uint32(300) {
		next := mixer(seed)
		b := made(t, with(1+next(8), 1+next(6), 1+next(6), some(next, 16)...))
		for range 600 {
			key := 1 + b.m.last - next(20)
			if n := len(b.m.all); n > 0 && next(4) > 0 {
				key = b.m.all[next(n)].key
			}
			i := next(18) - 1
			if place := b.m.place(key); place >= 0 && next(2) == 0 {
				i = place
			}
			trial := next(3) == 0
			alike := true
			switch n := next(100); {
			case n < 3:
				c := with(next(10), next(6), next(6), some(next, 17)...)
				alike = b.h.Reload(c) == b.m.reload(c)
			case n < 30:
				alike = slices.Equal(b.h.Tick(), b.m.tick())
			case n < 40:
				alike = b.alikeTry(i)
			default:
				kind := rune("gbbbx"[n%5])
				alike = b.outcome(kind, key, trial) == b.m.outcome(kind, key, trial)
			}
			if !alike {
				t.Fatalf("seed %d: at %d", seed, b.m.now)
			}
			b.tells()
		}
	}
}

// P11.7: in long rows of calls at most one trial of each parent is in progress: none begins before the one ahead has an outcome, is given back, or its record is gone.
func TestOneTrial(t *testing.T) {
	for seed := range uint32(100) {
		next := mixer(seed)
		b := made(t, config(1+next(3), 1+next(4), 1+next(4), "abc"))
		running := map[int]bool{}
		begins := func(key int) {
			if running[key] {
				t.Fatalf("seed %d: two trials of %d at %d", seed, key, b.h.Now())
			}
			running[key] = true
		}
		for range 1000 {
			i := next(3)
			key := b.h.Key(i)
			switch next(8) {
			case 0, 1:
				for _, due := range b.h.Tick() {
					begins(due)
				}
			case 2, 3:
				if trial, e := b.h.Try(i); trial {
					if e != api.OK {
						t.Fatalf("seed %d: %d", seed, e)
					}
					begins(key)
				}
			case 4:
				b.h.Bad(key, false)
			case 5:
				b.h.Reload(config(1+next(3), 1+next(4), 1+next(4), []string{"abc", "bca", "cab"}[next(3)]))
			default:
				kind := rune("gbx"[next(3)])
				b.outcome(kind, key, true)
				running[key] = false
			}
		}
	}
}

// P11.8: what one parent is told does not depend on what its neighbours are told: a table of three parents, and one of each alone, answer alike.
func TestIsolation(t *testing.T) {
	for seed := range uint32(200) {
		next := mixer(seed)
		limits := func() (int, int, int) { return 1 + next(8), 1 + next(5), 1 + next(5) }
		fails, cool, probe := limits()
		h := made(t, config(fails, cool, probe, "abc")).h
		var alone []*Health
		for _, name := range []string{"a", "b", "c"} {
			alone = append(alone, made(t, config(fails, cool, probe, name)).h)
		}
		for range 500 {
			i := next(3)
			one := alone[i]
			trial := next(2) == 0
			switch next(7) {
			case 0:
				got, e := h.Try(i)
				want, wantE := one.Try(0)
				if got != want || e != wantE {
					t.Fatalf("seed %d: Try(%d): %v, %d; alone %v, %d", seed, i, got, e, want, wantE)
				}
			case 1:
				var want []int
				for i, one := range alone {
					if len(one.Tick()) == 1 {
						want = append(want, i+1)
					}
				}
				if due := h.Tick(); !slices.Equal(due, want) {
					t.Fatalf("seed %d: Tick to %d: %v, alone %v", seed, h.Now(), due, want)
				}
			case 2:
				h.Good(i+1, trial)
				one.Good(1, trial)
			case 3:
				h.Back(i+1, trial)
				one.Back(1, trial)
			default:
				h.Bad(i+1, trial)
				one.Bad(1, trial)
			}
			for i, one := range alone {
				w, br := h.Tells(i)
				wantW, wantB := one.Tells(0)
				if w != wantW || br != wantB || h.Lets(i) != one.Lets(0) {
					t.Fatalf("seed %d: %d: %d, %v; alone %d, %v", seed, i, w, br, wantW, wantB)
				}
			}
		}
	}
}

// P11.8: outcomes for a key that is gone, or was never given, change nothing, not even for the parent that has come in its stead.
func TestGone(t *testing.T) {
	b := made(t, config(1, 1, 2, "abc"))
	b.trip(2)
	b.tick(2)
	b.reload(config(1, 1, 2, "axc"), api.OK)
	for range 10 {
		for _, key := range []int{2, 0, -1, -4, 5, 6, math.MinInt, math.MaxInt} {
			b.each(key, "gbx", true, api.ErrNone)
			b.each(key, "gbx", false, api.ErrNone)
		}
		b.tick()
	}
	b.is(0, 1, "", shut)
	b.is(1, 4, "", shut)
	b.is(2, 3, "", shut)
}

// P11.9: to reload the same parents in any order changes nothing but indices: two tables that are told the same by keys, one of which is reloaded now and then, tell the same.
func TestReloadChangesNothing(t *testing.T) {
	orders := []string{"abcd", "dcba", "bdac", "cadb", "badc"}
	for seed := range uint32(100) {
		next := mixer(seed)
		c := config(1+next(8), 1+next(5), 1+next(5), "abcd")
		h, other := made(t, c).h, made(t, c).h
		for range 500 {
			key := 1 + next(4)
			kind := rune("gbbx"[next(4)])
			trial := next(2) == 0
			switch next(5) {
			case 0:
				again := config(c.Limits.Fails, c.Limits.Cool, c.Limits.Probe, orders[next(len(orders))])
				if e := other.Reload(again); e != api.OK {
					t.Fatalf("%d", e)
				}
			case 1:
				if due, want := other.Tick(), h.Tick(); !slices.Equal(due, want) {
					t.Fatalf("seed %d: Tick to %d: %v, want %v", seed, h.Now(), due, want)
				}
			case 2:
				got, e := other.Try(other.Place(key))
				want, wantE := h.Try(h.Place(key))
				if got != want || e != wantE {
					t.Fatalf("seed %d: Try of %d: %v, %d; want %v, %d", seed, key, got, e, want, wantE)
				}
			default:
				(&both{h: h}).outcome(kind, key, trial)
				(&both{h: other}).outcome(kind, key, trial)
			}
			w, br := other.Tells(other.Place(key))
			wantW, wantB := h.Tells(h.Place(key))
			if w != wantW || br != wantB {
				t.Fatalf("seed %d: %d: %d, %v; want %d, %v", seed, key, w, br, wantW, wantB)
			}
		}
	}
}

// P11.6: a list that was returned is the caller's own: what becomes of it changes nothing in the table, nor in another list.
func TestListsReturned(t *testing.T) {
	b := made(t, config(1, 1, 3, "abc"))
	for key := 1; key < 4; key++ {
		b.trip(key)
	}
	spoil := func(list []int) {
		for i := range list {
			list[i] = 99
		}
		whole := list[:cap(list)]
		for i := range whole {
			whole[i] = 99
		}
		_ = append(list, 99)
	}
	first := b.h.Tick()
	b.m.tick()
	for key := 1; key < 4; key++ {
		b.ends(key, "x")
	}
	var second []int
	for range 3 {
		second = b.h.Tick()
		b.m.tick()
	}
	if !slices.Equal(first, []int{1, 2, 3}) || !slices.Equal(second, []int{1, 2, 3}) {
		t.Errorf("%v, %v", first, second)
	}
	spoil(first)
	if !slices.Equal(second, []int{1, 2, 3}) {
		t.Errorf("%v", second)
	}
	spoil(second)
	b.tells()
	b.rows(10)
}

// P11.1, P11.2: the configuration that is passed in is not changed, and not kept: what becomes of it later changes nothing.
func TestConfigPassed(t *testing.T) {
	store := []api.Parent{called("a"), called("b"), called("a"), called("z"), called("y")}
	before := slices.Clone(store)
	c := with(2, 10, 5, store[:3]...)
	b := made(t, c)
	if !slices.Equal(store, before) {
		t.Fatalf("changed: %v", store)
	}
	for i := range store {
		store[i] = called("v")
	}
	c.Limits = api.Limits{Fails: 1, Cool: 1, Probe: 1}
	b.tells()
	b.come(1, "b")
	b.is(0, 1, "b", shut)
	b.reload(config(2, 10, 5, "bva"), api.OK)
	b.is(0, 2, "", shut)
	b.is(1, 4, "", shut)
	b.is(2, 1, "b", shut)

	copy(store, []api.Parent{called("b"), called("a"), called("w"), called("a"), called("y")})
	before = slices.Clone(store)
	b.reload(with(2, 10, 5, store[:3]...), api.OK)
	if !slices.Equal(store, before) {
		t.Fatalf("changed: %v", store)
	}
	for i := range store {
		store[i] = called("u")
	}
	b.tells()
	b.reload(config(2, 10, 5, "uwab"), api.OK)
	b.is(0, 6, "", shut)
	b.is(1, 5, "", shut)
	b.is(2, 1, "b", shut)
	b.is(3, 2, "", shut)
}

// unmade are tables that New did not return.
func unmade(t *testing.T) []*Health {
	whole := *stages(t, true).h
	half := *stages(t, false).h
	empty := *made(t, config(1, 1, 1, "")).h
	return []*Health{nil, {}, new(Health), &whole, &half, &empty}
}

// P11.1 to P11.6: a nil *Health, and one that New did not return: ErrNil comes first, whatever else is wrong, and the others tell nothing.
func TestNil(t *testing.T) {
	numbers := []int{math.MinInt, -1, 0, 1, 2, 3, 4, 16, 17, end, math.MaxInt}
	for i, h := range unmade(t) {
		for _, c := range append(wrong(), right()...) {
			if e := h.Reload(c); e != api.ErrNil {
				t.Errorf("%d: Reload: %d", i, e)
			}
		}
		for _, n := range numbers {
			if trial, e := h.Try(n); trial || e != api.ErrNil {
				t.Errorf("%d: Try(%d): %v, %d", i, n, trial, e)
			}
			for _, trial := range []bool{false, true} {
				if g, b, x := h.Good(n, trial), h.Bad(n, trial), h.Back(n, trial); g != api.ErrNil || b != api.ErrNil || x != api.ErrNil {
					t.Errorf("%d: outcomes of %d, %v: %d, %d, %d", i, n, trial, g, b, x)
				}
			}
			if w, br := h.Tells(n); w != 0 || br != shut {
				t.Errorf("%d: Tells(%d): %d, %v", i, n, w, br)
			}
			if h.Key(n) != 0 || h.Place(n) != -1 || h.Lets(n) {
				t.Errorf("%d: %d: %d, %d, %v", i, n, h.Key(n), h.Place(n), h.Lets(n))
			}
			if due := h.Tick(); len(due) != 0 || h.Now() != 0 {
				t.Errorf("%d: Tick: %v; Now: %d", i, due, h.Now())
			}
		}
	}
}

// P11.1 to P11.6: what is asked of a copy changes nothing in the table that New returned.
func TestCopy(t *testing.T) {
	b := stages(t, true)
	other := *b.h
	other.Tick()
	other.Try(0)
	other.Bad(1, false)
	other.Good(3, true)
	other.Back(3, true)
	other.Reload(config(8, 1, 1, "xyz"))
	b.tells()
	b.come(1, "b")
	b.is(0, 1, "gbb", open(10, 10))
	b.rows(30)
	b.reload(config(2, 10, 5, "x"), api.OK)
	b.is(0, 4, "", shut)
}

// The section 'Examples' of the chapter.
func TestExamples(t *testing.T) {
	b := made(t, config(2, 10, 5, "a"))
	b.come(1, "b")
	b.come(1, "b")
	for range 9 {
		if b.h.Lets(0) {
			t.Errorf("lets at %d", b.h.Now())
		}
		b.tick()
	}
	b.tick(1)
	b.ends(1, "g")
	if !b.h.Lets(0) || b.h.Now() != 10 {
		t.Errorf("%v at %d", b.h.Lets(0), b.h.Now())
	}
}
