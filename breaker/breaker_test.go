package breaker

import (
	"math"
	"slices"
	"testing"

	"postilion/api"
)

// last is the latest tick at which a breaker may be opened: MaxNumber - 8000.
const last = 1099511619775

// shut is a closed breaker.
var shut Breaker

// open returns a breaker that was opened at that tick, for so many ticks, without a trial.
func open(since, span int) Breaker {
	return Breaker{Opened: true, Since: since, Span: span}
}

// tried returns such a breaker with a trial in progress.
func tried(since, span int) Breaker {
	return Breaker{Opened: true, Since: since, Span: span, Trial: true}
}

// numbers are numbers at the edges of ticks, of spans, and of int.
var numbers = []int{math.MinInt, math.MinInt + 1, -8000, -1, 0, 1, 2, 10, 1000, 1001, 4000, 4001, 7999, 8000, 8001, last - 8000, last - 1, last, last + 1, last + 8000, math.MaxInt - 1, math.MaxInt}

// cools are cool-downs, and numbers that are none.
var cools = []int{math.MinInt, -1, 0, 1, 2, 10, 499, 500, 501, 999, 1000, 1001, 8000, math.MaxInt}

// valid are breakers that are valid.
func valid() []Breaker {
	all := []Breaker{shut}
	for _, since := range []int{0, 1, 2, 500, 1 << 20, last - 1, last} {
		for _, span := range []int{1, 2, 3, 10, 999, 1000, 3999, 4000, 4001, 7999, 8000} {
			all = append(all, open(since, span), tried(since, span))
		}
	}
	return all
}

// invalid are breakers that are not valid: a Since or a Span beyond its bounds, both, and ones that aren't opened, but have a Since, a Span or a Trial.
func invalid() []Breaker {
	var all []Breaker
	for _, since := range numbers {
		for _, span := range numbers {
			for _, trial := range []bool{false, true} {
				if since < 0 || since > last || span < 1 || span > 8000 {
					all = append(all, Breaker{Opened: true, Since: since, Span: span, Trial: trial})
				}
				if since != 0 || span != 0 || trial {
					all = append(all, Breaker{Since: since, Span: span, Trial: trial})
				}
			}
		}
	}
	return all
}

// ticksOf are ticks at the edges of all, and just around where the breaker is opened, and where it becomes half open.
func ticksOf(b Breaker) []int {
	all := slices.Clone(numbers)
	for _, tick := range []int{b.Since, b.Since + b.Span} {
		all = append(all, tick-1, tick, tick+1)
	}
	return all
}

// takes says whether it is a tick that Try and Bad accept.
func takes(now int) bool { return now > -1 && now < last+1 }

// whatIs says what a valid breaker is at that tick.
func whatIs(b Breaker, now int) uint8 {
	if !b.Opened {
		return 0
	}
	if now < b.Since+b.Span {
		return 1
	}
	return 2
}

// P9.1: the numbers of the states, which others may count on.
func TestStates(t *testing.T) {
	if Closed != 0 || Open != 1 || Half != 2 {
		t.Errorf("%d, %d, %d", Closed, Open, Half)
	}
}

// P9.1: which breakers are valid.
func TestMay(t *testing.T) {
	for _, x := range []struct {
		b    Breaker
		want bool
	}{
		{shut, true},
		{Breaker{Trial: true}, false},
		{Breaker{Since: 1}, false},
		{Breaker{Since: -1}, false},
		{Breaker{Span: 1}, false},
		{Breaker{Since: 5, Span: 10}, false},
		{Breaker{Since: 5, Span: 10, Trial: true}, false},
		{Breaker{Opened: true}, false},
		{Breaker{Opened: true, Trial: true}, false},
		{open(0, 1), true},
		{tried(0, 1), true},
		{open(0, 0), false},
		{open(0, -1), false},
		{open(0, 8000), true},
		{tried(0, 8000), true},
		{open(0, 8001), false},
		{open(-1, 1), false},
		{tried(-1, 1), false},
		{open(last, 1), true},
		{open(last, 8000), true},
		{tried(last, 8000), true},
		{open(last+1, 1), false},
		{open(last+1, 8000), false},
		{open(5, math.MaxInt), false},
		{open(math.MaxInt, 5), false},
		{open(math.MinInt, math.MinInt), false},
	} {
		if May(x.b) != x.want {
			t.Errorf("%v: %v", x.b, !x.want)
		}
	}
	for _, b := range valid() {
		if !May(b) {
			t.Errorf("%v is valid", b)
		}
	}
	for _, b := range invalid() {
		if May(b) {
			t.Errorf("%v is not valid", b)
		}
	}
}

// P9.1: what a breaker is at a tick, and whether it lets a request pass then.
func TestState(t *testing.T) {
	for _, x := range []struct {
		b    Breaker
		now  int
		want uint8
		lets bool
	}{
		{shut, 0, Closed, true},
		{shut, -1, Closed, true},
		{shut, last, Closed, true},
		{shut, last + 1, Closed, true},
		{shut, math.MinInt, Closed, true},
		{shut, math.MaxInt, Closed, true},
		{open(5, 10), math.MinInt, Open, false},
		{open(5, 10), -1, Open, false},
		{open(5, 10), 4, Open, false},
		{open(5, 10), 5, Open, false},
		{open(5, 10), 13, Open, false},
		{open(5, 10), 14, Open, false},
		{open(5, 10), 15, Half, true},
		{open(5, 10), 16, Half, true},
		{open(5, 10), last + 1, Half, true},
		{open(5, 10), math.MaxInt, Half, true},
		{tried(5, 10), 5, Open, false},
		{tried(5, 10), 14, Open, false},
		{tried(5, 10), 15, Half, false},
		{tried(5, 10), math.MaxInt, Half, false},
		{open(0, 1), 0, Open, false},
		{open(0, 1), 1, Half, true},
		{open(last, 8000), last + 7999, Open, false},
		{open(last, 8000), last + 8000, Half, true},
		{open(last, 1), last, Open, false},
		{open(last, 1), last + 1, Half, true},
		{Breaker{Trial: true}, 1 << 39, Open, false},
		{Breaker{Since: 5}, 1 << 39, Open, false},
		{Breaker{Span: 5}, 1 << 39, Open, false},
		{open(5, 0), 1 << 39, Open, false},
		{open(5, 8001), 1 << 39, Open, false},
		{open(-1, 1), 1 << 39, Open, false},
		{open(last+1, 1), math.MaxInt, Open, false},
		{open(math.MaxInt, 1), 1 << 39, Open, false},
		{open(math.MaxInt, math.MaxInt), 0, Open, false},
	} {
		if s, lets := x.b.State(x.now), x.b.Lets(x.now); s != x.want || lets != x.lets {
			t.Errorf("%v at %d: %d, %v; want %d, %v", x.b, x.now, s, lets, x.want, x.lets)
		}
	}
}

// P9.1: all valid breakers, at ticks of all sizes.
func TestStateEach(t *testing.T) {
	for _, b := range valid() {
		for _, now := range ticksOf(b) {
			want := whatIs(b, now)
			lets := want == 0 || want == 2 && !b.Trial
			if s, is := b.State(now), b.Lets(now); s != want || is != lets {
				t.Errorf("%v at %d: %d, %v; want %d, %v", b, now, s, is, want, lets)
			}
		}
	}
}

// P9.1 to P9.5: a breaker that is not valid is open at every tick, and no function changes it.
func TestNotValid(t *testing.T) {
	for _, b := range invalid() {
		for _, now := range ticksOf(b) {
			if b.State(now) != Open || b.Lets(now) {
				t.Fatalf("%v at %d: %d, %v", b, now, b.State(now), b.Lets(now))
			}
			if x, trial, e := b.Try(now); x != b || trial || e != api.ErrArg {
				t.Fatalf("%v: Try at %d: %v, %v, %d", b, now, x, trial, e)
			}
		}
		for _, trial := range []bool{false, true} {
			if x := b.Good(trial); x != b {
				t.Fatalf("%v: Good(%v): %v", b, trial, x)
			}
			if x := b.Back(trial); x != b {
				t.Fatalf("%v: Back(%v): %v", b, trial, x)
			}
			for _, trip := range []bool{false, true} {
				for _, now := range []int{-1, 0, 5, last, last + 1} {
					for _, cool := range cools {
						if x, e := b.Bad(now, cool, trial, trip); x != b || e != api.ErrArg {
							t.Fatalf("%v: Bad(%d, %d, %v, %v): %v, %d", b, now, cool, trial, trip, x, e)
						}
					}
				}
			}
		}
	}
}

// P9.2: what is let pass, and what isn't, with which breaker.
func TestTry(t *testing.T) {
	for _, x := range []struct {
		b     Breaker
		now   int
		want  Breaker
		trial bool
		e     api.Errno
	}{
		{shut, 0, shut, false, api.OK},
		{shut, 3, shut, false, api.OK},
		{shut, last, shut, false, api.OK},
		{shut, -1, shut, false, api.ErrArg},
		{shut, last + 1, shut, false, api.ErrArg},
		{shut, math.MinInt, shut, false, api.ErrArg},
		{shut, math.MaxInt, shut, false, api.ErrArg},
		{open(5, 10), 0, open(5, 10), false, api.ErrArg},
		{open(5, 10), 14, open(5, 10), false, api.ErrArg},
		{open(5, 10), 15, tried(5, 10), true, api.OK},
		{open(5, 10), 900, tried(5, 10), true, api.OK},
		{open(5, 10), last, tried(5, 10), true, api.OK},
		{open(5, 10), last + 1, open(5, 10), false, api.ErrArg},
		{open(5, 10), math.MaxInt, open(5, 10), false, api.ErrArg},
		{open(5, 10), -1, open(5, 10), false, api.ErrArg},
		{open(5, 10), math.MinInt, open(5, 10), false, api.ErrArg},
		{tried(5, 10), 14, tried(5, 10), false, api.ErrArg},
		{tried(5, 10), 15, tried(5, 10), false, api.ErrArg},
		{tried(5, 10), last, tried(5, 10), false, api.ErrArg},
		{open(0, 1), 0, open(0, 1), false, api.ErrArg},
		{open(0, 1), 1, tried(0, 1), true, api.OK},
		{open(0, 8000), 7999, open(0, 8000), false, api.ErrArg},
		{open(0, 8000), 8000, tried(0, 8000), true, api.OK},
		{open(last-8000, 8000), last, tried(last-8000, 8000), true, api.OK},
		{open(last-7999, 8000), last, open(last-7999, 8000), false, api.ErrArg},
		{open(last-7999, 8000), last + 1, open(last-7999, 8000), false, api.ErrArg},
		{Breaker{Trial: true}, 5, Breaker{Trial: true}, false, api.ErrArg},
		{Breaker{Since: 5}, 5, Breaker{Since: 5}, false, api.ErrArg},
		{open(5, 8001), 1 << 30, open(5, 8001), false, api.ErrArg},
	} {
		if next, trial, e := x.b.Try(x.now); next != x.want || trial != x.trial || e != x.e {
			t.Errorf("%v at %d: %v, %v, %d; want %v, %v, %d", x.b, x.now, next, trial, e, x.want, x.trial, x.e)
		}
	}
}

// P9.2: all valid breakers, at ticks of all sizes.
func TestTryEach(t *testing.T) {
	for _, b := range valid() {
		for _, now := range ticksOf(b) {
			want, begun, err := b, false, api.ErrArg
			if takes(now) {
				switch whatIs(b, now) {
				case 0:
					err = api.OK
				case 2:
					if !b.Trial {
						want, begun, err = tried(b.Since, b.Span), true, api.OK
					}
				}
			}
			if next, trial, e := b.Try(now); next != want || trial != begun || e != err {
				t.Errorf("%v at %d: %v, %v, %d; want %v, %v, %d", b, now, next, trial, e, want, begun, err)
			}
		}
	}
}

// P9.3, P9.5: a good outcome, and a trial that is given back, of a closed breaker, one with a trial, and one without.
func TestGoodAndBack(t *testing.T) {
	for _, x := range []struct {
		b, good, back Breaker // with trial
	}{
		{shut, shut, shut},
		{open(5, 10), open(5, 10), open(5, 10)},
		{tried(5, 10), shut, open(5, 10)},
		{open(0, 1), open(0, 1), open(0, 1)},
		{tried(0, 1), shut, open(0, 1)},
		{tried(0, 8000), shut, open(0, 8000)},
		{tried(last, 1), shut, open(last, 1)},
		{tried(last, 8000), shut, open(last, 8000)},
		{tried(last+1, 1), tried(last+1, 1), tried(last+1, 1)},
		{tried(-1, 1), tried(-1, 1), tried(-1, 1)},
		{tried(5, 0), tried(5, 0), tried(5, 0)},
		{tried(5, 8001), tried(5, 8001), tried(5, 8001)},
		{Breaker{Trial: true}, Breaker{Trial: true}, Breaker{Trial: true}},
		{Breaker{Since: 5, Span: 10, Trial: true}, Breaker{Since: 5, Span: 10, Trial: true}, Breaker{Since: 5, Span: 10, Trial: true}},
	} {
		if good, back := x.b.Good(true), x.b.Back(true); good != x.good || back != x.back {
			t.Errorf("%v: %v when good, %v when given back; want %v, %v", x.b, good, back, x.good, x.back)
		}
		if good, back := x.b.Good(false), x.b.Back(false); good != x.b || back != x.b {
			t.Errorf("%v: %v when good, %v when given back, without a trial", x.b, good, back)
		}
	}
}

// P9.3, P9.5: all valid breakers.
func TestGoodAndBackEach(t *testing.T) {
	for _, b := range valid() {
		good, back := b, b
		if b.Trial {
			good, back = shut, open(b.Since, b.Span)
		}
		if g, k := b.Good(true), b.Back(true); g != good || k != back {
			t.Errorf("%v: %v when good, %v when given back; want %v, %v", b, g, k, good, back)
		}
		if g, k := b.Good(false), b.Back(false); g != b || k != b {
			t.Errorf("%v: %v when good, %v when given back, without a trial", b, g, k)
		}
	}
}

// P9.4: a bad outcome that isn't that of a trial opens a closed breaker only, and only if trip is true.
func TestBad(t *testing.T) {
	for _, x := range []struct {
		b         Breaker
		now, cool int
		trip      bool
		want      Breaker
		e         api.Errno
	}{
		{shut, 3, 10, false, shut, api.OK},
		{shut, 5, 10, true, open(5, 10), api.OK},
		{shut, 0, 1, true, open(0, 1), api.OK},
		{shut, 0, 1000, true, open(0, 1000), api.OK},
		{shut, last, 1, true, open(last, 1), api.OK},
		{shut, last, 1000, true, open(last, 1000), api.OK},
		{shut, last, 1000, false, shut, api.OK},
		{shut, 5, 0, true, shut, api.ErrArg},
		{shut, 5, 0, false, shut, api.ErrArg},
		{shut, 5, 1001, true, shut, api.ErrArg},
		{shut, 5, 1001, false, shut, api.ErrArg},
		{shut, 5, -1, true, shut, api.ErrArg},
		{shut, 5, math.MinInt, true, shut, api.ErrArg},
		{shut, 5, math.MaxInt, true, shut, api.ErrArg},
		{shut, -1, 10, true, shut, api.ErrArg},
		{shut, -1, 10, false, shut, api.ErrArg},
		{shut, last + 1, 10, true, shut, api.ErrArg},
		{shut, last + 1, 10, false, shut, api.ErrArg},
		{shut, math.MinInt, 10, true, shut, api.ErrArg},
		{shut, math.MaxInt, 10, true, shut, api.ErrArg},
		{shut, -1, 0, true, shut, api.ErrArg},
		{open(5, 10), 8, 10, true, open(5, 10), api.OK},    // open
		{open(5, 10), 14, 10, true, open(5, 10), api.OK},   // open
		{open(5, 10), 15, 10, true, open(5, 10), api.OK},   // half open
		{open(5, 10), last, 10, true, open(5, 10), api.OK}, // half open
		{open(5, 10), 8, 10, false, open(5, 10), api.OK},
		{open(5, 10), 15, 10, false, open(5, 10), api.OK},
		{tried(5, 10), 15, 10, true, tried(5, 10), api.OK},
		{tried(5, 10), 15, 10, false, tried(5, 10), api.OK},
		{tried(5, 10), 8, 10, true, tried(5, 10), api.OK},
		{open(5, 10), 15, 0, true, open(5, 10), api.ErrArg},
		{open(5, 10), 15, 1001, true, open(5, 10), api.ErrArg},
		{open(5, 10), -1, 10, true, open(5, 10), api.ErrArg},
		{tried(5, 10), 15, 1001, true, tried(5, 10), api.ErrArg},
		{tried(5, 10), last + 1, 10, true, tried(5, 10), api.ErrArg},
		{Breaker{Trial: true}, 5, 10, true, Breaker{Trial: true}, api.ErrArg},
		{Breaker{Span: 5}, 5, 10, true, Breaker{Span: 5}, api.ErrArg},
		{open(5, 8001), 5, 10, true, open(5, 8001), api.ErrArg},
	} {
		if next, e := x.b.Bad(x.now, x.cool, false, x.trip); next != x.want || e != x.e {
			t.Errorf("%v: Bad at %d with %d, %v: %v, %d; want %v, %d", x.b, x.now, x.cool, x.trip, next, e, x.want, x.e)
		}
	}
}

// P9.4: a bad outcome of a trial opens the breaker for twice as long, up to 8 times cool; without a trial in progress it changes nothing. Whatever trip is.
func TestBadTrial(t *testing.T) {
	for _, x := range []struct {
		b         Breaker
		now, cool int
		want      Breaker
		e         api.Errno
	}{
		{shut, 5, 10, shut, api.OK},
		{open(5, 10), 8, 10, open(5, 10), api.OK},
		{open(5, 10), 15, 10, open(5, 10), api.OK},
		{tried(5, 10), 15, 10, open(15, 20), api.OK},
		{tried(5, 10), 17, 10, open(17, 20), api.OK},
		{tried(5, 10), 14, 10, open(14, 20), api.OK}, // it comes ahead of Since + Span
		{tried(5, 10), 0, 10, open(0, 20), api.OK},   // and ahead of Since
		{tried(5, 10), last, 10, open(last, 20), api.OK},
		{tried(5, 39), 100, 10, open(100, 78), api.OK},
		{tried(5, 40), 100, 10, open(100, 80), api.OK},
		{tried(5, 41), 100, 10, open(100, 80), api.OK},
		{tried(5, 80), 100, 10, open(100, 80), api.OK},
		{tried(5, 8000), 100, 10, open(100, 80), api.OK}, // the cool-down was longer before
		{tried(5, 8000), 100, 1, open(100, 8), api.OK},
		{tried(5, 8000), 100, 1000, open(100, 8000), api.OK},
		{tried(5, 1), 100, 1000, open(100, 2), api.OK}, // the cool-down was shorter before
		{tried(5, 1), 100, 1, open(100, 2), api.OK},
		{tried(5, 4), 100, 1, open(100, 8), api.OK},
		{tried(5, 8), 100, 1, open(100, 8), api.OK},
		{tried(5, 3999), 100, 1000, open(100, 7998), api.OK},
		{tried(5, 4000), 100, 1000, open(100, 8000), api.OK},
		{tried(5, 4001), 100, 1000, open(100, 8000), api.OK},
		{tried(last, 8000), last, 1000, open(last, 8000), api.OK},
		{tried(5, 10), 15, 0, tried(5, 10), api.ErrArg},
		{tried(5, 10), 15, 1001, tried(5, 10), api.ErrArg},
		{tried(5, 10), -1, 10, tried(5, 10), api.ErrArg},
		{tried(5, 10), last + 1, 10, tried(5, 10), api.ErrArg},
		{tried(5, 10), math.MinInt, 10, tried(5, 10), api.ErrArg},
		{tried(5, 10), math.MaxInt, 10, tried(5, 10), api.ErrArg},
		{open(5, 10), 15, 0, open(5, 10), api.ErrArg},
		{open(5, 10), last + 1, 10, open(5, 10), api.ErrArg},
		{shut, 15, 1001, shut, api.ErrArg},
		{shut, -1, 10, shut, api.ErrArg},
		{Breaker{Trial: true}, 5, 10, Breaker{Trial: true}, api.ErrArg},
		{Breaker{Since: 5, Span: 10, Trial: true}, 15, 10, Breaker{Since: 5, Span: 10, Trial: true}, api.ErrArg},
		{tried(5, 8001), 15, 10, tried(5, 8001), api.ErrArg},
		{tried(-1, 1), 15, 10, tried(-1, 1), api.ErrArg},
	} {
		for _, trip := range []bool{false, true} {
			if next, e := x.b.Bad(x.now, x.cool, true, trip); next != x.want || e != x.e {
				t.Errorf("%v: Bad at %d with %d, %v: %v, %d; want %v, %d", x.b, x.now, x.cool, trip, next, e, x.want, x.e)
			}
		}
	}
}

// badOf says what a valid breaker becomes, and with which error, when that bad outcome is recorded.
func badOf(b Breaker, now, cool int, trial, trip bool) (Breaker, api.Errno) {
	if !takes(now) || cool < 1 || cool > 1000 {
		return b, api.ErrArg
	}
	if trial {
		if !b.Trial {
			return b, api.OK
		}
		span := b.Span + b.Span
		if span > 8*cool {
			span = 8 * cool
		}
		return open(now, span), api.OK
	}
	if !b.Opened && trip {
		return open(now, cool), api.OK
	}
	return b, api.OK
}

// P9.4: all valid breakers, at ticks of all sizes, with all cool-downs; what it returns is valid too.
func TestBadEach(t *testing.T) {
	for _, b := range valid() {
		for _, now := range ticksOf(b) {
			for _, cool := range cools {
				for _, trial := range []bool{false, true} {
					for _, trip := range []bool{false, true} {
						want, err := badOf(b, now, cool, trial, trip)
						if next, e := b.Bad(now, cool, trial, trip); next != want || e != err || !May(next) {
							t.Fatalf("%v: Bad(%d, %d, %v, %v): %v, %d; want %v, %d", b, now, cool, trial, trip, next, e, want, err)
						}
					}
				}
			}
		}
	}
}

// run is a breaker to which things happen, and what is known of it from that alone.
type run struct {
	b    Breaker
	now  int
	busy bool // a trial has begun, and neither has its outcome been recorded nor was it given back
}

// steps are the things that may happen.
var steps = []struct {
	name string
	do   func(r run) (next run, begun bool)
}{
	{"wait", func(r run) (run, bool) { r.now++; return r, false }},
	{"try", func(r run) (run, bool) {
		next, trial, _ := r.b.Try(r.now)
		return run{next, r.now, r.busy || trial}, trial
	}},
	{"good", func(r run) (run, bool) { return run{r.b.Good(false), r.now, r.busy}, false }},
	{"good of a trial", func(r run) (run, bool) { return run{r.b.Good(true), r.now, false}, false }},
	{"bad", func(r run) (run, bool) { return r.bad(false, false), false }},
	{"bad and trip", func(r run) (run, bool) { return r.bad(false, true), false }},
	{"bad of a trial", func(r run) (run, bool) { return r.bad(true, false), false }},
	{"bad of a trial and trip", func(r run) (run, bool) { return r.bad(true, true), false }},
	{"back", func(r run) (run, bool) { return run{r.b.Back(false), r.now, r.busy}, false }},
	{"back of a trial", func(r run) (run, bool) { return run{r.b.Back(true), r.now, false}, false }},
}

// bad returns the run with a bad outcome. One that is answered with an error is not recorded.
func (r run) bad(trial, trip bool) run {
	next, e := r.b.Bad(r.now, 1, trial, trip)
	return run{next, r.now, r.busy && (!trial || e != api.OK)}
}

// rows calls check with each step of all rows of so many steps, from there on.
func rows(t *testing.T, from run, count int, check func(t *testing.T, was, is run, step string, begun bool)) {
	if count == 0 || t.Failed() {
		return
	}
	for _, s := range steps {
		next, begun := s.do(from)
		check(t, from, next, s.name, begun)
		rows(t, next, count-1, check)
	}
}

// P9.6: all rows of steps from a closed breaker, and from half-open ones.
func TestOneTrialAtATime(t *testing.T) {
	trials := 0
	check := func(t *testing.T, was, is run, step string, begun bool) {
		if begun {
			trials++
		}
		if begun && was.busy {
			t.Errorf("%v at %d: %s begins another trial", was.b, was.now, step)
		}
		if is.b.Trial != is.busy || !May(is.b) {
			t.Errorf("%v at %d: %s makes %v", was.b, was.now, step, is.b)
		}
		for _, now := range []int{is.now, is.now + 1, is.now + 100, last} {
			if is.busy && is.b.Lets(now) {
				t.Errorf("%v at %d: %v after %s lets a request pass at %d during a trial", was.b, was.now, is.b, step, now)
			}
		}
	}
	rows(t, run{b: shut, now: 5}, 6, check)
	rows(t, run{b: open(4, 1), now: 5}, 6, check)
	rows(t, run{b: tried(4, 1), now: 5, busy: true}, 6, check)
	if trials == 0 {
		t.Error("no trial has begun")
	}
}

// P9.6: only the outcome of a trial, or giving it back, lets another one begin; what comes late counts for nothing.
func TestLate(t *testing.T) {
	b, trial, e := open(5, 10).Try(15)
	if b != tried(5, 10) || !trial || e != api.OK {
		t.Fatalf("%v, %v, %d", b, trial, e)
	}
	for _, now := range []int{15, 16, 1000, last} {
		if x, again, e := b.Try(now); x != b || again || e != api.ErrArg {
			t.Errorf("at %d: %v, %v, %d", now, x, again, e)
		}
	}
	x, _ := b.Bad(20, 10, false, true) // of a request from before it was opened
	if x = x.Good(false).Back(false); x != b {
		t.Errorf("%v after late outcomes, want %v", x, b)
	}
	x, trial, e = b.Back(true).Try(15)
	if x != b || !trial || e != api.OK {
		t.Errorf("after it is given back: %v, %v, %d", x, trial, e)
	}
	bad, _ := b.Bad(20, 10, true, false)
	for _, ended := range []Breaker{b.Good(true), b.Back(true), bad} { // the outcome of the same trial again
		again, e := ended.Bad(30, 10, true, true)
		if again != ended || e != api.OK || ended.Good(true) != ended || ended.Back(true) != ended {
			t.Errorf("%v: %v, %d, %v, %v", ended, again, e, ended.Good(true), ended.Back(true))
		}
	}
}

// P9.7: from one bad trial to the next, with each cool-down, whatever waits there are and whatever comes late; after a good trial it starts again.
func TestBackOff(t *testing.T) {
	for cool := 1; cool <= api.MaxTicks; cool++ {
		b, now := shut, cool%7
		for round := range 3 {
			var e api.Errno
			if b, e = b.Bad(now, cool, false, true); b != open(now, cool) || e != api.OK {
				t.Fatalf("cool %d, round %d: %v, %d", cool, round, b, e)
			}
			for _, times := range []int{2, 4, 8, 8, 8} {
				ends := b.Since + b.Span
				if b.Lets(ends-1) || !b.Lets(ends) {
					t.Fatalf("cool %d: %v lets at %d or not at %d", cool, b, ends-1, ends)
				}
				b, _, _ = b.Try(ends + round)
				b, _, _ = b.Back(true).Try(ends + round)
				b, _ = b.Bad(ends+round, cool, false, true)
				now = ends + 2*round
				if b, e = b.Bad(now, cool, true, round == 1); b != open(now, times*cool) || e != api.OK {
					t.Fatalf("cool %d, round %d: %v, %d; want %d times", cool, round, b, e, times)
				}
			}
			now = b.Since + b.Span
			b, _, _ = b.Try(now)
			if b = b.Good(true); b != shut {
				t.Fatalf("cool %d, round %d: %v", cool, round, b)
			}
		}
	}
}

// P9.8: all rows of steps of an open breaker, but for what comes after the end of its trial.
func TestOpen(t *testing.T) {
	for _, b := range valid() {
		if !b.Opened {
			continue
		}
		for _, now := range []int{0, b.Since, b.Since + b.Span - 2, b.Since + b.Span - 1} {
			check := func(t *testing.T, was, is run, step string, begun bool) {
				if was.b != b || was.now >= b.Since+b.Span || was.busy && !is.busy {
					return // a row that has gone beyond this promise
				}
				if begun || is.b != b || is.now < b.Since+b.Span && (is.b.Lets(is.now) || is.b.State(is.now) != Open) {
					t.Errorf("%v at %d: %s makes %v", was.b, now, step, is.b)
				}
			}
			rows(t, run{b: b, now: now, busy: b.Trial}, 3, check)
		}
	}
}

// P9.8: no tick ahead of the end, and no outcome, lets a request pass.
func TestOpenTicks(t *testing.T) {
	b := open(100, 500)
	for now := range 600 {
		b, _ = b.Bad(now, 10, now%2 == 0, now%3 == 0)
		b = b.Good(now%2 == 1).Back(now%5 == 0)
		next, trial, e := b.Try(now)
		if b != open(100, 500) || b.State(now) != Open || b.Lets(now) || next != b || trial || e != api.ErrArg {
			t.Fatalf("%v at %d: %v, %v, %d", b, now, next, trial, e)
		}
	}
	if b.State(600) != Half || !b.Lets(600) {
		t.Errorf("%v at 600: %d", b, b.State(600))
	}
}

// The chapter's section 'Examples'.
func TestExamples(t *testing.T) {
	var b Breaker
	b, e := b.Bad(5, 10, false, true)
	if e != api.OK || b.State(5) != Open || b.State(14) != Open || b.State(15) != Half {
		t.Errorf("%v, %d: %d, %d, %d", b, e, b.State(5), b.State(14), b.State(15))
	}
	b, trial, e := b.Try(15)
	if !trial || e != api.OK || b.Lets(15) {
		t.Errorf("%v, %v, %d", b, trial, e)
	}
	c, e := b.Bad(17, 10, true, false)
	if e != api.OK || c.State(17) != Open || c.State(36) != Open || c.State(37) != Half {
		t.Errorf("%v, %d: %d, %d, %d", c, e, c.State(17), c.State(36), c.State(37))
	}
	if g := b.Good(true); g.State(17) != Closed || g != (Breaker{}) {
		t.Errorf("%v", g)
	}
}
