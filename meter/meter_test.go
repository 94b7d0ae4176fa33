package meter_test

import (
	"errors"
	"math"
	"slices"
	"testing"

	"fairsluice/api"
	"fairsluice/meter"
	"fairsluice/plain"
)

const (
	maxRate  = 10_000
	maxCap   = 1_000
	maxTicks = 60
)

func l(list ...int) []int { return list }

func m(limit, came, wait int) api.Meter { return api.Meter{Cap: limit, Came: came, Wait: wait} }

// alike gives so many ticks of which at each as much comes, or as many rates of one size.
func alike(came, many int) []int { return slices.Repeat(l(came), many) }

// after gives one list with the others behind it.
func after(lists ...[]int) []int { return slices.Concat(lists...) }

// wrong tells if an error is another than is wanted; OK is a plain nil.
func wrong(err error, no api.Errno) bool {
	return plain.Told(err) != no || no == api.OK && err != nil
}

func checked(t *testing.T, of api.Meter, no api.Errno, name ...any) {
	t.Helper()
	if err := meter.Check(of); wrong(err, no) {
		t.Errorf("Check, %v: of %v got %v, want %v", name, of, err, no)
	}
}

// nexted checks what Next answers; with an error the rate is 0.
func nexted(t *testing.T, of api.Meter, rate, want int, no api.Errno, name ...any) {
	t.Helper()
	if got, err := meter.Next(of, rate); got != want || wrong(err, no) {
		t.Errorf("Next, %v: of %v, %d got %d, %v; want %d, %v", name, of, rate, got, err, want, no)
	}
}

// ran checks what Run answers, with an error no rates; and that the list is as it was, behind its length, too.
func ran(t *testing.T, of api.Meter, rate int, list, want []int, no api.Errno, name ...any) {
	t.Helper()
	was := slices.Clone(list[:cap(list)])
	if got, err := meter.Run(of, rate, list); !slices.Equal(got, want) || wrong(err, no) {
		t.Errorf("Run, %v: of %v, %d, %v got %v, %v; want %v, %v", name, of, rate, list, got, err, want, no)
	}
	if !slices.Equal(list[:cap(list)], was) {
		t.Errorf("Run, %v: the list was %v, and is %v", name, was, list[:cap(list)])
	}
}

// beyond: numbers far from all bounds.
var beyond = l(math.MinInt, math.MinInt+1, -1<<62, -1<<32, -1<<31, 1<<31, 1<<32, 1<<62, math.MaxInt-1, math.MaxInt)

// noCap, noCame and noRate: numbers that may not be what a link takes, what came or waits, a rate.
var (
	noCap  = append(l(0, -1, -2, -maxCap, maxCap+1, maxCap+2, maxRate), beyond...)
	noCame = append(l(-1, -2, -maxRate, maxRate+1, maxRate+2, 2*maxRate), beyond...)
	noRate = append(l(0, -1, -2, -maxCap, maxCap+1, maxCap+2, maxRate), beyond...)
)

// right: meters that may be.
var right = []api.Meter{
	m(1, 0, 0), m(1, maxRate, 0), m(1, 0, maxRate), m(1, maxRate, maxRate), m(maxCap, 0, 0), m(maxCap, maxRate, 0),
	m(maxCap, 0, maxRate), m(maxCap, maxRate, maxRate), m(maxCap-1, maxRate-1, maxRate-1), m(2, 1, 1), m(10, 4, 3), m(10, 77, 20),
}

// faulty gives meters that may not be.
func faulty() []api.Meter {
	out := []api.Meter{{}, m(0, -1, -1), m(maxCap+1, maxRate+1, maxRate+1), m(0, 1, maxRate+1), m(-1, -1, 0)}
	for _, x := range noCap {
		out = append(out, m(x, 0, 0), m(x, 4, 3), m(x, maxRate, maxRate))
	}
	for _, x := range noCame {
		out = append(out, m(1, x, 0), m(10, x, 3), m(maxCap, x, maxRate), m(1, 0, x), m(10, 4, x), m(maxCap, maxRate, x), m(10, x, x))
		// Two that would, taken together, be within the bounds again.
		out = append(out, m(10, x, -x))
	}
	return out
}

func TestBoundsAreTheDocuments(t *testing.T) {
	if api.MaxRate != maxRate || api.MaxCap != maxCap || api.MaxTicks != maxTicks {
		t.Error("a bound of package api is not the document's")
	}
}

func TestCheck(t *testing.T) {
	for _, of := range right {
		checked(t, of, api.OK)
	}
	for _, of := range faulty() {
		checked(t, of, api.ErrRange)
	}
}

// TestCheckAtTheEdges: each field at its edges, beside them and far from them, with each other one so.
func TestCheckAtTheEdges(t *testing.T) {
	for _, limit := range append(l(-1, 0, 1, 2, maxCap-1, maxCap, maxCap+1, maxRate), beyond...) {
		for _, came := range append(l(-1, 0, 1, maxCap+1, maxRate-1, maxRate, maxRate+1), beyond...) {
			for _, wait := range append(l(-1, 0, 1, maxCap+1, maxRate-1, maxRate, maxRate+1), beyond...) {
				of, no := m(limit, came, wait), api.ErrRange
				if limit >= 1 && maxCap >= limit && came >= 0 && maxRate >= came && wait >= 0 && maxRate >= wait {
					no = api.OK
				}
				checked(t, of, no)
				if no != api.OK {
					nexted(t, of, 1, 0, no)
					ran(t, of, 1, l(1), nil, no)
				}
			}
		}
	}
}

// nexts: a meter, a rate, and the rate then.
var nexts = []struct {
	name string
	of   api.Meter
	rate int
	want int
}{
	{"up, whole", m(10, 5, 0), 4, 5},
	{"up, whole, something waits", m(10, 2, 6), 4, 5},
	{"up, whole, all of a half", m(10, 0, 0), 4, 6},
	{"up, rounded down", m(10, 5, 0), 7, 8},
	{"up, rounded down, just less than two", m(10, 1, 5), 6, 7},
	{"up, rounded down to nothing", m(10, 5, 0), 3, 3},
	{"up, rounded down to nothing, just less than one", m(10, 0, 7), 3, 3},
	{"up, rounded down, great", m(777, 41, 13), 333, 489},

	{"down, whole", m(10, 15, 0), 4, 3},
	{"down, whole, something waits", m(10, 10, 10), 8, 6},
	{"down, whole, less came than the link takes", m(10, 5, 30), 6, 3},
	{"down, rounded down, not towards 0", m(10, 15, 0), 7, 5},
	{"down, rounded down, by less than one", m(10, 11, 0), 3, 2},
	{"down, rounded down, by as little as may be", m(maxCap, maxCap, 1), 2, 1},
	{"down, rounded down, by as little as may be, of a great rate", m(maxCap, maxCap, 1), maxCap, 999},
	{"down, rounded down, just less than two", m(10, 16, 1), 3, 2},
	{"down, rounded down, just more than one", m(10, 10, 6), 7, 5},
	{"down, rounded down, great", m(777, 1_041, 13), 333, 275},

	{"just as much came, nothing waits", m(10, 10, 0), 7, 7},
	{"just as much came, nothing waits, the least", m(1, 1, 0), 1, 1},
	{"just as much came, nothing waits, rate 1", m(maxCap, maxCap, 0), 1, 1},
	{"just as much came, nothing waits, the greatest", m(maxCap, maxCap, 0), maxCap, maxCap},
	{"just as much came, one waits", m(10, 10, 1), 7, 6},
	{"one less came, nothing waits, just below Cap", m(10, 9, 0), 9, 9},
	{"one less came, nothing waits, rounded down to nothing", m(100, 99, 0), 50, 50},
	{"one less came, two wait", m(10, 9, 2), 7, 7},
	{"one less came, three wait", m(10, 9, 3), 7, 6},
	{"one more came, nothing waits", m(10, 11, 0), 10, 9},

	{"nothing came, nothing waits, even", m(100, 0, 0), 40, 60},
	{"nothing came, nothing waits, odd", m(100, 0, 0), 41, 61},
	{"nothing came, nothing waits, rate 1", m(100, 0, 0), 1, 1},
	{"nothing came, nothing waits, rate 2", m(100, 0, 0), 2, 3},
	{"nothing came, nothing waits, just Cap", m(99, 0, 0), 66, 99},
	{"nothing came, nothing waits, just below Cap", m(100, 0, 0), 66, 99},
	{"nothing came, nothing waits, just above Cap", m(100, 0, 0), 67, 100},
	{"nothing came, nothing waits, at Cap", m(100, 0, 0), 100, 100},

	{"nothing came, something waits, up", m(10, 0, 4), 5, 7},
	{"nothing came, as much waits as the link takes", m(10, 0, 10), 8, 10},
	{"nothing came, twice as much waits", m(10, 0, 20), 8, 8},
	{"nothing came, one more than twice as much waits", m(10, 0, 21), 8, 7},
	{"nothing came, far more waits", m(10, 0, 50), 8, 2},
	{"nothing came, MaxRate waits", m(maxCap, 0, maxRate), 900, 1},

	{"just 1", m(10, 20, 0), 2, 1},
	{"would be 0", m(10, 30, 0), 2, 1},
	{"would be 0, of 1", m(10, 15, 0), 1, 1},
	{"would be below 0", m(10, 40, 0), 2, 1},
	{"would be far below 0", m(1, maxRate, maxRate), maxCap, 1},
	{"would be below 0, for so much waits", m(10, 10, 50), 9, 1},
	{"would be as little as may be above 1", m(10, 20, 0), 4, 2},

	{"would be above Cap", m(10, 0, 0), 9, 10},
	{"would be one above Cap", m(10, 5, 0), 9, 10},
	{"would be just Cap", m(10, 5, 0), 8, 10},
	{"rate above Cap, up", m(10, 0, 0), 500, 10},
	{"rate above Cap, stays", m(10, 10, 0), 11, 10},
	{"rate above Cap, down, but not below it", m(10, 11, 0), 500, 10},
	{"rate above Cap, down to it", m(10, 20, 0), 20, 10},
	{"rate above Cap, down below it", m(10, 20, 0), 18, 9},
	{"rate above Cap, down to 1", m(10, 30, 0), 500, 1},
	{"rate one above Cap, down to it", m(10, 10, 1), 11, 10},

	{"Cap 1, nothing came", m(1, 0, 0), 1, 1},
	{"Cap 1, nothing came, the greatest rate", m(1, 0, 0), maxCap, 1},
	{"Cap 1, MaxRate came", m(1, maxRate, 0), 1, 1},
	{"Cap 1, MaxRate waits", m(1, 0, maxRate), maxCap, 1},
	{"Cap MaxCap, nothing came, rate 1", m(maxCap, 0, 0), 1, 1},
	{"Cap MaxCap, nothing came, rate MaxCap", m(maxCap, 0, 0), maxCap, maxCap},
	{"Cap MaxCap, nothing came, just below Cap", m(maxCap, 0, 0), 666, 999},
	{"Cap MaxCap, nothing came, Cap", m(maxCap, 0, 0), 667, maxCap},
	{"Cap MaxCap, MaxRate came, rate MaxCap", m(maxCap, maxRate, 0), maxCap, 1},
	{"Cap MaxCap, MaxRate came and waits, rate MaxCap", m(maxCap, maxRate, maxRate), maxCap, 1},
	{"Cap MaxCap, MaxRate came and waits, rate 1", m(maxCap, maxRate, maxRate), 1, 1},
	{"Cap MaxCap, the half of it came", m(maxCap, 500, 0), 400, 500},
	{"Cap MaxCap, as much again came", m(maxCap, 2_000, 0), maxCap, 500},
}

func TestNext(t *testing.T) {
	for _, c := range nexts {
		nexted(t, c.of, c.rate, c.want, api.OK, c.name)
	}
}

// asked is what the document's words ask of Next, of what is right: the greatest that is no more than what was asked for,
// counted down from Cap, else 1.
func asked(of api.Meter, rate int) int {
	for next := of.Cap; next > 1; next-- {
		if (next-rate)*4*of.Cap <= rate*(2*of.Cap-2*of.Came-of.Wait) {
			return next
		}
	}
	return 1
}

// askedOfRun is what the words ask of Run, of what is right: what waits is counted up and down one by one.
func askedOfRun(of api.Meter, rate int, list []int) (rates []int) {
	wait := of.Wait
	for _, came := range list {
		wait += came
		for range of.Cap {
			if wait > 0 {
				wait--
			}
		}
		for wait > maxRate {
			wait--
		}
		rate = asked(m(of.Cap, came, wait), rate)
		rates = append(rates, rate)
	}
	return rates
}

func TestManyNexts(t *testing.T) {
	for limit := 1; limit <= 9; limit++ {
		for came := range 22 {
			for wait := range 30 {
				for rate := 1; rate <= 14; rate++ {
					nexted(t, m(limit, came, wait), rate, asked(m(limit, came, wait), rate), api.OK)
				}
			}
		}
	}
}

func TestGreatNexts(t *testing.T) {
	some := l(0, 1, 2, 3, 499, 500, 501, 998, 999, 1_000, 1_001, 1_999, 2_000, 2_001, 3_333, maxRate-1, maxRate)
	for _, limit := range l(1, 2, 3, 7, 250, 499, 500, 501, 777, maxCap-1, maxCap) {
		for _, came := range some {
			for _, wait := range some {
				for _, rate := range l(1, 2, 3, 7, 333, 499, 500, 501, 666, 667, maxCap-1, maxCap) {
					nexted(t, m(limit, came, wait), rate, asked(m(limit, came, wait), rate), api.OK)
				}
			}
		}
	}
}

// TestMeterIsCheckedByAll: a meter that may not be is told ahead of all else, with no number and no list.
func TestMeterIsCheckedByAll(t *testing.T) {
	for _, of := range faulty() {
		for _, rate := range append(l(1, 7, maxCap), noRate...) {
			nexted(t, of, rate, 0, api.ErrRange)
			for _, list := range [][]int{nil, l(0), l(3, 4), l(-1), l(3, maxRate+1), alike(0, maxTicks), alike(0, maxTicks+1), alike(-1, maxTicks+1)} {
				ran(t, of, rate, list, nil, api.ErrRange)
			}
		}
	}
}

// TestRateIsChecked: a rate that may not be is told ahead of ticks that are too many, whatever the meter.
func TestRateIsChecked(t *testing.T) {
	for _, of := range right {
		for _, rate := range noRate {
			nexted(t, of, rate, 0, api.ErrRange)
			for _, list := range [][]int{nil, l(0), l(3, 4), l(-1), l(3, maxRate+1), alike(0, maxTicks), alike(0, maxTicks+1), alike(-1, maxTicks+1)} {
				ran(t, of, rate, list, nil, api.ErrRange)
			}
		}
		for _, rate := range l(1, 2, maxCap-1, maxCap) {
			nexted(t, of, rate, asked(of, rate), api.OK)
			ran(t, of, rate, l(5), askedOfRun(of, rate, l(5)), api.OK)
		}
	}
}

// runs: what comes at each tick, and the rates behind each.
var runs = []struct {
	name string
	of   api.Meter
	rate int
	list []int
	want []int
}{
	{"no tick", m(10, 4, 3), 7, l(), l()},
	{"no tick, the rate above Cap", m(10, 4, 3), 700, l(), l()},

	{"one, nothing came", m(10, 4, 0), 4, l(0), l(6)},
	{"one, as much as the link takes", m(10, 4, 0), 4, l(10), l(4)},
	{"one, more, and it waits at once", m(10, 4, 0), 8, l(15), l(5)},
	{"one, what waited goes ahead of the rate", m(10, 4, 10), 4, l(0), l(6)},
	{"one, some of what waited goes ahead of the rate", m(10, 4, 14), 5, l(0), l(7)},
	{"one, what waited waits yet", m(10, 4, 20), 8, l(10), l(4)},
	{"one, less came than the link takes, some waited", m(10, 4, 6), 8, l(7), l(8)},
	{"one, the rate above Cap", m(10, 4, 0), 700, l(0), l(10)},

	{"each rate by the one ahead of it", m(100, 0, 0), 2, l(0, 0, 0, 0, 0, 0), l(3, 4, 6, 9, 13, 19)},
	{"what came at a tick is for that tick", m(10, 0, 0), 8, l(10, 0, 10), l(8, 10, 10)},
	{"what waits goes on to wait", m(10, 0, 0), 10, l(14, 10, 10, 10), l(7, 6, 5, 4)},
	{"what waits is less at each tick", m(10, 0, 30), 10, l(0, 0, 0, 0), l(10, 10, 10, 10)},
	{"what waits is less at each tick, and the rate rises", m(10, 0, 40), 4, l(0, 0, 0, 0), l(3, 3, 3, 4)},
	{"room unused at one tick is not for the next", m(10, 0, 0), 8, l(0, 0, 14), l(10, 10, 7)},
	{"up and down", m(20, 0, 0), 10, l(0, 30, 0, 20, 10, 40), l(15, 9, 13, 13, 16, 4)},
	{"down to 1, and up no more", m(10, 0, 0), 10, l(40, 0, 0, 0, 0), l(1, 1, 1, 1, 1)},
	{"Cap 1", m(1, 0, 0), 1, l(2, 0, 0, 1, 0), l(1, 1, 1, 1, 1)},

	{"MaxRate comes, and no more waits", m(maxCap, 0, maxRate), maxCap, l(maxRate, 0), l(1, 1)},
	{"no more waits than MaxRate at each tick", m(maxCap, 0, maxRate), 900, after(l(maxRate, maxRate), alike(0, 9)), alike(1, 11)},
	{"as many ticks as may be, nothing comes", m(100, 7, 0), 2, alike(0, maxTicks),
		after(l(3, 4, 6, 9, 13, 19, 28, 42, 63, 94), alike(100, maxTicks-10))},
	{"as many ticks as may be, as much as the link takes", m(10, 4, 0), 7, alike(10, maxTicks), alike(7, maxTicks)},
	{"as many ticks as may be, MaxRate at each", m(maxCap, 0, 0), maxCap, alike(maxRate, maxTicks), alike(1, maxTicks)},
}

// TestRun: what the meter itself says of what came makes no difference.
func TestRun(t *testing.T) {
	for _, c := range runs {
		for _, came := range l(c.of.Came, 0, 1, 10, maxCap, maxRate-1, maxRate) {
			ran(t, m(c.of.Cap, came, c.of.Wait), c.rate, c.list, c.want, api.OK, c.name, came)
		}
	}
	ran(t, m(10, 4, 3), 7, nil, nil, api.OK, "no list at all")
}

// TestCameOfTheMeterIsChecked: it has no part in Run, but for its Check.
func TestCameOfTheMeterIsChecked(t *testing.T) {
	for _, came := range noCame {
		for _, c := range runs {
			ran(t, m(c.of.Cap, came, c.of.Wait), c.rate, c.list, nil, api.ErrRange, c.name, came)
		}
	}
}

// TestNoLessThanNothingWaits: at each tick, not at the last alone: behind ticks of which less came than the link takes,
// all that then comes above it waits.
func TestNoLessThanNothingWaits(t *testing.T) {
	ran(t, m(100, 0, 0), 100, l(0, 0, 0, 120), l(100, 100, 100, 85), api.OK)
	ran(t, m(100, 0, 50), 100, l(0, 0, 140), l(100, 100, 70), api.OK)
	ran(t, m(100, 0, 50), 100, l(49, 120, 100, 100), l(100, 85, 80, 76), api.OK)
	ran(t, m(100, 0, 50), 100, l(50, 120, 100, 100), l(100, 85, 80, 76), api.OK)
	ran(t, m(100, 0, 50), 100, l(51, 120, 100, 100), l(100, 84, 79, 74), api.OK)
}

// TestMuchWaits: about MaxRate the rate is 1, and from 1 it never rises, so rates do not tell if more than MaxRate waits
// (TestTicked asks that); but they are those of the words.
func TestMuchWaits(t *testing.T) {
	for _, ticks := range l(1, 2, 5, 9, 10, 11, 30, maxTicks-12) {
		list := after(alike(maxRate, ticks), alike(0, 12))
		ran(t, m(maxCap, 0, 0), maxCap, list, alike(1, ticks+12), api.OK, ticks)
		ran(t, m(1, 0, maxRate), maxCap, list, alike(1, ticks+12), api.OK, ticks)
	}
	for _, came := range l(0, maxCap-1, maxCap, maxCap+1, maxCap+500, 2*maxCap) {
		list := l(came, 0, 0, 0, 0)
		for _, wait := range l(2_000, 3_000, 3_999, 4_000, 5_000, maxRate-1, maxRate) {
			for _, rate := range l(1, 2, 400, maxCap) {
				ran(t, m(maxCap, 0, wait), rate, list, askedOfRun(m(maxCap, 0, wait), rate, list), api.OK, came, rate)
			}
		}
	}
}

// TestTooManyTicks: they are told ahead of one of them that may not be.
func TestTooManyTicks(t *testing.T) {
	of := m(10, 4, 3)
	for many := maxTicks + 1; many <= maxTicks+3; many++ {
		for _, came := range l(0, 3, maxRate) {
			list := alike(came, many)
			ran(t, of, 7, list, nil, api.ErrFull, many)
			for at := range many {
				for _, x := range noCame {
					one := slices.Clone(list)
					one[at] = x
					ran(t, of, 7, one, nil, api.ErrFull, many, at, x)
				}
			}
		}
	}
	for _, of := range right {
		for _, rate := range l(1, 7, maxCap) {
			ran(t, of, rate, alike(0, maxTicks+1), nil, api.ErrFull)
		}
	}
	ran(t, of, 7, alike(0, 100_000), nil, api.ErrFull, "far too many of 0")
	ran(t, of, 7, alike(math.MinInt, 100_000), nil, api.ErrFull, "far too many that may not be")
}

// TestTicksAreChecked: one that may not be is told wherever it lies, alone and with another, whatever comes ahead of it.
func TestTicksAreChecked(t *testing.T) {
	for _, of := range []api.Meter{m(1, 0, 0), m(10, 4, 3), m(maxCap, maxRate, maxRate)} {
		for _, many := range l(1, 2, 3, 7, maxTicks-1, maxTicks) {
			for at := range many {
				for _, came := range l(0, 3, maxRate) {
					for _, x := range noCame {
						one := alike(came, many)
						one[at] = x
						ran(t, of, 7, one, nil, api.ErrRange, many, at, x)
						if many == 1 {
							continue
						}
						// Two that would, taken together, be within the bounds again.
						two := slices.Clone(one)
						two[(at+1)%many] = -x
						ran(t, of, 7, two, nil, api.ErrRange, many, at, x, "and the other way")
					}
				}
				for _, x := range l(0, 1, maxRate-1, maxRate) {
					one := alike(3, many)
					one[at] = x
					ran(t, of, 7, one, askedOfRun(of, 7, one), api.OK, many, at, x)
				}
			}
		}
	}
}

// roomy gives a copy with something hidden behind its length, so that an append there would be seen.
func roomy(list []int, hidden int) []int {
	return append(slices.Clone(list), hidden, hidden, hidden)[:len(list)]
}

// TestBehindTheLength: what lies there makes no difference to an answer, and is not written into, also with an error.
func TestBehindTheLength(t *testing.T) {
	of := m(10, 4, 3)
	for _, hidden := range l(0, 1, maxRate, -1, maxRate+1, math.MinInt, math.MaxInt) {
		for _, c := range runs {
			ran(t, c.of, c.rate, roomy(c.list, hidden), c.want, api.OK, c.name, hidden)
		}
		ran(t, api.Meter{}, 7, roomy(l(3, 4), hidden), nil, api.ErrRange, hidden)
		ran(t, of, 0, roomy(l(3, 4), hidden), nil, api.ErrRange, hidden)
		ran(t, of, 7, roomy(l(3, -1, 4), hidden), nil, api.ErrRange, hidden)
		ran(t, of, 7, roomy(alike(3, maxTicks+1), hidden), nil, api.ErrFull, hidden)
	}
}

// TestAnswersAreFresh: what is written into rates, behind their length, too, is seen neither in the list nor in other rates.
func TestAnswersAreFresh(t *testing.T) {
	for _, c := range runs {
		list := roomy(c.list, 5)
		was := slices.Clone(list[:cap(list)])
		first, err := meter.Run(c.of, c.rate, list)
		second, again := meter.Run(c.of, c.rate, list)
		if err != nil || again != nil {
			t.Fatal(c.name, err, again)
		}
		first = first[:cap(first)]
		for i := range first {
			first[i] = -8
		}
		if !slices.Equal(second, c.want) || !slices.Equal(list[:cap(list)], was) {
			t.Errorf("%s: other rates are %v, the list is %v", c.name, second, list[:cap(list)])
		}
	}
}

// TestNothingIsKept: an answer hangs on its arguments alone, whatever was asked before, and whatever became of the list.
func TestNothingIsKept(t *testing.T) {
	for _, c := range runs {
		list := slices.Clone(c.list)
		rates, err := meter.Run(c.of, c.rate, list)
		for i := range list {
			list[i] = -8
		}
		if !slices.Equal(rates, c.want) || err != nil {
			t.Errorf("%s: got %v, %v, want %v", c.name, rates, err, c.want)
		}
		if len(list) > 0 {
			ran(t, c.of, c.rate, list, nil, api.ErrRange, "others than", c.name)
		}
		ran(t, c.of, c.rate, c.list, c.want, api.OK, c.name, "once more")
	}
	for range 2 {
		for _, c := range nexts {
			nexted(t, c.of, c.rate, c.want, api.OK, c.name, "once more")
		}
	}
}

// TestErrorsAreNumbers: an error can be asked by errors.Is and is never OK, and none is a plain nil.
func TestErrorsAreNumbers(t *testing.T) {
	if err := meter.Check(m(0, 0, 0)); !errors.Is(err, api.ErrRange) || errors.Is(err, api.OK) {
		t.Errorf("got %v, want ErrRange", err)
	}
	if _, err := meter.Next(m(10, 4, 3), 0); !errors.Is(err, api.ErrRange) || errors.Is(err, api.OK) {
		t.Errorf("got %v, want ErrRange", err)
	}
	if _, err := meter.Run(m(10, 4, 3), 7, alike(-1, maxTicks+1)); !errors.Is(err, api.ErrFull) || errors.Is(err, api.OK) {
		t.Errorf("got %v, want ErrFull", err)
	}
	if err := meter.Check(m(10, 4, 3)); err != nil {
		t.Errorf("got %v, want nil", err)
	}
}

// everyList hands on all lists of so many of the numbers.
func everyList(numbers []int, many int, to func([]int)) {
	if many == 0 {
		to(nil)
		return
	}
	everyList(numbers, many-1, func(list []int) {
		for _, a := range numbers {
			to(append(slices.Clone(list), a))
		}
	})
}

func TestManyRuns(t *testing.T) {
	for _, limit := range l(1, 2, 5, 9) {
		for _, wait := range l(0, 1, 4, 12) {
			for _, rate := range l(1, 4, 9, 20) {
				for many := range 5 {
					everyList(l(0, 1, 4, 5, 11), many, func(list []int) {
						of := m(limit, 3, wait)
						ran(t, of, rate, list, askedOfRun(of, rate, list), api.OK)
					})
				}
			}
		}
	}
}

// some gives so many numbers below a bound, others for each seed, always the same.
func some(seed, many, bound int) []int {
	out := make([]int, many)
	for i := range out {
		seed = (seed*1_103_515_245 + 12_345) % (1 << 31)
		out[i] = (seed >> 8) % bound
	}
	return out
}

// TestLongRuns holds Run, of each number of ticks, against what the words ask, and against Next again and again.
func TestLongRuns(t *testing.T) {
	for i, of := range []api.Meter{
		m(1, 0, 0), m(2, 9, 1), m(7, 0, 30), m(40, 41, 0), m(333, 0, 500), m(500, maxRate, 0), m(maxCap-1, 3, 99),
		m(maxCap, 0, 0), m(maxCap, 0, maxRate), m(maxCap, maxRate, 4_000),
	} {
		for many := range maxTicks + 1 {
			for _, bound := range l(2, of.Cap+1, 2*of.Cap, 3*of.Cap+1, maxRate+1) {
				list := some(100*i+many, many, bound)
				for _, rate := range l(1, of.Cap, (of.Cap+1)/2, maxCap) {
					ran(t, of, rate, list, askedOfRun(of, rate, list), api.OK)
					tickByTick(t, of, rate, list)
				}
			}
		}
	}
}

// tickByTick asks Next at each tick of what came then and what waits, and checks that Run tells the same.
func tickByTick(t *testing.T, of api.Meter, rate int, list []int) {
	t.Helper()
	rates, err := meter.Run(of, rate, list)
	if err != nil || len(rates) != len(list) {
		t.Fatalf("of %v, %d, %v got %v, %v", of, rate, list, rates, err)
	}
	for i, came := range list {
		of = m(of.Cap, came, min(max(of.Wait+came-of.Cap, 0), maxRate))
		rate, err = meter.Next(of, rate)
		if err != nil || rate != rates[i] || rate < 1 || rate > of.Cap {
			t.Fatalf("at %d of %v got %d, %v; Run told %v", i, of, rate, err, rates)
		}
	}
}
