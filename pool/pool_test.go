package pool_test

import (
	"errors"
	"math"
	"slices"
	"testing"

	"fairsluice/api"
	"fairsluice/plain"
	"fairsluice/pool"
)

const (
	maxRate  = 10_000
	maxCap   = 1_000
	maxTicks = 60
)

func l(list ...int) []int { return list }

func p(room, limit, wait int) api.Pool { return api.Pool{Room: room, Cap: limit, Wait: wait} }

func g(went, lost, wait int) api.Gone { return api.Gone{Went: went, Lost: lost, Wait: wait} }

// alike gives so many ticks of which at each as much comes.
func alike(came, many int) []int { return slices.Repeat(l(came), many) }

// after gives one list with the others behind it.
func after(lists ...[]int) []int { return slices.Concat(lists...) }

// wrong tells if an error is another than is wanted; OK is a plain nil.
func wrong(err error, no api.Errno) bool {
	return plain.Told(err) != no || no == api.OK && err != nil
}

func checked(t *testing.T, of api.Pool, no api.Errno, name ...any) {
	t.Helper()
	if err := pool.Check(of); wrong(err, no) {
		t.Errorf("Check, %v: of %v got %v, want %v", name, of, err, no)
	}
}

// ticked checks what Tick answers where nothing is wrong: what waits is told twice, and the rest of the pool stays.
func ticked(t *testing.T, of api.Pool, came int, want api.Gone, name ...any) {
	t.Helper()
	next, gone, err := pool.Tick(of, came)
	if next != p(of.Room, of.Cap, want.Wait) || gone != want || err != nil {
		t.Errorf("Tick, %v: of %v, %d got %v, %v, %v; want %v", name, of, came, next, gone, err, want)
	}
}

// unticked checks that Tick answers an error, with no pool and nothing gone beside it.
func unticked(t *testing.T, of api.Pool, came int, no api.Errno, name ...any) {
	t.Helper()
	next, gone, err := pool.Tick(of, came)
	if next != (api.Pool{}) || gone != (api.Gone{}) || wrong(err, no) {
		t.Errorf("Tick, %v: of %v, %d got %v, %v, %v; want %v", name, of, came, next, gone, err, no)
	}
}

// ran checks what Run answers, with an error nothing gone; and that the list is as it was, behind its length, too.
func ran(t *testing.T, of api.Pool, list []int, want api.Gone, no api.Errno, name ...any) {
	t.Helper()
	was := slices.Clone(list[:cap(list)])
	if gone, err := pool.Run(of, list); gone != want || wrong(err, no) {
		t.Errorf("Run, %v: of %v, %v got %v, %v; want %v, %v", name, of, list, gone, err, want, no)
	}
	if !slices.Equal(list[:cap(list)], was) {
		t.Errorf("Run, %v: the list was %v, and is %v", name, was, list[:cap(list)])
	}
}

// beyond: numbers far from all bounds.
var beyond = l(math.MinInt, math.MinInt+1, -1<<62, -1<<32, -1<<31, 1<<31, 1<<32, 1<<62, math.MaxInt-1, math.MaxInt)

// noCame: numbers of which none may come.
var noCame = append(l(-1, -2, -maxRate, maxRate+1, maxRate+2, 1_000_000_001), beyond...)

func TestBoundsAreTheDocuments(t *testing.T) {
	if api.MaxRate != maxRate || api.MaxCap != maxCap || api.MaxTicks != maxTicks {
		t.Error("a bound of package api is not the document's")
	}
}

// right: pools that may be.
var right = []struct {
	name string
	of   api.Pool
}{
	{"the least of each", p(0, 1, 0)},
	{"no room, the greatest cap", p(0, maxCap, 0)},
	{"room for one, empty", p(1, 1, 0)},
	{"room for one, full", p(1, 1, 1)},
	{"the greatest of each", p(maxRate, maxCap, maxRate)},
	{"the greatest room, the least cap, empty", p(maxRate, 1, 0)},
	{"the greatest room, the least cap, full", p(maxRate, 1, maxRate)},
	{"the greatest room, the greatest cap, empty", p(maxRate, maxCap, 0)},
	{"the greatest room, one below full", p(maxRate, maxCap, maxRate-1)},
	{"one below the greatest room, full", p(maxRate-1, maxCap-1, maxRate-1)},
	{"empty", p(5, 3, 0)},
	{"some wait", p(5, 3, 2)},
	{"one below full", p(5, 3, 4)},
	{"full", p(5, 3, 5)},
	{"cap above room", p(3, 5, 2)},
	{"cap above room, full", p(3, 5, 3)},
	{"cap as room", p(4, 4, 4)},
	{"more room than the greatest cap", p(maxCap+1, 1, maxCap+1)},
}

// faulty: pools that may not be.
var faulty = []struct {
	name string
	of   api.Pool
}{
	{"no pool at all", p(0, 0, 0)},
	{"room below 0", p(-1, 1, 0)},
	{"room and wait below 0", p(-1, 1, -1)},
	{"room above MaxRate", p(maxRate+1, 1, 0)},
	{"room above MaxRate, full", p(maxRate+1, 1, maxRate+1)},
	{"room the least int", p(math.MinInt, 1, 0)},
	{"room the greatest int", p(math.MaxInt, 1, 0)},
	{"room and wait the least int", p(math.MinInt, 1, math.MinInt)},
	{"room and wait the greatest int", p(math.MaxInt, 1, math.MaxInt)},
	{"cap below 1", p(5, 0, 0)},
	{"cap below 1, full", p(5, 0, 5)},
	{"cap below 0", p(5, -1, 0)},
	{"cap above MaxCap", p(5, maxCap+1, 0)},
	{"cap above MaxCap, within MaxRate", p(maxRate, maxRate, 0)},
	{"cap above MaxCap, no room", p(0, maxCap+1, 0)},
	{"cap the least int", p(5, math.MinInt, 0)},
	{"cap the greatest int", p(5, math.MaxInt, 0)},
	{"wait below 0", p(5, 3, -1)},
	{"wait below 0, no room", p(0, 1, -1)},
	{"wait above room", p(5, 3, 6)},
	{"wait above room, within cap", p(2, 9, 3)},
	{"wait above room, within room and cap", p(5, 3, 8)},
	{"wait above no room", p(0, 1, 1)},
	{"wait above the greatest room", p(maxRate, 1, maxRate+1)},
	{"wait the least int", p(5, 3, math.MinInt)},
	{"wait the greatest int", p(5, 3, math.MaxInt)},
	{"room below, cap below", p(-1, 0, 0)},
	{"room above, cap above", p(maxRate+1, maxCap+1, 0)},
	{"room above, wait below", p(maxRate+1, 1, -1)},
	{"cap below, wait above", p(5, 0, 6)},
	{"cap above, wait below", p(5, maxCap+1, -1)},
	{"all below", p(-1, 0, -2)},
	{"all above", p(maxRate+1, maxCap+1, maxRate+2)},
	{"all the least int", p(math.MinInt, math.MinInt, math.MinInt)},
	{"all the greatest int", p(math.MaxInt, math.MaxInt, math.MaxInt)},
}

func TestCheck(t *testing.T) {
	for _, c := range right {
		checked(t, c.of, api.OK, c.name)
	}
	for _, c := range faulty {
		checked(t, c.of, api.ErrRange, c.name)
	}
}

// TestCheckAtTheEdges: each field at its edges, beside them and far from them, with each other one so.
func TestCheckAtTheEdges(t *testing.T) {
	for _, room := range append(l(-1, 0, 1, 2, 7, maxRate-1, maxRate, maxRate+1), beyond...) {
		for _, limit := range append(l(-1, 0, 1, 2, 7, maxCap-1, maxCap, maxCap+1, maxRate), beyond...) {
			for _, wait := range append(l(-1, 0, 1, 2, 3, 6, 7, 8, maxRate-2, maxRate-1, maxRate, maxRate+1), beyond...) {
				no := api.ErrRange
				if room >= 0 && maxRate >= room && limit >= 1 && maxCap >= limit && wait >= 0 && room >= wait {
					no = api.OK
				}
				checked(t, p(room, limit, wait), no)
			}
		}
	}
}

func TestTick(t *testing.T) {
	for _, c := range []struct {
		name string
		of   api.Pool
		came int
		want api.Gone
	}{
		{"empty, none came", p(5, 3, 0), 0, g(0, 0, 0)},
		{"empty, one came", p(5, 3, 0), 1, g(1, 0, 0)},
		{"empty, one fewer than cap", p(5, 3, 0), 2, g(2, 0, 0)},
		{"empty, as many as cap", p(5, 3, 0), 3, g(3, 0, 0)},
		{"empty, one more than cap", p(5, 3, 0), 4, g(3, 0, 1)},
		{"empty, as many as room", p(5, 3, 0), 5, g(3, 0, 2)},
		{"empty, one fewer than cap and room", p(5, 3, 0), 7, g(3, 0, 4)},
		{"empty, as many as cap and room", p(5, 3, 0), 8, g(3, 0, 5)},
		{"empty, one more than cap and room", p(5, 3, 0), 9, g(3, 1, 5)},
		{"empty, MaxRate came", p(5, 3, 0), maxRate, g(3, maxRate-8, 5)},

		{"full, none came", p(5, 3, 5), 0, g(3, 0, 2)},
		{"full, one came", p(5, 3, 5), 1, g(3, 0, 3)},
		{"full, one fewer than cap", p(5, 3, 5), 2, g(3, 0, 4)},
		{"full, as many as cap", p(5, 3, 5), 3, g(3, 0, 5)},
		{"full, one more than cap", p(5, 3, 5), 4, g(3, 1, 5)},
		{"full, as many as cap and room", p(5, 3, 5), 8, g(3, 5, 5)},
		{"full, one more than cap and room", p(5, 3, 5), 9, g(3, 6, 5)},
		{"full, MaxRate came", p(5, 3, 5), maxRate, g(3, maxRate-3, 5)},

		{"some wait, none came", p(5, 3, 2), 0, g(2, 0, 0)},
		{"some wait, together as many as cap", p(5, 3, 2), 1, g(3, 0, 0)},
		{"some wait, together one more than cap", p(5, 3, 2), 2, g(3, 0, 1)},
		{"some wait, together as many as cap and room", p(5, 3, 2), 6, g(3, 0, 5)},
		{"some wait, together one more than cap and room", p(5, 3, 2), 7, g(3, 1, 5)},
		{"as many wait as cap, none came", p(5, 3, 3), 0, g(3, 0, 0)},
		{"one more waits than cap, none came", p(5, 3, 4), 0, g(3, 0, 1)},

		{"cap above room, full, none came", p(3, 5, 3), 0, g(3, 0, 0)},
		{"cap above room, full, as many as go", p(3, 5, 3), 2, g(5, 0, 0)},
		{"cap above room, full, one more", p(3, 5, 3), 3, g(5, 0, 1)},
		{"cap above room, full, as many as wait then", p(3, 5, 3), 5, g(5, 0, 3)},
		{"cap above room, full, one lost", p(3, 5, 3), 6, g(5, 1, 3)},

		{"no room, none came", p(0, 4, 0), 0, g(0, 0, 0)},
		{"no room, one fewer than cap", p(0, 4, 0), 3, g(3, 0, 0)},
		{"no room, as many as cap", p(0, 4, 0), 4, g(4, 0, 0)},
		{"no room, one more than cap", p(0, 4, 0), 5, g(4, 1, 0)},
		{"no room, MaxRate came", p(0, 4, 0), maxRate, g(4, maxRate-4, 0)},
		{"the least, one came", p(0, 1, 0), 1, g(1, 0, 0)},
		{"the least, two came", p(0, 1, 0), 2, g(1, 1, 0)},
		{"room for one, full, one came", p(1, 1, 1), 1, g(1, 0, 1)},
		{"room for one, full, two came", p(1, 1, 1), 2, g(1, 1, 1)},

		{"the greatest, empty, MaxRate came", p(maxRate, maxCap, 0), maxRate, g(1_000, 0, 9_000)},
		{"the greatest, full, none came", p(maxRate, maxCap, maxRate), 0, g(1_000, 0, 9_000)},
		{"the greatest, full, as many as cap", p(maxRate, maxCap, maxRate), maxCap, g(1_000, 0, 10_000)},
		{"the greatest, full, one more than cap", p(maxRate, maxCap, maxRate), maxCap + 1, g(1_000, 1, 10_000)},
		{"the greatest, full, MaxRate came", p(maxRate, maxCap, maxRate), maxRate, g(1_000, 9_000, 10_000)},
		{"the greatest room, the least cap, full, MaxRate came", p(maxRate, 1, maxRate), maxRate, g(1, 9_999, 10_000)},
		{"the greatest, full, one fewer than MaxRate came", p(maxRate, maxCap, maxRate), maxRate - 1, g(1_000, 8_999, 10_000)},
	} {
		ticked(t, c.of, c.came, c.want, c.name)
		ran(t, c.of, l(c.came), c.want, api.OK, c.name)
	}
}

// TestTickIsChecked: the pool is asked ahead of what came, and neither a pool nor what became of it is told with an error.
func TestTickIsChecked(t *testing.T) {
	for _, came := range noCame {
		for _, c := range right {
			unticked(t, c.of, came, api.ErrRange, c.name)
		}
		for _, c := range faulty {
			unticked(t, c.of, came, api.ErrRange, c.name)
		}
	}
	for _, c := range faulty {
		for _, came := range l(0, 1, 2, 5, 6, maxCap, maxRate-1, maxRate) {
			unticked(t, c.of, came, api.ErrRange, c.name)
		}
	}
}

// runs: what comes at each tick, and what became of all of it.
var runs = []struct {
	name string
	of   api.Pool
	list []int
	want api.Gone
}{
	{"no tick, empty", p(5, 3, 0), l(), g(0, 0, 0)},
	{"no tick, some wait", p(5, 3, 2), l(), g(0, 0, 2)},
	{"no tick, full", p(5, 3, 5), l(), g(0, 0, 5)},
	{"no tick, the greatest, full", p(maxRate, maxCap, maxRate), l(), g(0, 0, maxRate)},

	{"one, none came", p(5, 3, 5), l(0), g(3, 0, 2)},
	{"one, some are lost", p(5, 3, 5), l(6), g(3, 3, 5)},
	{"one, MaxRate came", p(5, 3, 0), l(maxRate), g(3, maxRate-8, 5)},

	{"what waits goes later", p(5, 3, 0), l(5, 0), g(5, 0, 0)},
	{"what waits goes with what comes", p(5, 3, 0), l(5, 2), g(6, 0, 1)},
	{"lost at first, and what waits goes later", p(5, 3, 0), l(10, 0, 0), g(8, 2, 0)},
	{"lost at first, and some wait yet", p(5, 3, 0), l(10, 0), g(6, 2, 2)},
	{"lost at last alone", p(5, 3, 0), l(0, 3, 9), g(6, 1, 5)},
	{"lost at each", p(5, 3, 0), l(9, 9, 9), g(9, 13, 5)},
	{"lost at first and at last", p(5, 3, 0), l(9, 0, 0, 9), g(11, 2, 5)},
	{"none lost, together far more than room", p(5, 3, 5), l(3, 3, 3, 3, 3), g(15, 0, 5)},
	{"ticks of which nothing comes", p(5, 3, 5), l(0, 0, 0, 0), g(5, 0, 0)},
	{"ticks of which nothing comes, some wait yet", p(9, 2, 9), l(0, 0, 0), g(6, 0, 3)},
	{"ticks of which nothing comes, empty", p(5, 3, 0), l(0, 0, 0), g(0, 0, 0)},
	{"nothing comes between", p(5, 3, 0), l(8, 0, 0, 0, 8, 0), g(14, 0, 2)},
	{"what goes unused at one tick is not for the next", p(5, 3, 0), l(0, 0, 9), g(3, 1, 5)},

	{"no room, all within cap", p(0, 4, 0), l(4, 3, 0, 4), g(11, 0, 0)},
	{"no room, some above cap", p(0, 4, 0), l(5, 0, 9, 1), g(9, 6, 0)},
	{"the least", p(0, 1, 0), l(2, 0, 1, 1), g(3, 1, 0)},
	{"room for one", p(1, 1, 0), l(3, 0, 2, 1), g(4, 1, 1)},
	{"cap above room", p(3, 5, 3), l(7, 7, 7), g(15, 6, 3)},

	{"as many ticks as may be, nothing comes, empty", p(5, 3, 0), alike(0, maxTicks), g(0, 0, 0)},
	{"as many ticks as may be, nothing comes, full", p(100, 1, 100), alike(0, maxTicks), g(60, 0, 40)},
	{"as many ticks as may be, as many as go", p(5, 3, 5), alike(3, maxTicks), g(180, 0, 5)},
	{"as many ticks as may be, one more than goes", p(5, 3, 0), alike(4, maxTicks), g(180, 55, 5)},
	{"as many ticks as may be, MaxRate at each, the least", p(0, 1, 0), alike(maxRate, maxTicks), g(60, 599_940, 0)},
	{"as many ticks as may be, MaxRate at each, the greatest", p(maxRate, maxCap, maxRate), alike(maxRate, maxTicks), g(60_000, 540_000, 10_000)},
	{"as many ticks as may be, all that comes at the first", p(maxRate, 9, 0), after(l(maxRate), alike(0, maxTicks-1)), g(540, 0, 9_460)},
	{"as many ticks as may be, all that comes at the last", p(20, 9, 20), after(alike(0, maxTicks-1), l(maxRate)), g(29, maxRate-29, 20)},
	{"one tick fewer than may be", p(5, 3, 0), alike(4, maxTicks-1), g(177, 54, 5)},
}

func TestRun(t *testing.T) {
	for _, c := range runs {
		ran(t, c.of, c.list, c.want, api.OK, c.name)
	}
	for _, c := range right {
		ran(t, c.of, nil, g(0, 0, c.of.Wait), api.OK, c.name)
		ran(t, c.of, make([]int, 0, 9), g(0, 0, c.of.Wait), api.OK, c.name)
		ran(t, c.of, l(9, 9)[:0], g(0, 0, c.of.Wait), api.OK, c.name)
	}
}

// TestFaultyPoolsDoNotRun: what is wrong with the pool is told of any list, and ahead of what is wrong there.
func TestFaultyPoolsDoNotRun(t *testing.T) {
	for _, c := range faulty {
		for _, list := range [][]int{
			nil, l(), l(0), l(1, 2), l(maxRate), alike(1, maxTicks), l(-1), l(maxRate + 1), l(math.MinInt), l(math.MaxInt),
			alike(0, maxTicks+1), alike(-1, maxTicks+1), alike(0, 1_000),
		} {
			ran(t, c.of, list, api.Gone{}, api.ErrRange, c.name)
		}
	}
}

// TestTooManyTicks: it is told ahead of what is wrong with one of them, wherever that lies.
func TestTooManyTicks(t *testing.T) {
	of := p(5, 3, 2)
	for many := maxTicks + 1; many <= maxTicks+3; many++ {
		for _, came := range l(0, 3, maxRate) {
			list := alike(came, many)
			ran(t, of, list, api.Gone{}, api.ErrFull, many)
			for at := range many {
				for _, x := range noCame {
					one := slices.Clone(list)
					one[at] = x
					ran(t, of, one, api.Gone{}, api.ErrFull, many, at, x)
				}
			}
		}
	}
	for _, c := range right {
		ran(t, c.of, alike(0, maxTicks+1), api.Gone{}, api.ErrFull, c.name)
	}
	ran(t, of, alike(0, 100_000), api.Gone{}, api.ErrFull, "far too many of 0")
	ran(t, of, alike(maxRate, 100_000), api.Gone{}, api.ErrFull, "far too many")
	ran(t, of, alike(math.MinInt, 100_000), api.Gone{}, api.ErrFull, "far too many that may not be")
}

// TestTicksAreChecked: one that may not be is told wherever it lies, alone and with another, whatever comes ahead of it.
func TestTicksAreChecked(t *testing.T) {
	for _, of := range []api.Pool{p(0, 1, 0), p(5, 3, 2), p(maxRate, maxCap, maxRate)} {
		for _, many := range l(1, 2, 3, 7, maxTicks-1, maxTicks) {
			for at := range many {
				for _, came := range l(0, 3, maxRate) {
					for _, x := range noCame {
						one := alike(came, many)
						one[at] = x
						ran(t, of, one, api.Gone{}, api.ErrRange, many, at, x)
						if many == 1 {
							continue
						}
						// Two that would, taken together, be within the bounds again.
						two := slices.Clone(one)
						two[(at+1)%many] = -x
						ran(t, of, two, api.Gone{}, api.ErrRange, many, at, x, "and the other way")
					}
				}
			}
		}
	}
}

// roomy gives a copy with something hidden behind its length, so that an append there would be seen.
func roomy(list []int, hidden int) []int {
	return append(slices.Clone(list), hidden, hidden, hidden)[:len(list)]
}

// TestBehindTheLength: what lies there makes no difference to an answer, and is not written into, also with an error.
func TestBehindTheLength(t *testing.T) {
	of := p(5, 3, 2)
	for _, hidden := range l(0, 1, maxRate, -1, maxRate+1, math.MinInt, math.MaxInt) {
		for _, c := range runs {
			ran(t, c.of, roomy(c.list, hidden), c.want, api.OK, c.name, hidden)
		}
		ran(t, api.Pool{}, roomy(l(3, 4), hidden), api.Gone{}, api.ErrRange, hidden)
		ran(t, of, roomy(l(3, -1, 4), hidden), api.Gone{}, api.ErrRange, hidden)
		ran(t, of, roomy(l(maxRate+1), hidden), api.Gone{}, api.ErrRange, hidden)
		ran(t, of, roomy(alike(3, maxTicks+1), hidden), api.Gone{}, api.ErrFull, hidden)
	}
}

// TestNothingIsKept: an answer hangs on its arguments alone, whatever was asked before, and whatever became of the list.
func TestNothingIsKept(t *testing.T) {
	for _, c := range runs {
		list := slices.Clone(c.list)
		for range 2 {
			ran(t, c.of, list, c.want, api.OK, c.name)
		}
		for i := range list {
			list[i] = -8
		}
		if len(list) > 0 {
			ran(t, c.of, list, api.Gone{}, api.ErrRange, "others than", c.name)
		}
		ran(t, c.of, c.list, c.want, api.OK, c.name, "once more")
	}
	for _, c := range right {
		for range 3 {
			want := asked(c.of, l(77))
			ticked(t, c.of, 77, want, c.name, "once more")
		}
	}
}

// TestErrorsAreNumbers: an error can be asked by errors.Is and is never OK, and none is a plain nil.
func TestErrorsAreNumbers(t *testing.T) {
	if err := pool.Check(p(5, 0, 0)); !errors.Is(err, api.ErrRange) || errors.Is(err, api.OK) {
		t.Errorf("got %v, want ErrRange", err)
	}
	if _, _, err := pool.Tick(p(5, 3, 2), -1); !errors.Is(err, api.ErrRange) || errors.Is(err, api.OK) {
		t.Errorf("got %v, want ErrRange", err)
	}
	if _, err := pool.Run(p(5, 3, 2), alike(-1, maxTicks+1)); !errors.Is(err, api.ErrFull) || errors.Is(err, api.OK) {
		t.Errorf("got %v, want ErrFull", err)
	}
	if err := pool.Check(p(5, 3, 2)); err != nil {
		t.Errorf("got %v, want nil", err)
	}
}

// asked is what the document's words ask of Run, of what is right: one by one of all goes while the link takes it, waits
// while there is room, and else is lost.
func asked(of api.Pool, list []int) (out api.Gone) {
	out.Wait = of.Wait
	for _, came := range list {
		all, goes := out.Wait+came, of.Cap
		for out.Wait = 0; all > 0; all-- {
			switch {
			case goes > 0:
				goes--
				out.Went++
			case out.Wait < of.Room:
				out.Wait++
			default:
				out.Lost++
			}
		}
	}
	return out
}

// everyPool hands on all pools up to that room and cap.
func everyPool(room, limit int, to func(api.Pool)) {
	for r := range room + 1 {
		for c := 1; c <= limit; c++ {
			for wait := range r + 1 {
				to(p(r, c, wait))
			}
		}
	}
}

// everyList hands on all lists of so many of the numbers.
func everyList(numbers []int, many int, to func([]int)) {
	if many == 0 {
		to(nil)
		return
	}
	everyList(numbers, many-1, func(list []int) {
		for _, a := range numbers {
			to(append(slices.Clone(list), a))
		}
	})
}

func TestManyTicks(t *testing.T) {
	everyPool(9, 9, func(of api.Pool) {
		checked(t, of, api.OK)
		for came := range 22 {
			ticked(t, of, came, asked(of, l(came)))
		}
	})
}

func TestManyRuns(t *testing.T) {
	everyPool(4, 4, func(of api.Pool) {
		for many := range 5 {
			everyList(l(0, 1, 2, 4, 9), many, func(list []int) { ran(t, of, list, asked(of, list), api.OK) })
		}
	})
}

// some gives so many numbers below a bound, others for each seed, always the same.
func some(seed, many, bound int) []int {
	out := make([]int, many)
	for i := range out {
		seed = (seed*1_103_515_245 + 12_345) % (1 << 31)
		out[i] = (seed >> 8) % bound
	}
	return out
}

// TestLongRuns holds Run, of each number of ticks, against what the words ask, and against Tick again and again.
func TestLongRuns(t *testing.T) {
	for i, of := range []api.Pool{
		p(0, 1, 0), p(0, 40, 0), p(1, 1, 1), p(7, 2, 0), p(7, 30, 7), p(40, 5, 12), p(500, 20, 500), p(3, maxCap, 1),
		p(maxRate, 1, 0), p(maxRate, maxCap, maxRate), p(maxRate, 777, 9_999),
	} {
		for many := range maxTicks + 1 {
			for _, bound := range l(2, 2*of.Cap+1, of.Room+of.Cap+2, maxRate+1) {
				list := some(100*i+many, many, min(bound, maxRate+1))
				ran(t, of, list, asked(of, list), api.OK)
				tickByTick(t, of, list)
			}
		}
	}
}

// tickByTick lets the pool tick for each, and checks that at each tick nothing is made and nothing forgotten, that none
// waits where the link would take it nor is lost where there is room, and that Run tells the same of all of them.
func tickByTick(t *testing.T, of api.Pool, list []int) {
	t.Helper()
	now, all := of, g(0, 0, of.Wait)
	for i, came := range list {
		next, gone, err := pool.Tick(now, came)
		if err != nil || pool.Check(next) != nil || next != p(of.Room, of.Cap, gone.Wait) {
			t.Fatalf("of %v, %v: at %d there is %v, %v, %v", of, list, i, next, gone, err)
		}
		if gone.Went+gone.Lost+gone.Wait != now.Wait+came || min(gone.Went, gone.Lost, gone.Wait) < 0 {
			t.Fatalf("of %v, %v: at %d %d waited and %d came, and became %v", of, list, i, now.Wait, came, gone)
		}
		if gone.Went > of.Cap || gone.Wait > 0 && gone.Went < of.Cap || gone.Lost > 0 && gone.Wait < of.Room {
			t.Fatalf("of %v, %v: at %d of %v and %d became %v", of, list, i, now, came, gone)
		}
		now, all = next, g(all.Went+gone.Went, all.Lost+gone.Lost, gone.Wait)
	}
	ran(t, of, list, all, api.OK, "tick by tick")
}

// TestAllThatCame: what went, was lost, and waits is all that waited and came.
func TestAllThatCame(t *testing.T) {
	for i, of := range []api.Pool{p(0, 1, 0), p(7, 2, 3), p(9, 40, 4), p(500, 20, 500), p(maxRate, maxCap, 1)} {
		for seed := range 40 {
			for _, bound := range l(3*of.Cap+2, maxRate+1) {
				list := some(1_000*i+seed, seed+21, min(bound, maxRate+1))
				gone, err := pool.Run(of, list)
				if err != nil {
					t.Fatal(of, list, err)
				}
				all := of.Wait
				for _, came := range list {
					all += came
				}
				if gone.Went+gone.Lost+gone.Wait != all {
					t.Errorf("of %v, %v got %v, not %d together", of, list, gone, all)
				}
			}
		}
	}
}
