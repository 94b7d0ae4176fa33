package road_test

import (
	"errors"
	"math"
	"slices"
	"testing"

	"fairsluice/api"
	"fairsluice/plain"
	"fairsluice/road"
)

const (
	maxFlows = 6
	maxCap   = 1_000
	maxRate  = 10_000
)

func l(list ...int) []int { return list }

func s(window, way, left, came int) api.Source {
	return api.Source{Window: window, Way: way, Left: left, Came: came}
}

// fresh is a source that sent nothing yet.
func fresh(window, left int) api.Source { return s(window, 0, left, 0) }

func of(list ...api.Source) []api.Source { return list }

func p(room, limit, wait int) api.Pool { return api.Pool{Room: room, Cap: limit, Wait: wait} }

func g(went, lost, wait int) api.Gone { return api.Gone{Went: went, Lost: lost, Wait: wait} }

// alike gives a list of so many of one thing.
func alike[T any](one T, many int) []T {
	out := make([]T, many)
	for i := range out {
		out[i] = one
	}
	return out
}

// roomy gives a copy with something hidden behind its length, so that an append there would be seen.
func roomy(list []api.Source, hidden api.Source) []api.Source {
	return append(slices.Clone(list), hidden, hidden, hidden)[:len(list)]
}

// made makes a road that is right.
func made(t *testing.T, list []api.Source, pool api.Pool) *road.Road {
	t.Helper()
	r, err := road.New(list, pool)
	if r == nil || err != nil {
		t.Fatalf("New: of %v, %v got %v, %v", list, pool, r, err)
	}
	return r
}

// unmade checks that none is made, that this is told, and that the list is as it was, behind its length, too.
func unmade(t *testing.T, list []api.Source, pool api.Pool, no api.Errno, name ...any) {
	t.Helper()
	was := slices.Clone(list[:cap(list)])
	if r, err := road.New(list, pool); r != nil || plain.Told(err) != no {
		t.Errorf("New, %v: of %v, %v got %v, %v; want nil, %v", name, list, pool, r, err, no)
	}
	if !slices.Equal(list[:cap(list)], was) {
		t.Errorf("New, %v: the list was %v, and is %v", name, was, list[:cap(list)])
	}
}

// sourcesOf asks for each source there is.
func sourcesOf(t *testing.T, r *road.Road, many int) []api.Source {
	t.Helper()
	out := make([]api.Source, many)
	for i := range out {
		one, err := r.Source(i)
		if err != nil {
			t.Fatalf("Source: of %d of %d got %v", i, many, err)
		}
		out[i] = one
	}
	return out
}

// stands checks all that a road tells of itself.
func stands(t *testing.T, r *road.Road, list []api.Source, pool api.Pool, waits []int, name ...any) {
	t.Helper()
	if got := sourcesOf(t, r, len(list)); !slices.Equal(got, list) {
		t.Fatalf("Source, %v: got %v, want %v", name, got, list)
	}
	if got := r.Pool(); got != pool {
		t.Fatalf("Pool, %v: got %v, want %v", name, got, pool)
	}
	if got := r.Waits(); !slices.Equal(got, waits) {
		t.Fatalf("Waits, %v: got %v, want %v", name, got, waits)
	}
}

// asked is what the document's words ask of a road: one by one of all goes while the link takes it, waits while there is
// room, and else is lost.
type asked struct {
	sources []api.Source
	pool    api.Pool
	waits   []int
}

func wanted(list []api.Source, pool api.Pool) *asked {
	return &asked{sources: slices.Clone(list), pool: pool}
}

func (a *asked) tick() (gone api.Gone) {
	faster := 2*len(a.waits) <= a.pool.Room
	all := a.sent()
	a.waits = make([]int, 0, len(all))
	for at, i := range all {
		switch {
		case at < a.pool.Cap:
			gone.Went++
			a.sources[i] = came(a.sources[i], faster)
		case len(a.waits) < a.pool.Room:
			gone.Wait++
			a.waits = append(a.waits, i)
		default:
			gone.Lost++
			a.sources[i] = lost(a.sources[i])
		}
	}
	a.pool.Wait = len(a.waits)
	return gone
}

func (a *asked) sent() []int {
	all := slices.Clone(a.waits)
	for i := range a.sources {
		for one := &a.sources[i]; one.Left > 0 && one.Way < one.Window; one.Way++ {
			one.Left--
			all = append(all, i)
		}
	}
	return all
}

func came(one api.Source, faster bool) api.Source {
	switch {
	case faster && one.Window != maxCap:
		one.Window++
	case !faster && one.Window != 1:
		one.Window--
	}
	return s(one.Window, one.Way-1, one.Left, one.Came+1)
}

func lost(one api.Source) api.Source {
	if one.Window != 1 {
		one.Window /= 2
	}
	return s(one.Window, one.Way-1, one.Left+1, one.Came)
}

// done tells if all of each came.
func (a *asked) done() bool {
	return !slices.ContainsFunc(a.sources, func(one api.Source) bool { return one.Left > 0 || one.Way > 0 })
}

// kept checks that of each source as many wait as are under way, and that none is gone for good.
func kept(t *testing.T, r *road.Road, first []api.Source) {
	t.Helper()
	wait := make([]int, len(first))
	for _, i := range r.Waits() {
		wait[i]++
	}
	for i, one := range sourcesOf(t, r, len(first)) {
		if one.Way != wait[i] || one.Way+one.Left+one.Came != first[i].Left {
			t.Fatalf("of %v: %d is %v, and %d of it wait", first, i, one, wait[i])
		}
	}
}

// ticked lets a road and what is asked of it tick, no more often than so, or till all came and two ticks more, and holds
// them against each other at each tick.
func ticked(t *testing.T, list []api.Source, pool api.Pool, most int) {
	t.Helper()
	r, a := made(t, list, pool), wanted(list, pool)
	stands(t, r, list, pool, nil, "at first")
	behind := 0
	for tick := range most {
		if a.done() {
			behind++
		}
		want := a.tick()
		if got := r.Tick(); got != want {
			t.Fatalf("of %v, %v: at tick %d got %v, want %v", list, pool, tick, got, want)
		}
		stands(t, r, a.sources, a.pool, a.waits, list, pool, tick)
		kept(t, r, list)
		if behind == 2 {
			return
		}
		if behind == 0 && want.Went == 0 {
			t.Fatalf("of %v, %v: at tick %d nothing came", list, pool, tick)
		}
	}
}

func TestBoundsAreTheDocuments(t *testing.T) {
	if api.MaxFlows != maxFlows || api.MaxCap != maxCap || api.MaxRate != maxRate {
		t.Error("a bound of package api is not the document's")
	}
}

// faulty: sources of which no road is made, and why.
var faulty = []struct {
	of api.Source
	no api.Errno
}{
	{api.Source{}, api.ErrRange},
	{fresh(0, 3), api.ErrRange},
	{fresh(-1, 3), api.ErrRange},
	{fresh(maxCap+1, 3), api.ErrRange},
	{fresh(math.MinInt, 3), api.ErrRange},
	{fresh(math.MaxInt, 3), api.ErrRange},
	{fresh(5, -1), api.ErrRange},
	{fresh(5, maxRate+1), api.ErrRange},
	{fresh(5, math.MinInt), api.ErrRange},
	{fresh(5, math.MaxInt), api.ErrRange},
	{s(5, -1, 3, 0), api.ErrRange},
	{s(5, maxRate+1, 3, 0), api.ErrRange},
	{s(5, math.MinInt, 3, 0), api.ErrRange},
	{s(5, math.MaxInt, 3, 0), api.ErrRange},
	{s(5, 0, 3, -1), api.ErrRange},
	{s(5, 0, 3, maxRate+1), api.ErrRange},
	{s(5, 0, 3, math.MinInt), api.ErrRange},
	{s(5, 0, 3, math.MaxInt), api.ErrRange},

	// Chapter 13's Check is told ahead of what is under way, or came.
	{s(0, 1, 3, 0), api.ErrRange},
	{s(maxCap+1, 0, 3, 1), api.ErrRange},
	{s(5, 1, -1, 0), api.ErrRange},
	{s(5, 0, maxRate+1, 1), api.ErrRange},
	{s(5, 1, 3, -1), api.ErrRange},
	{s(5, -1, 3, 1), api.ErrRange},
	{s(5, 1, 3, maxRate+1), api.ErrRange},
	{s(5, maxRate+1, 3, 1), api.ErrRange},

	{s(5, 1, 3, 0), api.ErrShape},
	{s(5, 5, 3, 0), api.ErrShape},
	{s(5, maxRate, 3, 0), api.ErrShape},
	{s(5, 0, 3, 1), api.ErrShape},
	{s(5, 0, 3, maxRate), api.ErrShape},
	{s(5, 1, 3, 1), api.ErrShape},
	{s(1, 1, 0, 0), api.ErrShape},
	{s(1, 0, 0, 1), api.ErrShape},
	{s(maxCap, maxRate, maxRate, maxRate), api.ErrShape},
}

// faultyPools: pools of which no road is made, and why.
var faultyPools = []struct {
	of api.Pool
	no api.Errno
}{
	{api.Pool{}, api.ErrRange},
	{p(-1, 3, 0), api.ErrRange},
	{p(maxRate+1, 3, 0), api.ErrRange},
	{p(math.MinInt, 3, 0), api.ErrRange},
	{p(math.MaxInt, 3, 0), api.ErrRange},
	{p(5, 0, 0), api.ErrRange},
	{p(5, -1, 0), api.ErrRange},
	{p(5, maxCap+1, 0), api.ErrRange},
	{p(5, math.MinInt, 0), api.ErrRange},
	{p(5, math.MaxInt, 0), api.ErrRange},
	{p(5, 3, -1), api.ErrRange},
	{p(5, 3, 6), api.ErrRange},
	{p(0, 3, 1), api.ErrRange},
	{p(5, 3, math.MinInt), api.ErrRange},
	{p(5, 3, math.MaxInt), api.ErrRange},

	// Chapter 11's Check is told ahead of what waits.
	{p(5, 0, 1), api.ErrRange},
	{p(maxRate+1, 3, 1), api.ErrRange},

	{p(5, 3, 1), api.ErrShape},
	{p(5, 3, 5), api.ErrShape},
	{p(1, 1, 1), api.ErrShape},
	{p(maxRate, maxCap, 1), api.ErrShape},
	{p(maxRate, maxCap, maxRate), api.ErrShape},
}

// edgePools: pools that may be, at the edges of Room and Cap.
var edgePools = []api.Pool{
	p(0, 1, 0), p(0, maxCap, 0), p(1, 1, 0), p(5, 3, 0), p(maxRate, 1, 0), p(maxRate, maxCap, 0), p(maxRate-1, maxCap-1, 0),
}

// edgeSources: sources that may be, at the edges of Window and Left.
var edgeSources = of(
	fresh(1, 0), fresh(1, 1), fresh(1, maxRate), fresh(5, 3), fresh(maxCap, 0), fresh(maxCap, maxRate),
	fresh(maxCap-1, maxRate-1),
)

// TestNew: a road of what is right stands as it was handed in, and none waits.
func TestNew(t *testing.T) {
	for _, pool := range edgePools {
		for many := 1; many <= maxFlows; many++ {
			for _, one := range edgeSources {
				list := alike(one, many)
				stands(t, made(t, list, pool), list, pool, nil, "alike")
			}
			list := edgeSources[:many]
			stands(t, made(t, list, pool), list, pool, nil, "others")
		}
	}
}

// TestNoSource is told ahead of what is wrong with the pool.
func TestNoSource(t *testing.T) {
	for _, list := range [][]api.Source{nil, {}, make([]api.Source, 0, 9), of(fresh(5, 3))[:0]} {
		for _, pool := range edgePools {
			unmade(t, list, pool, api.ErrNone)
		}
		for _, c := range faultyPools {
			unmade(t, list, c.of, api.ErrNone)
		}
	}
}

// TestTooManySources is told ahead of what is wrong with one of them, wherever that lies, and with the pool.
func TestTooManySources(t *testing.T) {
	for many := maxFlows + 1; many <= maxFlows+3; many++ {
		list := alike(fresh(5, 3), many)
		unmade(t, list, p(5, 3, 0), api.ErrFull, many)
		for _, c := range faultyPools {
			unmade(t, list, c.of, api.ErrFull, many)
		}
		for at := range many {
			for _, c := range faulty {
				one := slices.Clone(list)
				one[at] = c.of
				unmade(t, one, p(5, 3, 0), api.ErrFull, many, at)
				unmade(t, one, p(5, 3, 1), api.ErrFull, many, at)
				unmade(t, one, p(5, 0, 0), api.ErrFull, many, at)
			}
		}
	}
	unmade(t, alike(fresh(5, 3), 100_000), p(5, 3, 0), api.ErrFull, "far too many")
	unmade(t, alike(api.Source{}, 100_000), p(5, 3, 0), api.ErrFull, "far too many that may not be")
}

// TestFaultySources: what is wrong with one is told wherever it lies, and ahead of what is wrong with the pool.
func TestFaultySources(t *testing.T) {
	for _, c := range faulty {
		for many := 1; many <= maxFlows; many++ {
			for at := range many {
				list := alike(fresh(5, 3), many)
				list[at] = c.of
				for _, pool := range edgePools {
					unmade(t, list, pool, c.no, many, at)
				}
				for _, d := range faultyPools {
					unmade(t, list, d.of, c.no, many, at)
				}
			}
		}
	}
}

// TestTheFirstFaultySource: of several what is wrong with the first is told, whatever is wrong with those behind it.
func TestTheFirstFaultySource(t *testing.T) {
	for _, c := range faulty {
		for _, d := range faulty {
			for first := range maxFlows {
				for second := first + 1; second < maxFlows; second++ {
					list := alike(fresh(5, 3), maxFlows)
					list[first], list[second] = c.of, d.of
					unmade(t, list, p(5, 3, 0), c.no, first, second)
					unmade(t, list, p(5, 0, 0), c.no, first, second)
					unmade(t, list, p(5, 3, 1), c.no, first, second)
				}
			}
			unmade(t, slices.Concat(of(c.of), alike(d.of, maxFlows-1)), p(5, 3, 0), c.no)
			unmade(t, slices.Concat(alike(c.of, maxFlows-1), of(d.of)), p(5, 3, 0), c.no)
		}
	}
}

func TestFaultyPools(t *testing.T) {
	for _, c := range faultyPools {
		for many := 1; many <= maxFlows; many++ {
			for _, one := range edgeSources {
				unmade(t, alike(one, many), c.of, c.no, many)
			}
		}
	}
}

// TestErrorsAreNumbers: an error can be asked by errors.Is and is never OK, and none is a plain nil.
func TestErrorsAreNumbers(t *testing.T) {
	for _, c := range []struct {
		list []api.Source
		pool api.Pool
		want api.Errno
	}{
		{nil, p(5, 3, 0), api.ErrNone},
		{alike(fresh(5, 3), maxFlows+1), p(5, 3, 0), api.ErrFull},
		{of(fresh(0, 3)), p(5, 3, 0), api.ErrRange},
		{of(s(5, 1, 3, 0)), p(5, 3, 0), api.ErrShape},
		{of(fresh(5, 3)), p(5, 0, 0), api.ErrRange},
		{of(fresh(5, 3)), p(5, 3, 1), api.ErrShape},
	} {
		if _, err := road.New(c.list, c.pool); !errors.Is(err, c.want) || errors.Is(err, api.OK) {
			t.Errorf("got %v, want %v", err, c.want)
		}
	}
	r := made(t, of(fresh(5, 3)), p(5, 3, 0))
	if _, err := r.Source(1); !errors.Is(err, api.ErrRange) || errors.Is(err, api.OK) {
		t.Errorf("got %v, want ErrRange", err)
	}
	if _, err := r.Source(0); err != nil {
		t.Errorf("got %v, want nil", err)
	}
}

// TestSourceIsChecked: of a number that is none's there is an error, and a source of 0 alone.
func TestSourceIsChecked(t *testing.T) {
	for many := 1; many <= maxFlows; many++ {
		r := made(t, alike(fresh(5, 3), many), p(2, 1, 0))
		for tick := range 4 {
			for _, i := range l(-1, -2, -many, many, many+1, maxFlows, maxFlows+1, 1<<32, -1<<32, math.MinInt, math.MaxInt) {
				if i >= 0 && i < many {
					continue
				}
				if one, err := r.Source(i); one != (api.Source{}) || plain.Told(err) != api.ErrRange {
					t.Errorf("of %d, at %d: got %v, %v, want ErrRange", i, tick, one, err)
				}
			}
			r.Tick()
		}
	}
}

// after is how a road stands behind a tick.
type after struct {
	gone    api.Gone
	waits   []int
	sources []api.Source
}

// traces: roads, and how they stand behind one tick after the other.
var traces = []struct {
	name string
	of   []api.Source
	pool api.Pool
	then []after
}{
	{"one behind the other", of(fresh(2, 2), fresh(3, 3)), p(10, 1, 0), []after{
		{g(1, 0, 4), l(0, 1, 1, 1), of(s(3, 1, 0, 1), s(3, 3, 0, 0))},
		{g(1, 0, 3), l(1, 1, 1), of(s(4, 0, 0, 2), s(3, 3, 0, 0))},
		{g(1, 0, 2), l(1, 1), of(s(4, 0, 0, 2), s(4, 2, 0, 1))},
	}},
	{"those that are sent wait behind those that waited", of(fresh(2, 5), fresh(2, 2)), p(9, 1, 0), []after{
		{g(1, 0, 3), l(0, 1, 1), of(s(3, 1, 3, 1), s(2, 2, 0, 0))},
		{g(1, 0, 4), l(1, 1, 0, 0), of(s(4, 2, 1, 2), s(2, 2, 0, 0))},
		{g(1, 0, 4), l(1, 0, 0, 0), of(s(4, 3, 0, 2), s(3, 1, 0, 1))},
		{g(1, 0, 3), l(0, 0, 0), of(s(4, 3, 0, 2), s(4, 0, 0, 2))},
	}},
	{"each is lost to its own", of(fresh(3, 3), fresh(4, 4)), p(2, 2, 0), []after{
		{g(2, 3, 2), l(0, 1), of(s(5, 1, 0, 2), s(1, 1, 3, 0))},
		{g(2, 0, 0), nil, of(s(4, 0, 0, 3), s(1, 0, 3, 1))},
		{g(1, 0, 0), nil, of(s(4, 0, 0, 3), s(2, 0, 2, 2))},
		{g(2, 0, 0), nil, of(s(4, 0, 0, 3), s(4, 0, 0, 4))},
		{g(0, 0, 0), nil, of(s(4, 0, 0, 3), s(4, 0, 0, 4))},
	}},
	{"answers, faster, come ahead of losses", of(fresh(6, 6)), p(1, 2, 0), []after{
		{g(2, 3, 1), l(0), of(s(1, 1, 3, 2))},
		{g(1, 0, 0), nil, of(s(1, 0, 3, 3))},
		{g(1, 0, 0), nil, of(s(2, 0, 2, 4))},
	}},
	{"answers, not faster, come ahead of losses; then more are under way than may be", of(fresh(6, 100)), p(5, 1, 0), []after{
		{g(1, 0, 5), l(0, 0, 0, 0, 0), of(s(7, 5, 94, 1))},
		{g(1, 1, 5), l(0, 0, 0, 0, 0), of(s(3, 5, 93, 2))},
		{g(1, 0, 4), l(0, 0, 0, 0), of(s(2, 4, 93, 3))},
	}},
	{"much is sent, and waits then, but none waited", of(fresh(7, 7), fresh(7, 7)), p(4, 10, 0), []after{
		{g(10, 0, 4), l(1, 1, 1, 1), of(s(14, 0, 0, 7), s(10, 4, 0, 3))},
		{g(4, 0, 0), nil, of(s(14, 0, 0, 7), s(6, 0, 0, 7))},
	}},
	{"just the half waited, and more waits then", of(fresh(4, 20)), p(4, 2, 0), []after{
		{g(2, 0, 2), l(0, 0), of(s(6, 2, 16, 2))},
		{g(2, 0, 4), l(0, 0, 0, 0), of(s(8, 4, 12, 4))},
		{g(2, 2, 4), l(0, 0, 0, 0), of(s(1, 4, 10, 6))},
		{g(2, 0, 2), l(0, 0), of(s(1, 2, 10, 8))},
	}},
	{"no room", of(fresh(4, 6)), p(0, 2, 0), []after{
		{g(2, 2, 0), nil, of(s(1, 0, 4, 2))},
		{g(1, 0, 0), nil, of(s(2, 0, 3, 3))},
		{g(2, 0, 0), nil, of(s(4, 0, 1, 5))},
		{g(1, 0, 0), nil, of(s(5, 0, 0, 6))},
		{g(0, 0, 0), nil, of(s(5, 0, 0, 6))},
	}},
	{"room for one, which is more than its half", of(fresh(2, 6)), p(1, 1, 0), []after{
		{g(1, 0, 1), l(0), of(s(3, 1, 4, 1))},
		{g(1, 1, 1), l(0), of(s(1, 1, 3, 2))},
		{g(1, 0, 0), nil, of(s(1, 0, 3, 3))},
		{g(1, 0, 0), nil, of(s(2, 0, 2, 4))},
	}},
	{"nothing is left to send, and some wait yet", of(fresh(8, 9)), p(7, 1, 0), []after{
		{g(1, 0, 7), l(0, 0, 0, 0, 0, 0, 0), of(s(9, 7, 1, 1))},
		{g(1, 0, 7), l(0, 0, 0, 0, 0, 0, 0), of(s(8, 7, 0, 2))},
		{g(1, 0, 6), l(0, 0, 0, 0, 0, 0), of(s(7, 6, 0, 3))},
	}},
	{"nothing to send", of(fresh(5, 0), fresh(1, 0)), p(3, 2, 0), []after{
		{g(0, 0, 0), nil, of(fresh(5, 0), fresh(1, 0))},
		{g(0, 0, 0), nil, of(fresh(5, 0), fresh(1, 0))},
	}},
	{"one has nothing to send", of(fresh(5, 0), fresh(2, 3), fresh(4, 0)), p(3, 1, 0), []after{
		{g(1, 0, 1), l(1), of(fresh(5, 0), s(3, 1, 1, 1), fresh(4, 0))},
		{g(1, 0, 1), l(1), of(fresh(5, 0), s(4, 1, 0, 2), fresh(4, 0))},
		{g(1, 0, 0), nil, of(fresh(5, 0), s(5, 0, 0, 3), fresh(4, 0))},
	}},
	{"the least", of(fresh(1, 1)), p(0, 1, 0), []after{
		{g(1, 0, 0), nil, of(s(2, 0, 0, 1))},
		{g(0, 0, 0), nil, of(s(2, 0, 0, 1))},
	}},
	{"the greatest window stays", of(fresh(maxCap, maxRate)), p(maxRate, maxCap, 0), []after{
		{g(1_000, 0, 0), nil, of(s(maxCap, 0, 9_000, 1_000))},
		{g(1_000, 0, 0), nil, of(s(maxCap, 0, 8_000, 2_000))},
	}},
	{"MaxFlows, no room, and all but one lost", alike(fresh(maxCap, maxRate), maxFlows), p(0, 1, 0), []after{
		{g(1, 5_999, 0), nil, slices.Concat(of(s(1, 0, 9_999, 1)), alike(fresh(1, maxRate), 5))},
		{g(1, 5, 0), nil, slices.Concat(of(s(2, 0, 9_998, 2)), alike(fresh(1, maxRate), 5))},
		{g(1, 6, 0), nil, slices.Concat(of(s(1, 0, 9_997, 3)), alike(fresh(1, maxRate), 5))},
	}},
}

func TestTraces(t *testing.T) {
	for _, c := range traces {
		r := made(t, c.of, c.pool)
		for tick, want := range c.then {
			if got := r.Tick(); got != want.gone {
				t.Fatalf("%s: at tick %d got %v, want %v", c.name, tick, got, want.gone)
			}
			stands(t, r, want.sources, p(c.pool.Room, c.pool.Cap, want.gone.Wait), want.waits, c.name, tick)
		}
		ticked(t, c.of, c.pool, 100)
	}
}

// TestHalfOfRoom: of each room and each number that waited ahead of the tick, answers are faster up to the half of room,
// rounded down, and not above it. What waits then, and what goes, is told by Cap, and has no part in it.
func TestHalfOfRoom(t *testing.T) {
	for room := range 24 {
		for waited := range room + 1 {
			for _, limit := range l(1, 2, 7, 24) {
				one := fresh(waited+limit, waited+limit)
				r := made(t, of(one), p(room, limit, 0))
				r.Tick()
				if got := r.Pool().Wait; got != waited {
					t.Fatalf("%d wait, not %d", got, waited)
				}
				window, goes := one.Window+limit, min(waited, limit)
				if waited <= room/2 {
					window += goes
				} else {
					window -= goes
				}
				r.Tick()
				want := s(window, waited-goes, 0, limit+goes)
				if got, err := r.Source(0); got != want || err != nil {
					t.Errorf("room %d, %d waited, %d go: got %v, %v, want %v", room, waited, limit, got, err, want)
				}
			}
		}
	}
}

// TestHalfOfGreatRooms: just the half, and one more, where room is as great as may be, even and odd.
func TestHalfOfGreatRooms(t *testing.T) {
	for _, c := range []struct{ room, window int }{{maxRate, maxCap}, {maxRate - 1, 1}, {maxRate - 2, 1}} {
		r := made(t, alike(fresh(maxCap, maxRate), maxFlows), p(c.room, maxCap, 0))
		for range 2 {
			if gone := r.Tick(); gone != g(1_000, 0, 5_000) {
				t.Fatal(c.room, gone)
			}
		}
		if one, err := r.Source(1); one != s(c.window, 0, 9_000, 1_000) || err != nil {
			t.Errorf("room %d: got %v, %v, want window %d", c.room, one, err, c.window)
		}
	}
}

// TestAllAtOnce: of MaxFlows sources of the greatest windows the sent ones wait in their order, as many as there is room.
func TestAllAtOnce(t *testing.T) {
	r := made(t, alike(fresh(maxCap, maxRate), maxFlows), p(2_500, maxCap, 0))
	if gone := r.Tick(); gone != g(1_000, 2_500, 2_500) {
		t.Fatal(gone)
	}
	waits := slices.Concat(alike(1, 1_000), alike(2, 1_000), alike(3, 500))
	stands(t, r, of(
		s(maxCap, 0, 9_000, 1_000), s(maxCap, 1_000, 9_000, 0), s(maxCap, 1_000, 9_000, 0), s(1, 500, 9_500, 0),
		fresh(1, maxRate), fresh(1, maxRate),
	), p(2_500, maxCap, 2_500), waits)
}

// everySources hands on all lists of so many sources, of these windows and lefts.
func everySources(many int, windows, lefts []int, to func([]api.Source)) {
	if many == 0 {
		to(nil)
		return
	}
	everySources(many-1, windows, lefts, func(list []api.Source) {
		for _, window := range windows {
			for _, left := range lefts {
				to(append(slices.Clone(list), fresh(window, left)))
			}
		}
	})
}

// TestSmallRoads: all of one small source, and many of two and three, till all came.
func TestSmallRoads(t *testing.T) {
	upTo := func(n int) []int {
		out := make([]int, n)
		for i := range out {
			out[i] = i + 1
		}
		return out
	}
	for room := range 8 {
		for limit := 1; limit < 6; limit++ {
			try := func(list []api.Source) { ticked(t, list, p(room, limit, 0), 1_000) }
			everySources(1, upTo(12), append(l(0), upTo(20)...), try)
			everySources(2, l(1, 2, 5), l(0, 1, 4, 9), try)
			everySources(3, l(1, 4), l(2, 7), try)
		}
	}
}

// some gives so many numbers below a bound, others for each seed, always the same.
func some(seed, many, bound int) []int {
	out := make([]int, many)
	for i := range out {
		seed = (seed*1_103_515_245 + 12_345) % (1 << 31)
		out[i] = (seed >> 8) % bound
	}
	return out
}

// TestManyRoads: of each number of sources, of others for each seed, till all came.
func TestManyRoads(t *testing.T) {
	for many := 1; many <= maxFlows; many++ {
		for seed := range 120 {
			numbers := some(1_000*many+seed, 2*many+2, 40)
			list := make([]api.Source, many)
			for i := range list {
				list[i] = fresh(1+numbers[2*i], 5*numbers[2*i+1])
			}
			ticked(t, list, p(numbers[2*many], 1+numbers[2*many+1]/3, 0), 100_000)
		}
	}
}

// TestGreatRoads: sources and pools at their edges, for some ticks.
func TestGreatRoads(t *testing.T) {
	for _, pool := range slices.Concat(edgePools, []api.Pool{p(6_000, 7, 0), p(maxRate, 500, 0), p(4_999, 333, 0)}) {
		for _, one := range edgeSources {
			ticked(t, of(one), pool, 40)
			ticked(t, alike(one, maxFlows), pool, 40)
		}
		ticked(t, edgeSources[:maxFlows], pool, 40)
		ticked(t, edgeSources[len(edgeSources)-maxFlows:], pool, 40)
	}
}

// TestTillAllCame: the greatest there may be come to their end, and nothing is lost for good.
func TestTillAllCame(t *testing.T) {
	most := alike(fresh(maxCap, maxRate), maxFlows)
	for _, c := range []struct {
		of   []api.Source
		pool api.Pool
	}{
		{most, p(maxRate, maxCap, 0)},
		{most, p(maxRate-1, maxCap, 0)},
		{most, p(0, maxCap, 0)},
		{most, p(maxRate, 100, 0)},
		{most, p(50, 40, 0)},
		{alike(fresh(1, maxRate), maxFlows), p(20, 10, 0)},
		{of(fresh(maxCap, maxRate)), p(0, 1, 0)},
		{of(fresh(1, maxRate)), p(1, 1, 0)},
		{alike(fresh(1, maxRate), maxFlows), p(0, 1, 0)},
	} {
		ticks := 0
		r := made(t, c.of, c.pool)
		for went := 0; went < len(c.of)*maxRate; ticks++ {
			gone := r.Tick()
			if gone.Went < 1 || ticks > len(c.of)*maxRate {
				t.Fatalf("of %v, %v: at tick %d %v", c.of, c.pool, ticks, gone)
			}
			went += gone.Went
		}
		for i := range c.of {
			if one, err := r.Source(i); one != s(one.Window, 0, 0, maxRate) || err != nil {
				t.Errorf("of %v, %v: %d is %v, %v at last", c.of, c.pool, i, one, err)
			}
		}
		ticked(t, c.of, c.pool, min(ticks+5, 2_000))
	}
}

// TestAllCame: ticks behind the one at which all came change nothing.
func TestAllCame(t *testing.T) {
	list, pool := of(fresh(3, 20), fresh(9, 4), fresh(1, 0)), p(4, 2, 0)
	r := made(t, list, pool)
	for range 100 {
		r.Tick()
	}
	last := sourcesOf(t, r, len(list))
	for i, one := range last {
		if one != s(one.Window, 0, 0, list[i].Left) {
			t.Fatalf("%d is %v", i, one)
		}
	}
	for range 100 {
		if gone := r.Tick(); gone != g(0, 0, 0) {
			t.Fatalf("got %v, want nothing", gone)
		}
		stands(t, r, last, pool, nil)
	}
}

// TestListIsNotWrittenInto: it stays as it was, behind its length, too, whatever lies there, also many ticks on.
func TestListIsNotWrittenInto(t *testing.T) {
	for _, c := range traces {
		for _, hidden := range of(api.Source{}, fresh(5, 3), s(5, 1, 3, 1), fresh(math.MinInt, math.MaxInt)) {
			list := roomy(c.of, hidden)
			was := slices.Clone(list[:cap(list)])
			ticked(t, list, c.pool, 20)
			if !slices.Equal(list[:cap(list)], was) {
				t.Errorf("%s: the list was %v, and is %v", c.name, was, list[:cap(list)])
			}
		}
	}
	for _, c := range faulty {
		unmade(t, roomy(of(fresh(5, 3), c.of), fresh(5, 3)), p(5, 3, 0), c.no)
	}
	unmade(t, roomy(nil, fresh(5, 3)), p(5, 3, 0), api.ErrNone)
	unmade(t, roomy(alike(fresh(5, 3), maxFlows+1), fresh(5, 3)), p(5, 3, 0), api.ErrFull)
}

// TestListIsNotKept: what is written into it behind New, and at any tick, changes nothing of the road.
func TestListIsNotKept(t *testing.T) {
	for _, c := range traces {
		list := roomy(c.of, fresh(5, 3))
		r, a := made(t, list, c.pool), wanted(c.of, c.pool)
		for tick := range 20 {
			for i := range list[:cap(list)] {
				list[:cap(list)][i] = s(tick, -8, 77, 1)
			}
			stands(t, r, a.sources, a.pool, a.waits, c.name, tick)
			if got, want := r.Tick(), a.tick(); got != want {
				t.Fatalf("%s: at tick %d got %v, want %v", c.name, tick, got, want)
			}
		}
	}
}

// TestWaitsAreFresh: what is written into them, up to their capacity, is seen neither in the road nor in others, which
// also stay as they are when the road ticks on.
func TestWaitsAreFresh(t *testing.T) {
	for _, c := range traces {
		r, a := made(t, c.of, c.pool), wanted(c.of, c.pool)
		var gave, want [][]int
		for tick := range 20 {
			other, written := r.Waits(), r.Waits()
			for i := range written[:cap(written)] {
				written[:cap(written)][i] = -8
			}
			stands(t, r, a.sources, a.pool, a.waits, c.name, tick)
			gave, want = append(gave, other), append(want, slices.Clone(a.waits))
			if r.Tick() != a.tick() {
				t.Fatalf("%s: at tick %d it went another way", c.name, tick)
			}
		}
		for i := range gave {
			if !slices.Equal(gave[i], want[i]) {
				t.Errorf("%s: what waited at %d was %v, and is %v", c.name, i, want[i], gave[i])
			}
		}
	}
}

// TestRoadsAreApart: two of one list have nothing to do with one another, however far one is ahead.
func TestRoadsAreApart(t *testing.T) {
	for _, c := range traces {
		first, second, a := made(t, c.of, c.pool), made(t, c.of, c.pool), wanted(c.of, c.pool)
		for range 3 {
			first.Tick()
		}
		for tick := range 20 {
			stands(t, second, a.sources, a.pool, a.waits, c.name, tick)
			first.Tick()
			if got, want := second.Tick(), a.tick(); got != want {
				t.Fatalf("%s: at tick %d got %v, want %v", c.name, tick, got, want)
			}
			first.Tick()
		}
	}
}

// TestAskingChangesNothing: a road that is asked again and again goes as one that is never asked, also by what is wrong.
func TestAskingChangesNothing(t *testing.T) {
	for _, c := range traces {
		still, r := made(t, c.of, c.pool), made(t, c.of, c.pool)
		for tick := range 20 {
			for range 3 {
				for _, i := range l(-1, 0, len(c.of)-1, len(c.of), math.MinInt, math.MaxInt) {
					r.Source(i)
				}
				r.Pool()
				r.Waits()
			}
			if got, want := r.Tick(), still.Tick(); got != want {
				t.Fatalf("%s: at tick %d got %v, want %v", c.name, tick, got, want)
			}
		}
		stands(t, r, sourcesOf(t, still, len(c.of)), still.Pool(), still.Waits(), c.name)
	}
}
