package log_test

import (
	"errors"
	"math"
	"slices"
	"testing"

	"fairsluice/api"
	"fairsluice/fill"
	"fairsluice/log"
	"fairsluice/plain"
)

const (
	maxLinks = 6
	maxFlows = 6
	maxCap   = 1_000
)

func l(list ...int) []int { return list }

func ls(lists ...[]int) [][]int { return lists }

func f(top, bottom int) api.Frac { return api.Frac{Top: top, Bottom: bottom} }

// some: links of which each may be told from the others.
func some() []int { return l(12, 6, 4) }

// paths: flows over these, of one link, two and three, no two alike, as many as may be.
var paths = ls(l(0), l(1, 0), l(2, 1, 0), l(1), l(2, 0), l(2))

// beyond: numbers that are no link and no flow.
var beyond = l(math.MinInt, math.MinInt+1, -1<<32, -1<<8, -1, maxFlows, 1<<8, 1<<8+1, 1<<32, math.MaxInt-1, math.MaxInt)

// wrong tells if an error is another than is wanted; OK is a plain nil.
func wrong(err error, no api.Errno) bool {
	return plain.Told(err) != no || no == api.OK && err != nil
}

func told(t *testing.T, err error, no api.Errno, name ...any) {
	t.Helper()
	if wrong(err, no) {
		t.Errorf("%v: got %v, want %v", name, err, no)
	}
}

func made(t *testing.T, caps []int) *log.Log {
	t.Helper()
	j, err := log.New(caps)
	if err != nil || j == nil {
		t.Fatalf("New of %v: got %v, %v", caps, j, err)
	}
	return j
}

// with gives a Log that has these flows, none of them safe.
func with(t *testing.T, flows ...[]int) *log.Log {
	t.Helper()
	j := made(t, some())
	added(t, j, flows...)
	return j
}

func added(t *testing.T, j *log.Log, flows ...[]int) {
	t.Helper()
	for _, path := range flows {
		told(t, j.Add(path), api.OK, "Add", path)
	}
}

func same(a, b [][]int) bool { return slices.EqualFunc(a, b, slices.Equal[[]int]) }

// stands checks all that a Log tells of itself. Its rates are those of chapter 4.
func stands(t *testing.T, j *log.Log, caps []int, flows [][]int, bytes, safe int, name ...any) {
	t.Helper()
	if got := j.Paths(); !same(got, flows) {
		t.Errorf("%v: got paths %v, want %v", name, got, flows)
	}
	if j.Bytes() != bytes || j.Safe() != safe {
		t.Errorf("%v: got %d bytes, %d safe; want %d, %d", name, j.Bytes(), j.Safe(), bytes, safe)
	}
	want, err := fill.Rates(api.Net{Caps: caps, Paths: flows})
	got, bad := j.Rates()
	if !slices.Equal(got, want) || wrong(bad, plain.Told(err)) || err != nil && got != nil {
		t.Errorf("%v: got rates %v, %v; want %v, %v", name, got, bad, want, err)
	}
}

func TestBoundsAreTheDocuments(t *testing.T) {
	if api.MaxLinks != maxLinks || api.MaxFlows != maxFlows || api.MaxCap != maxCap {
		t.Error("a bound of package api is not the document's")
	}
}

func TestNew(t *testing.T) {
	for _, caps := range ls(l(1), l(maxCap), l(5, 4), l(1, maxCap, 1), l(1, 2, 3, 4, 5, maxCap)) {
		j := made(t, caps)
		stands(t, j, caps, nil, 0, 0, "New", caps)
		if rates, err := j.Rates(); len(rates) != 0 || wrong(err, api.ErrNone) {
			t.Errorf("of no flow: got rates %v, %v; want ErrNone", rates, err)
		}
		told(t, j.Drop(0), api.ErrRange, "there is no flow yet")
		added(t, j, l(len(caps)-1))
		told(t, j.Add(l(len(caps))), api.ErrRange, "there is no such link")
	}
}

func TestNewOfWrongLinks(t *testing.T) {
	for _, c := range []struct {
		name string
		caps []int
		want api.Errno
	}{
		{"nil", nil, api.ErrNone},
		{"an empty list", []int{}, api.ErrNone},
		{"too many", l(1, 1, 1, 1, 1, 1, 1), api.ErrFull},
		{"far too many", slices.Repeat(l(1), 100_000), api.ErrFull},
		{"too many, the first takes too much", l(maxCap+1, 1, 1, 1, 1, 1, 1), api.ErrFull},
		{"too many, the last takes nothing", l(1, 1, 1, 1, 1, 1, 0), api.ErrFull},
	} {
		j, err := log.New(c.caps)
		if j != nil || wrong(err, c.want) {
			t.Errorf("%s: got %v, %v; want nil, %v", c.name, j, err, c.want)
		}
	}
	for _, takes := range l(0, -1, maxCap+1, math.MinInt, math.MaxInt) {
		for _, caps := range ls(l(takes), l(takes, 1, 1), l(1, takes, 1), l(1, 1, takes), l(takes, takes), l(1, 1, 1, 1, 1, takes)) {
			j, err := log.New(caps)
			if j != nil || wrong(err, api.ErrRange) {
				t.Errorf("of %v: got %v, %v; want nil, ErrRange", caps, j, err)
			}
		}
	}
}

// TestAdd: each flow is the last one, has at least two bytes, and none of them is safe.
func TestAdd(t *testing.T) {
	j := made(t, some())
	for many, path := range paths {
		had := j.Bytes()
		told(t, j.Add(path), api.OK, "Add", path)
		if j.Bytes() < had+2 {
			t.Errorf("Add of %v made %d bytes of %d", path, j.Bytes(), had)
		}
		stands(t, j, some(), paths[:many+1], j.Bytes(), 0, "Add", path)
	}
}

func TestAddOfTheLongestPath(t *testing.T) {
	caps := l(6, 5, 4, 3, 2, 1)
	j := made(t, caps)
	for many := range maxFlows {
		added(t, j, l(5, 0, 4, 1, 3, 2))
		stands(t, j, caps, slices.Repeat(ls(l(5, 0, 4, 1, 3, 2)), many+1), j.Bytes(), 0, many)
	}
	j.Crash(math.MaxInt)
	stands(t, j, caps, slices.Repeat(ls(l(5, 0, 4, 1, 3, 2)), maxFlows), j.Bytes(), j.Bytes(), "crashed")
}

// wrongPaths: paths over three links that Add refuses, and by which error. Those with several faults have the one
// ahead that is told.
var wrongPaths = []struct {
	name string
	path []int
	want api.Errno
}{
	{"over none: nil", nil, api.ErrNone},
	{"over none: empty", []int{}, api.ErrNone},
	{"over the link behind the last", l(3), api.ErrRange},
	{"over link -1", l(-1), api.ErrRange},
	{"over the least int", l(math.MinInt), api.ErrRange},
	{"over the greatest int", l(math.MaxInt), api.ErrRange},
	{"over 256, a byte's 0", l(256), api.ErrRange},
	{"a later link is none such", l(2, 0, 3), api.ErrRange},
	{"a later link is the least int", l(1, math.MinInt), api.ErrRange},
	{"a later link is the greatest int", l(2, 0, math.MaxInt), api.ErrRange},
	{"twice over none such", l(3, 3), api.ErrRange},
	{"none such, then twice over one", l(0, -1, 0), api.ErrRange},
	{"twice over one", l(0, 0), api.ErrClash},
	{"twice over one, others between", l(2, 0, 1, 2), api.ErrClash},
	{"twice over one, then none such", l(0, 0, 3), api.ErrClash},
	{"a path far too long", slices.Repeat(l(0, 1, 2), 100_000), api.ErrClash},
}

// TestWrongCallsChangeNothing: nor are they steps, so that a Log told to stop at its next one does not.
func TestWrongCallsChangeNothing(t *testing.T) {
	for many := range maxFlows {
		j := with(t, paths[:many]...)
		told(t, j.Sync(), api.OK, "Sync")
		safe := j.Safe()
		added(t, j, paths[many])
		flows, bytes := paths[:many+1], j.Bytes()
		j.Fail(0)
		for _, c := range wrongPaths {
			want := c.want
			if len(flows) == maxFlows {
				want = api.ErrFull
			}
			told(t, j.Add(c.path), want, "Add", c.name, "to", many+1)
			stands(t, j, some(), flows, bytes, safe, "Add", c.name)
		}
		for _, flow := range append(l(many+1), beyond...) {
			told(t, j.Drop(flow), api.ErrRange, "Drop", flow, "of", many+1)
			stands(t, j, some(), flows, bytes, safe, "Drop", flow)
		}
		told(t, j.Drop(0), api.ErrState, "the step")
	}
}

func TestAddToAsManyAsMayBe(t *testing.T) {
	j := with(t, paths...)
	bytes := j.Bytes()
	for _, path := range paths {
		told(t, j.Add(path), api.ErrFull, "a right path", path)
	}
	stands(t, j, some(), paths, bytes, 0, "refused")
	told(t, j.Drop(2), api.OK, "Drop")
	added(t, j, l(0, 1))
	told(t, j.Add(l(0)), api.ErrFull, "full again")
	stands(t, j, some(), append(without(paths, 2), l(0, 1)), j.Bytes(), 0, "one for another")
}

// without gives flows without one.
func without(flows [][]int, flow int) [][]int {
	return slices.Concat(flows[:flow], flows[flow+1:])
}

// TestDrop: the others stay in their order; it has at least two bytes, and none of them is safe.
func TestDrop(t *testing.T) {
	for many := 1; many <= maxFlows; many++ {
		for flow := range many {
			j := with(t, paths[:many]...)
			told(t, j.Sync(), api.OK, "Sync")
			had := j.Bytes()
			told(t, j.Drop(flow), api.OK, "Drop", flow, "of", many)
			if j.Bytes() < had+2 {
				t.Errorf("Drop of %d made %d bytes of %d", flow, j.Bytes(), had)
			}
			stands(t, j, some(), without(paths[:many], flow), j.Bytes(), had, "Drop", flow, "of", many)
		}
	}
}

// TestDropOfAll: there may be none, and then some again.
func TestDropOfAll(t *testing.T) {
	j := with(t, paths[:2]...)
	told(t, j.Drop(1), api.OK, "the last")
	told(t, j.Drop(0), api.OK, "the only one")
	stands(t, j, some(), nil, j.Bytes(), 0, "there is none")
	for _, flow := range append(l(0, 1), beyond...) {
		told(t, j.Drop(flow), api.ErrRange, "of none", flow)
	}
	added(t, j, l(2))
	stands(t, j, some(), ls(l(2)), j.Bytes(), 0, "some again")
	j.Crash(math.MaxInt)
	stands(t, j, some(), ls(l(2)), j.Bytes(), j.Bytes(), "crashed")
}

// TestRates: told by hand, so that they hang on no other package.
func TestRates(t *testing.T) {
	j := with(t, l(0, 1), l(0), l(1, 2), l(2))
	if got, err := j.Rates(); err != nil || !slices.Equal(got, []api.Frac{f(4, 1), f(8, 1), f(2, 1), f(2, 1)}) {
		t.Errorf("got %v, %v; want 4, 8, 2, 2", got, err)
	}
	told(t, j.Drop(1), api.OK, "Drop")
	told(t, j.Drop(1), api.OK, "Drop")
	added(t, j, l(0), l(0))
	if got, err := j.Rates(); err != nil || !slices.Equal(got, []api.Frac{f(4, 1), f(4, 1), f(4, 1), f(4, 1)}) {
		t.Errorf("got %v, %v; want 4 each", got, err)
	}
	j = with(t, l(2), l(2, 0), l(2, 1))
	if got, err := j.Rates(); err != nil || !slices.Equal(got, []api.Frac{f(4, 3), f(4, 3), f(4, 3)}) {
		t.Errorf("got %v, %v; want 4 by 3 each", got, err)
	}
}

func TestSync(t *testing.T) {
	j := made(t, some())
	told(t, j.Sync(), api.OK, "of nothing")
	stands(t, j, some(), nil, 0, 0, "of nothing")
	for many, path := range paths {
		safe := j.Safe()
		added(t, j, path)
		stands(t, j, some(), paths[:many+1], j.Bytes(), safe, "not safe yet", many)
		for range 2 {
			told(t, j.Sync(), api.OK, "Sync")
			stands(t, j, some(), paths[:many+1], j.Bytes(), j.Bytes(), "safe", many)
		}
	}
	safe := j.Safe()
	told(t, j.Drop(3), api.OK, "Drop")
	stands(t, j, some(), without(paths, 3), j.Bytes(), safe, "not safe yet")
	told(t, j.Sync(), api.OK, "Sync")
	stands(t, j, some(), without(paths, 3), j.Bytes(), j.Bytes(), "safe")
}

// stopped checks that nothing is taken any more, again and again, and that nothing is changed by it.
func stopped(t *testing.T, j *log.Log, flows [][]int, bytes, safe int, name ...any) {
	t.Helper()
	for range 3 {
		told(t, j.Sync(), api.ErrState, "Sync when it has stopped", name)
		for _, path := range paths {
			told(t, j.Add(path), api.ErrState, "Add when it has stopped", path, name)
		}
		for _, c := range wrongPaths {
			told(t, j.Add(c.path), api.ErrState, "Add when it has stopped", c.name, name)
		}
		for _, flow := range append(l(0, len(flows)-1, len(flows)), beyond...) {
			told(t, j.Drop(flow), api.ErrState, "Drop when it has stopped", flow, name)
		}
		stands(t, j, some(), flows, bytes, safe, name...)
	}
}

// TestFailAtAnAdd: held against a Log in which the same record is written whole.
func TestFailAtAnAdd(t *testing.T) {
	for many := range maxFlows {
		for _, path := range ls(l(2), l(1, 2), l(0, 2, 1)) {
			whole, j := with(t, paths[:many]...), with(t, paths[:many]...)
			told(t, j.Sync(), api.OK, "Sync")
			had := j.Bytes()
			added(t, whole, path)
			half := had + (whole.Bytes()-had)/2
			j.Fail(0)
			told(t, j.Add(path), api.ErrState, "the step", path)
			stands(t, j, some(), paths[:many], half, had, "half of", path)
			stopped(t, j, paths[:many], half, had, "half of", path)
		}
	}
}

func TestFailAtADrop(t *testing.T) {
	for many := 1; many <= maxFlows; many++ {
		for flow := range many {
			whole, j := with(t, paths[:many]...), with(t, paths[:many]...)
			told(t, j.Sync(), api.OK, "Sync")
			had := j.Bytes()
			told(t, whole.Drop(flow), api.OK, "Drop")
			half := had + (whole.Bytes()-had)/2
			j.Fail(0)
			told(t, j.Drop(flow), api.ErrState, "the step", flow)
			stands(t, j, some(), paths[:many], half, had, "half of", flow)
			stopped(t, j, paths[:many], half, had, "half of", flow)
		}
	}
}

// TestFailAtASync: nothing is safe by it, nor lost.
func TestFailAtASync(t *testing.T) {
	for many := range maxFlows + 1 {
		for behind := range many + 1 {
			j := with(t, paths[:behind]...)
			told(t, j.Sync(), api.OK, "Sync")
			safe := j.Bytes()
			added(t, j, paths[behind:many]...)
			bytes := j.Bytes()
			j.Fail(0)
			told(t, j.Sync(), api.ErrState, "the step")
			stands(t, j, some(), paths[:many], bytes, safe, "no Sync")
			stopped(t, j, paths[:many], bytes, safe, "no Sync")
		}
	}
}

// turns: steps that are always taken, if a Log has not stopped: an Add, a Sync and a Drop, in turn.
func turns(j *log.Log, step int) error {
	switch step % 3 {
	case 0:
		return j.Add(l(1, 0))
	case 1:
		return j.Sync()
	}
	return j.Drop(0)
}

// stopsAt checks that just so many steps are taken, and then none.
func stopsAt(t *testing.T, j *log.Log, many int, name ...any) {
	t.Helper()
	for step := range many {
		told(t, turns(j, step), api.OK, name, "step", step, "of", many)
	}
	for more := range 4 {
		told(t, turns(j, many+more), api.ErrState, name, "behind", many, "steps")
	}
}

// goesOn checks that it does not stop within many steps.
func goesOn(t *testing.T, j *log.Log, name ...any) {
	t.Helper()
	for step := range 60 {
		told(t, turns(j, step), api.OK, name, "step", step)
	}
}

func TestFailInSoManySteps(t *testing.T) {
	for many := range 20 {
		j := made(t, some())
		j.Fail(many)
		stopsAt(t, j, many, "Fail")
	}
	for many := range 6 {
		j := made(t, some())
		goesOn(t, j, "not told to stop")
		j.Fail(many)
		stopsAt(t, j, many, "told later")
	}
}

// TestFailAtALaterRecord: what is taken ahead of it is written whole.
func TestFailAtALaterRecord(t *testing.T) {
	for many := range maxFlows {
		j, whole := made(t, some()), made(t, some())
		j.Fail(many)
		added(t, j, paths[:many]...)
		added(t, whole, paths[:many]...)
		had := whole.Bytes()
		added(t, whole, paths[many])
		told(t, j.Add(paths[many]), api.ErrState, "the step", many)
		stands(t, j, some(), paths[:many], had+(whole.Bytes()-had)/2, 0, "half of", many)
	}
}

// TestWhatIsNoStep: calls that tell an error of their own, or none at all, bring it no nearer.
func TestWhatIsNoStep(t *testing.T) {
	for many := range 7 {
		j := made(t, some())
		j.Fail(many)
		for step := range many {
			notSteps(t, j)
			told(t, turns(j, step), api.OK, "step", step, "of", many)
		}
		notSteps(t, j)
		told(t, turns(j, many), api.ErrState, "behind", many)
	}
	j := with(t, paths...)
	j.Fail(1)
	for range 3 {
		told(t, j.Add(l(0)), api.ErrFull, "there are MaxFlows")
	}
	told(t, j.Sync(), api.OK, "the step ahead")
	told(t, j.Add(l(0)), api.ErrFull, "there are MaxFlows")
	told(t, j.Drop(0), api.ErrState, "the step")
}

func notSteps(t *testing.T, j *log.Log) {
	t.Helper()
	for _, c := range wrongPaths {
		told(t, j.Add(c.path), c.want, c.name)
	}
	for _, flow := range beyond {
		told(t, j.Drop(flow), api.ErrRange, flow)
	}
	j.Paths()
	j.Rates()
	j.Bytes()
	j.Safe()
}

func TestFailNever(t *testing.T) {
	for _, n := range l(-1, -2, math.MinInt, math.MaxInt) {
		j := made(t, some())
		j.Fail(n)
		goesOn(t, j, n)
	}
}

// TestFailAnew: the last number told counts, from where it was told on.
func TestFailAnew(t *testing.T) {
	for _, first := range l(math.MinInt, -1, 0, 1, 2, 3, 7, math.MaxInt) {
		for _, then := range l(0, 1, 2, 3, 7) {
			j := made(t, some())
			j.Fail(first)
			j.Fail(then)
			stopsAt(t, j, then, "Fail", first, "then", then)
		}
		for _, then := range l(-1, math.MinInt) {
			j := made(t, some())
			j.Fail(first)
			j.Fail(then)
			goesOn(t, j, "Fail", first, "then", then)
		}
	}
	for _, then := range l(0, 1, 2, 3, 7) {
		j := made(t, some())
		j.Fail(4)
		for step := range 3 {
			told(t, turns(j, step), api.OK, "step", step)
		}
		j.Fail(then)
		stopsAt(t, j, then, "on the way, then", then)
	}
}

// TestFailWhenItHasStopped: no number makes it go on, and a Crash forgets this one, too.
func TestFailWhenItHasStopped(t *testing.T) {
	for _, n := range l(math.MinInt, -1, 0, 1, 5, math.MaxInt) {
		j := with(t, paths[:2]...)
		had := j.Bytes()
		j.Fail(0)
		told(t, j.Sync(), api.ErrState, "the step")
		j.Fail(n)
		stopped(t, j, paths[:2], had, 0, "Fail", n)
		j.Crash(0)
		goesOn(t, j, "Fail", n, "then Crash")
	}
}

// step of a Log: an Add of a path, or, if that is nil, a Drop of a flow, or a Sync.
type step struct {
	path []int
	flow int
	sync bool
}

func add(path ...int) step { return step{path: path} }
func drop(flow int) step   { return step{flow: flow} }

var sync = step{sync: true}

func (s step) on(j *log.Log) error {
	switch {
	case s.sync:
		return j.Sync()
	case s.path != nil:
		return j.Add(s.path)
	}
	return j.Drop(s.flow)
}

// moment of a Log: how many bytes the whole records behind it have, and what flows they make.
type moment struct {
	bytes int
	flows [][]int
}

// played gives a Log behind these steps, and what it was ahead of them and behind each.
func played(t *testing.T, steps []step) (*log.Log, []moment) {
	t.Helper()
	j := made(t, some())
	moments := []moment{{}}
	for _, s := range steps {
		told(t, s.on(j), api.OK, s)
		moments = append(moments, moment{j.Bytes(), j.Paths()})
	}
	return j, moments
}

// last gives the moment of as many whole records as there are within so many bytes.
func last(moments []moment, bytes int) moment {
	var at moment
	for _, m := range moments {
		if m.bytes <= bytes {
			at = m
		}
	}
	return at
}

// scripts: steps, of which some are safe.
var scripts = [][]step{
	{},
	{sync},
	{add(0)},
	{add(2, 1, 0)},
	{add(0), sync},
	{add(0), add(1, 0), add(2, 1, 0)},
	{add(0), add(1, 0), sync, add(2, 1, 0), add(2)},
	{add(0), add(1, 0), add(2), drop(0)},
	{add(0), add(1, 0), add(2), drop(1), drop(1), drop(0)},
	{add(0, 1), add(1, 0), sync, drop(0), add(2), drop(0), drop(0)},
	{add(0), drop(0), add(1), drop(0), add(2, 0), drop(0)},
	{add(0), sync, drop(0), sync, add(1), drop(0), add(2, 0)},
	{add(0), add(1), add(2), add(0, 1), add(0, 2), add(1, 2), drop(5), drop(0), drop(2), add(2, 1, 0)},
	{add(0), add(1), add(2), sync, add(0, 1), add(0, 2), add(1, 2), drop(5), drop(0), sync, drop(2), add(2, 1, 0)},
}

// keeps gives every number of bytes from below none to above all, and such as are far beyond.
func keeps(all int) []int {
	list := l(math.MinInt, math.MinInt+1, -1<<32, math.MaxInt-1, math.MaxInt)
	for keep := -3; keep <= all+3; keep++ {
		list = append(list, keep)
	}
	return list
}

// leftOf gives how many bytes are left of those that there are, ahead of looking for whole records.
func leftOf(bytes, safe, keep int) int {
	return safe + min(max(keep, 0), bytes-safe)
}

func TestCrash(t *testing.T) {
	for i, steps := range scripts {
		j, _ := played(t, steps)
		for _, keep := range keeps(j.Bytes()) {
			j, moments := played(t, steps)
			at := last(moments, leftOf(j.Bytes(), j.Safe(), keep))
			if at.bytes < j.Safe() {
				t.Fatalf("script %d: what is safe is no whole records", i)
			}
			j.Crash(keep)
			stands(t, j, some(), at.flows, at.bytes, at.bytes, "script", i, "keep", keep)
			crashedAgain(t, j, at, i, keep)
			goesOnAnew(t, j, at, i, keep)
		}
	}
}

// crashedAgain: all is safe behind a Crash, so that another one takes nothing, whatever is kept.
func crashedAgain(t *testing.T, j *log.Log, at moment, name ...any) {
	t.Helper()
	for _, keep := range l(0, math.MinInt, -1, 1, 2, at.bytes, math.MaxInt) {
		j.Crash(keep)
		stands(t, j, some(), at.flows, at.bytes, at.bytes, "once more", keep, name)
	}
}

// goesOnAnew: steps are taken again, and what was lost never comes back.
func goesOnAnew(t *testing.T, j *log.Log, at moment, name ...any) {
	t.Helper()
	flows := at.flows
	if len(flows) == maxFlows {
		told(t, j.Drop(1), api.OK, "Drop behind a Crash", name)
		flows = without(flows, 1)
	}
	told(t, j.Add(l(2, 0, 1)), api.OK, "Add behind a Crash", name)
	flows = append(slices.Clone(flows), l(2, 0, 1))
	stands(t, j, some(), flows, j.Bytes(), at.bytes, "written anew", name)
	told(t, j.Sync(), api.OK, "Sync behind a Crash", name)
	stands(t, j, some(), flows, j.Bytes(), j.Bytes(), "safe anew", name)
	bytes := j.Bytes()
	told(t, j.Drop(0), api.OK, "Drop behind a Crash", name)
	j.Crash(0)
	stands(t, j, some(), flows, bytes, bytes, "lost anew", name)
	told(t, j.Drop(0), api.OK, "Drop behind two Crashes", name)
	bytes = j.Bytes()
	j.Crash(bytes)
	stands(t, j, some(), flows[1:], bytes, bytes, "kept anew", name)
}

// TestCrashBehindAStop: the half of a record is gone, whatever keep is; what Fail said is forgotten.
func TestCrashBehindAStop(t *testing.T) {
	for i, steps := range scripts {
		j, _ := played(t, steps)
		ends := []step{sync, add(0), add(0, 1), add(0, 1, 2)}
		if len(j.Paths()) == maxFlows {
			ends = ends[:1]
		}
		for flow := range j.Paths() {
			ends = append(ends, drop(flow))
		}
		for _, end := range ends {
			for _, keep := range keeps(j.Bytes() + 4) {
				j, moments := played(t, steps)
				j.Fail(0)
				told(t, end.on(j), api.ErrState, "the step", i, end)
				at := last(moments, leftOf(j.Bytes(), j.Safe(), keep))
				j.Crash(keep)
				stands(t, j, some(), at.flows, at.bytes, at.bytes, "script", i, "stopped at", end, "keep", keep)
				goesOnAnew(t, j, at, i, end, keep)
			}
		}
	}
}

// TestCrashForgetsFail: also where it had not stopped yet, and however far it was from it.
func TestCrashForgetsFail(t *testing.T) {
	for _, n := range l(math.MinInt, -1, 0, 1, 2, 5, math.MaxInt) {
		for _, keep := range l(-1, 0, 1, math.MaxInt) {
			j := made(t, some())
			j.Fail(n)
			j.Crash(keep)
			goesOn(t, j, "Fail", n, "Crash", keep)
			j.Fail(n)
			j.Crash(keep)
			j.Fail(2)
			stopsAt(t, j, 2, "told anew")
			j.Crash(keep)
			goesOn(t, j, "stopped, and crashed")
		}
	}
}

// TestOfManyRecords: a Log has as many as one likes, though but a few flows.
func TestOfManyRecords(t *testing.T) {
	j := with(t, l(2, 0))
	for i := range 100_000 {
		if err := j.Add(l(i%3, (i+1)%3)); err != nil {
			t.Fatal(i, err)
		}
		if err := j.Drop(1); err != nil {
			t.Fatal(i, err)
		}
		if i == 50_000 {
			told(t, j.Sync(), api.OK, "Sync")
		}
	}
	bytes := j.Bytes()
	stands(t, j, some(), ls(l(2, 0)), bytes, j.Safe(), "many")
	if bytes < 400_002 || j.Safe() < 200_000 {
		t.Errorf("got %d bytes, %d safe", bytes, j.Safe())
	}
	j.Crash(math.MaxInt)
	stands(t, j, some(), ls(l(2, 0)), bytes, bytes, "crashed")
}

// roomy gives a copy with something hidden behind its length, so that an append there would be seen.
func roomy(list []int, hidden int) []int {
	return append(slices.Clone(list), hidden, hidden, hidden)[:len(list)]
}

// filled gives every place of a list that value, up to its capacity.
func filled[T any](list []T, value T) {
	for i := range list[:cap(list)] {
		list[:cap(list)][i] = value
	}
}

// TestWhatIsHandedIn: it is not written into, also behind its length, and not kept.
func TestWhatIsHandedIn(t *testing.T) {
	caps := roomy(some(), 1)
	was := slices.Clone(caps[:cap(caps)])
	j := made(t, caps)
	var went [][]int
	for many, path := range paths {
		in := roomy(path, 0)
		had := slices.Clone(in[:cap(in)])
		added(t, j, in)
		if !slices.Equal(in[:cap(in)], had) {
			t.Errorf("Add wrote into the path %v", path)
		}
		filled(in, 1)
		stands(t, j, some(), paths[:many+1], j.Bytes(), 0, "the path is another")
		went = append(went, in)
	}
	told(t, j.Drop(0), api.OK, "Drop")
	if !slices.Equal(caps[:cap(caps)], was) {
		t.Error("the links that were handed in are written into")
	}
	filled(caps, 1)
	stands(t, j, some(), paths[1:], j.Bytes(), 0, "the links are others")
	j.Crash(math.MaxInt)
	stands(t, j, some(), paths[1:], j.Bytes(), j.Bytes(), "crashed")
	for i, in := range went {
		if !slices.Equal(in[:cap(in)], slices.Repeat(l(1), cap(in))) {
			t.Errorf("the path of flow %d was written into by a later call", i)
		}
	}
}

// TestWrongPathsStay: also with an error what is handed in is not written into, and what lies behind it is not read.
func TestWrongPathsStay(t *testing.T) {
	j := with(t, l(0))
	bytes := j.Bytes()
	for _, c := range wrongPaths {
		in := roomy(c.path, 0)
		had := slices.Clone(in[:cap(in)])
		told(t, j.Add(in), c.want, c.name)
		if !slices.Equal(in[:cap(in)], had) {
			t.Errorf("%s: the path is written into", c.name)
		}
		stands(t, j, some(), ls(l(0)), bytes, 0, c.name)
	}
	for _, caps := range ls(nil, l(0), l(1, maxCap+1), l(1, 1, 1, 1, 1, 1, 1)) {
		in := roomy(caps, 5)
		had := slices.Clone(in[:cap(in)])
		if none, err := log.New(in); none != nil || err == nil || !slices.Equal(in[:cap(in)], had) {
			t.Errorf("of %v: got %v, %v, and %v", caps, none, err, in[:cap(in)])
		}
	}
}

// TestAnswersAreFresh: what is written into one changes no other, and nothing of the Log.
func TestAnswersAreFresh(t *testing.T) {
	for many := range maxFlows + 1 {
		for _, crash := range []bool{false, true} {
			j := with(t, paths[:many]...)
			if crash {
				j.Crash(math.MaxInt)
			}
			bytes, safe := j.Bytes(), j.Safe()
			first, second := j.Paths(), j.Paths()
			rates, _ := j.Rates()
			again, _ := j.Rates()
			kept := slices.Clone(again)
			for flow, path := range first {
				filled(path, 7)
				if !same(first[flow+1:], paths[flow+1:many]) {
					t.Errorf("the path of flow %d shares memory with a later one", flow)
				}
			}
			filled(first, l(7))
			filled(rates, f(-7, -7))
			if !same(second, paths[:many]) || !slices.Equal(again, kept) {
				t.Errorf("of %d flows: two answers share memory", many)
			}
			stands(t, j, some(), paths[:many], bytes, safe, "written into what it answered")
			j.Crash(math.MaxInt)
			stands(t, j, some(), paths[:many], bytes, bytes, "written into what it answered, and crashed")
		}
	}
}

// TestAnswersStay: what was answered once is not changed by later calls.
func TestAnswersStay(t *testing.T) {
	j := with(t, paths...)
	had := j.Paths()
	rates, _ := j.Rates()
	kept := slices.Clone(rates)
	told(t, j.Drop(0), api.OK, "Drop")
	added(t, j, l(2, 0, 1))
	told(t, j.Drop(2), api.OK, "Drop")
	j.Crash(0)
	added(t, j, l(1, 2))
	if !same(had, paths) || !slices.Equal(rates, kept) {
		t.Errorf("got %v and %v, once the Log is another", had, rates)
	}
}

// TestTwoLogsShareNothing: made of one list, and given the same paths.
func TestTwoLogsShareNothing(t *testing.T) {
	caps := some()
	a, b := made(t, caps), made(t, caps)
	for _, path := range paths[:4] {
		added(t, a, path)
		added(t, b, path)
	}
	bytes := b.Bytes()
	told(t, a.Drop(1), api.OK, "Drop")
	told(t, a.Sync(), api.OK, "Sync")
	stands(t, b, caps, paths[:4], bytes, 0, "the other one synced")
	a.Fail(0)
	told(t, a.Add(l(0)), api.ErrState, "the step of the other one")
	told(t, b.Sync(), api.OK, "Sync")
	told(t, b.Drop(3), api.OK, "Drop")
	b.Crash(0)
	stands(t, b, caps, paths[:4], bytes, bytes, "crashed")
	told(t, a.Sync(), api.ErrState, "it has stopped yet")
	a.Crash(0)
	stands(t, a, caps, without(paths[:4], 1), a.Safe(), a.Safe(), "crashed, too")
	stands(t, b, caps, paths[:4], bytes, bytes, "the other one crashed")
}

// TestErrorsAreNumbers: an error can be asked by errors.Is and is never OK, and none is a plain nil.
func TestErrorsAreNumbers(t *testing.T) {
	j := with(t, l(0))
	if err := j.Add(l(0, 0)); !errors.Is(err, api.ErrClash) || errors.Is(err, api.OK) {
		t.Errorf("got %v, want ErrClash", err)
	}
	if err := j.Drop(1); !errors.Is(err, api.ErrRange) || errors.Is(err, api.OK) {
		t.Errorf("got %v, want ErrRange", err)
	}
	j.Fail(0)
	if err := j.Sync(); !errors.Is(err, api.ErrState) || errors.Is(err, api.OK) {
		t.Errorf("got %v, want ErrState", err)
	}
	if _, err := log.New(nil); !errors.Is(err, api.ErrNone) || errors.Is(err, api.OK) {
		t.Errorf("got %v, want ErrNone", err)
	}
}
