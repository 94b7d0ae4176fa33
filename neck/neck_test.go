package neck_test

import (
	"errors"
	"math"
	"math/big"
	"reflect"
	"slices"
	"testing"

	"fairsluice/api"
	"fairsluice/fill"
	"fairsluice/neck"
	"fairsluice/plain"
)

const (
	maxTop    = 1_000_000_000
	maxBottom = 100_000_000
	maxLinks  = 6
	maxFlows  = 6
	maxCap    = 1_000
)

func f(top, bottom int) api.Frac { return api.Frac{Top: top, Bottom: bottom} }

func fs(list ...api.Frac) []api.Frac { return list }

// w gives whole rates.
func w(tops ...int) (out []api.Frac) {
	for _, top := range tops {
		out = append(out, f(top, 1))
	}
	return out
}

func l(list ...int) []int { return list }

func ls(lists ...[]int) [][]int { return lists }

func mesh(caps []int, paths ...[]int) api.Net { return api.Net{Caps: caps, Paths: paths} }

// answer is what the three calls are to tell: of an error it is the error alone.
type answer struct {
	full, of []int
	fair     bool
	no       api.Errno
}

// told checks what the calls answer, and that what was handed in is then as it was, behind the lengths of its
// lists, too. It does so each time: of a list that an earlier call had sorted, say, a later one would leave no trace.
func told(t *testing.T, n api.Net, r []api.Frac, want answer, name ...any) {
	t.Helper()
	links, rates := whole(n), slices.Clone(r[:cap(r)])
	full, err := neck.Full(n, r)
	if !slices.Equal(full, want.full) || plain.Told(err) != want.no {
		t.Errorf("Full, %v: got %v, %v; want %v, %v", name, full, err, want.full, want.no)
	}
	of, err := neck.Of(n, r)
	if !slices.Equal(of, want.of) || plain.Told(err) != want.no {
		t.Errorf("Of, %v: got %v, %v; want %v, %v", name, of, err, want.of, want.no)
	}
	fair, err := neck.Fair(n, r)
	if fair != want.fair || plain.Told(err) != want.no {
		t.Errorf("Fair, %v: got %v, %v; want %v, %v", name, fair, err, want.fair, want.no)
	}
	if !reflect.DeepEqual(whole(n), links) || !slices.Equal(r[:cap(r)], rates) {
		t.Errorf("%v: it was %v, %v, and is %v, %v", name, links, rates, whole(n), r[:cap(r)])
	}
}

// refused checks that all three calls tell an error, and nothing with it.
func refused(t *testing.T, n api.Net, r []api.Frac, no api.Errno, name ...any) {
	t.Helper()
	told(t, n, r, answer{no: no}, name...)
}

func TestBoundsAreTheDocuments(t *testing.T) {
	if api.MaxTop != maxTop || api.MaxBottom != maxBottom || api.MaxLinks != maxLinks || api.MaxFlows != maxFlows || api.MaxCap != maxCap {
		t.Error("a bound of package api is not the document's")
	}
}

// right: nets and rates of which no call tells an error.
var right = []struct {
	name string
	n    api.Net
	r    []api.Frac
	full []int
	of   []int
	fair bool
}{
	{"one flow over one link", mesh(l(5), l(0)), w(5), l(0), l(0), true},
	{"1 too little", mesh(l(5), l(0)), w(4), nil, l(-1), false},
	{"1 too much", mesh(l(5), l(0)), w(6), nil, l(-1), false},
	{"the narrowest link that may be", mesh(l(1), l(0)), w(1), l(0), l(0), true},
	{"the widest link that may be", mesh(l(maxCap), l(0)), w(maxCap), l(0), l(0), true},

	{"no link is full", mesh(l(5, 4), l(1, 0), l(1), l(0)), fs(f(2, 1), f(1, 1), f(3, 2)), nil, l(-1, -1, -1), false},
	{"the first link alone", mesh(l(3, 9, 9), l(0), l(1), l(2)), w(3, 3, 3), l(0), l(0, -1, -1), false},
	{"a middle link alone", mesh(l(9, 3, 9), l(0), l(1), l(2)), w(3, 3, 3), l(1), l(-1, 1, -1), false},
	{"the last link alone", mesh(l(9, 9, 3), l(0), l(1), l(2)), w(3, 3, 3), l(2), l(-1, -1, 2), false},
	{"the first and the last", mesh(l(3, 9, 3), l(2), l(1), l(0)), w(3, 3, 3), l(0, 2), l(2, -1, 0), false},
	{"links rise, though flows go against them", mesh(l(1, 2, 3, 4), l(3), l(2), l(1), l(0)), w(4, 3, 2, 1), l(0, 1, 2, 3), l(3, 2, 1, 0), true},
	{"all as many as may be are full", mesh(l(1, 2, 3, 4, 5, 6), l(5), l(4), l(3), l(2), l(1), l(0)), w(6, 5, 4, 3, 2, 1),
		l(0, 1, 2, 3, 4, 5), l(5, 4, 3, 2, 1, 0), true},
	{"a link that no flow goes over", mesh(l(1, 5, 1), l(1)), w(5), l(1), l(1), true},
	{"links that no flow goes over, and none is full", mesh(l(1, 5, 1), l(1)), w(1), nil, l(-1), false},
	{"a link that takes 1, and no flow, between full ones", mesh(l(7, 1, 5), l(0), l(2)), w(7, 5), l(0, 2), l(0, 2), true},
	{"a load above is not just as much", mesh(l(5, 3), l(0), l(1)), w(6, 3), l(1), l(-1, 1), false},
	{"all loads above", mesh(l(5, 3), l(0, 1), l(1)), w(6, 1), nil, l(-1, -1), false},

	{"the first of a path", mesh(l(4, 7, 9), l(0, 1, 2)), w(4), l(0), l(0), true},
	{"a middle one of a path", mesh(l(7, 4, 9), l(0, 1, 2)), w(4), l(1), l(1), true},
	{"the last of a path", mesh(l(7, 9, 4), l(0, 1, 2)), w(4), l(2), l(2), true},
	{"the first of a path, not of the links", mesh(l(7, 9, 4), l(2, 0, 1)), w(4), l(2), l(2), true},
	{"the last of a path, the first of the links", mesh(l(4, 7, 9), l(2, 1, 0)), w(4), l(0), l(0), true},
	{"several of a path: its first, not the least", mesh(l(4, 9, 4), l(2, 1, 0)), w(4), l(0, 2), l(2), true},
	{"several of a path: its first, not the greatest", mesh(l(4, 9, 4), l(0, 1, 2)), w(4), l(0, 2), l(0), true},
	{"several of a path, and its first is none", mesh(l(4, 4, 9), l(2, 1, 0)), w(4), l(0, 1), l(1), true},
	{"all of a path", mesh(l(3, 3, 3, 3, 3, 3), l(3, 0, 5, 1, 2, 4)), w(3), l(0, 1, 2, 3, 4, 5), l(3), true},
	{"each flow the first of its own path", mesh(l(4, 4, 4), l(0, 1, 2), l(2, 1, 0)), w(2, 2), l(0, 1, 2), l(0, 2), true},

	{"another has a greater rate", mesh(l(6), l(0), l(0), l(0)), w(3, 2, 1), l(0), l(0, -1, -1), false},
	{"a later one has a greater rate", mesh(l(6), l(0), l(0), l(0)), w(1, 2, 3), l(0), l(-1, -1, 0), false},
	{"one between has a greater rate", mesh(l(6), l(0), l(0), l(0)), w(1, 4, 1), l(0), l(-1, 0, -1), false},
	{"two share the greatest rate", mesh(l(5), l(0), l(0), l(0)), w(2, 1, 2), l(0), l(0, -1, 0), false},
	{"all share one rate", mesh(l(6), l(0), l(0), l(0)), w(2, 2, 2), l(0), l(0, 0, 0), true},
	{"as many as may be share one", mesh(l(12), l(0), l(0), l(0), l(0), l(0), l(0)), w(2, 2, 2, 2, 2, 2), l(0), l(0, 0, 0, 0, 0, 0), true},
	{"a greater rate elsewhere is none", mesh(l(4, 9), l(0), l(0), l(1)), w(2, 2, 9), l(0, 1), l(0, 0, 1), true},
	{"a full link is none, a later one of the path is", mesh(l(5, 2), l(0, 1), l(0)), w(2, 3), l(0, 1), l(1, 0), true},
	{"a full link is none, and no later one is full", mesh(l(5, 3), l(0, 1), l(0)), w(2, 3), l(0), l(-1, 0), false},
	{"full links are none, but the last", mesh(l(5, 6, 2, 9), l(3, 0, 1, 2), l(0), l(1)), w(2, 3, 4), l(0, 1, 2), l(2, 0, 1), true},
	{"two share one, and one of them has none ahead", mesh(l(7, 4), l(1, 0), l(0, 1), l(0)), w(2, 2, 3), l(0, 1), l(1, 1, 0), true},
	{"greater by the least bit", mesh(l(3), l(0), l(0)), fs(f(3*maxBottom/2+1, maxBottom), f(3*maxBottom/2-1, maxBottom)), l(0), l(0, -1), false},
	{"greater, though its top is less", mesh(l(1), l(0), l(0)), fs(f(3, 5), f(2, 5)), l(0), l(0, -1), false},
	{"greater, though top and bottom are less", mesh(l(1, 1), l(0), l(0), l(0), l(1)), fs(f(1, 2), f(3, 10), f(1, 5), f(1, 1)), l(0, 1), l(0, -1, -1, 1), false},
	{"greater, and top and bottom are more", mesh(l(1), l(0), l(0), l(0)), fs(f(1, 4), f(3, 8), f(3, 8)), l(0), l(-1, 0, 0), false},

	{"parts of one", mesh(l(1), l(0), l(0), l(0)), fs(f(1, 3), f(1, 3), f(1, 3)), l(0), l(0, 0, 0), true},
	{"the least part that is fair", mesh(l(1), l(0), l(0), l(0), l(0), l(0), l(0)), slices.Repeat(fs(f(1, 6)), 6), l(0), l(0, 0, 0, 0, 0, 0), true},
	{"parts that come to a whole number", mesh(l(5, 2), l(0), l(0, 1), l(1)), fs(f(11, 3), f(4, 3), f(2, 3)), l(0, 1), l(0, 1, -1), false},
	{"parts of parts", mesh(l(1, 2), l(0), l(0), l(0, 1), l(1), l(1), l(1)),
		fs(f(1, 3), f(1, 3), f(1, 3), f(5, 9), f(5, 9), f(5, 9)), l(0, 1), l(0, 0, 0, 1, 1, 1), true},
	{"the least bit below", mesh(l(1), l(0)), fs(f(maxBottom-1, maxBottom)), nil, l(-1), false},
	{"the least bit above", mesh(l(1), l(0)), fs(f(maxBottom+1, maxBottom)), nil, l(-1), false},
	{"the top of a load is what the link takes, but its bottom is not 1", mesh(l(3), l(0)), fs(f(3, 2)), nil, l(-1), false},

	{"it fits, and one has no narrow place", mesh(l(5, 4), l(0), l(1)), w(5, 3), l(0), l(0, -1), false},
	{"it fits, and the first has none", mesh(l(5, 4), l(0), l(1)), w(4, 4), l(1), l(-1, 1), false},
	{"it fits, and none has one", mesh(l(5, 4), l(0), l(1)), w(4, 3), nil, l(-1, -1), false},
	{"it does not fit, though each has one", mesh(l(5, 3), l(0, 1)), w(5), l(0), l(0), false},
	{"the first link does not fit, though each has one", mesh(l(3, 5, 4), l(0, 1), l(2, 0)), w(5, 4), l(1, 2), l(1, 2), false},
	{"it fits not, and one has none", mesh(l(5, 3), l(0), l(1)), w(5, 4), l(0), l(0, -1), false},

	{"a rate of 0", mesh(l(5), l(0)), w(0), nil, l(-1), false},
	{"all rates are 0", mesh(l(5, 1), l(0), l(0, 1)), w(0, 0), nil, l(-1, -1), false},
	{"a rate of 0 beside another", mesh(l(5), l(0), l(0)), w(0, 5), l(0), l(-1, 0), false},
	{"a rate of 0 ahead of a full link", mesh(l(5, 5), l(0, 1), l(0), l(1)), w(0, 5, 5), l(0, 1), l(-1, 0, 1), false},

	{"a rate below 0", mesh(l(5), l(0)), w(-5), nil, l(-1), false},
	{"full by a rate below 0", mesh(l(5), l(0), l(0)), w(6, -1), l(0), l(0, -1), false},
	{"full by a first rate below 0", mesh(l(5), l(0), l(0), l(0)), w(-1, 3, 3), l(0), l(-1, 0, 0), false},
	{"a rate below 0 by the least bit", mesh(l(5, 1), l(0), l(0), l(1)), fs(f(-1, maxBottom), f(1, maxBottom), f(1, 1)), l(1), l(-1, -1, 1), false},
	{"a load below 0 as far as the link takes", mesh(l(5, 5), l(0), l(1)), w(-5, 5), l(1), l(-1, 1), false},
	{"rates below 0 of a load of 0", mesh(l(5), l(0), l(0)), fs(f(7, 3), f(-7, 3)), nil, l(-1, -1), false},

	{"the greatest rate", mesh(l(maxCap), l(0)), w(maxTop), nil, l(-1), false},
	{"full by the greatest rates", mesh(l(1), l(0), l(0), l(0)), w(maxTop, -maxTop, 1), l(0), l(0, -1, -1), false},
	{"the finest rate", mesh(l(9, 1), l(0, 1)), fs(f(1, maxBottom)), nil, l(-1), false},
	{"full by the finest rate", mesh(l(1), l(0), l(0)), fs(f(1, maxBottom), f(maxBottom-1, maxBottom)), l(0), l(-1, 0), false},
	{"what is left would be too great", mesh(l(1, 1), l(0), l(1)), w(-maxTop, 1), l(1), l(-1, 1), false},
	{"what is left would be too fine", mesh(l(maxCap, 1), l(0), l(1)), fs(f(1, maxBottom), f(1, 1)), l(1), l(-1, 1), false},
	{"what is left would be too fine, and the other link is full", mesh(l(maxCap, 1), l(0, 1), l(1)), fs(f(maxBottom-1, maxBottom), f(1, maxBottom)), l(1), l(1, -1), false},

	{"all flows over all links", mesh(l(8, 7, 3, 6, 5, 3), l(0, 1, 2, 3, 4, 5), l(5, 4, 3, 2, 1, 0), l(0, 1, 2, 3, 4, 5),
		l(0, 2, 4, 1, 3, 5), l(1, 0, 5, 2, 3, 4), l(0, 1, 2, 3, 4, 5)), slices.Repeat(fs(f(1, 2)), 6), l(2, 5), l(2, 5, 2, 2, 5, 2), true},
}

func TestRight(t *testing.T) {
	for _, c := range right {
		told(t, c.n, c.r, answer{c.full, c.of, c.fair, api.OK}, c.name)
	}
}

// TestOneLink: of all that a link may take, and all numbers of flows, the same parts alone are fair.
func TestOneLink(t *testing.T) {
	for takes := 1; takes <= maxCap; takes++ {
		for flows := 1; flows <= maxFlows; flows++ {
			n := mesh(l(takes), slices.Repeat(ls(l(0)), flows)...)
			r := slices.Repeat(fs(frac(big.NewRat(int64(takes), int64(flows)))), flows)
			told(t, n, r, answer{l(0), make([]int, flows), true, api.OK}, takes, flows)
			if flows < 2 {
				continue
			}
			apart := slices.Clone(r)
			apart[0] = frac(new(big.Rat).Sub(rat(r[0]), big.NewRat(1, 7)))
			apart[flows-1] = frac(new(big.Rat).Add(rat(r[0]), big.NewRat(1, 7)))
			of := slices.Repeat(l(-1), flows)
			of[flows-1] = 0
			told(t, n, apart, answer{l(0), of, false, api.OK}, takes, flows, "apart")
		}
	}
}

// faultyNets: what chapter 2's Check refuses, and by which error. Those with several faults
// have, as far as they can, all of those that the document names later.
var faultyNets = []struct {
	name string
	n    api.Net
	want api.Errno
}{
	{"the zero value", api.Net{}, api.ErrNone},
	{"empty lists", api.Net{Caps: []int{}, Paths: [][]int{}}, api.ErrNone},
	{"no link", mesh(nil, l(0)), api.ErrNone},
	{"an empty list of links", mesh([]int{}, l(0)), api.ErrNone},
	{"no flow", mesh(l(5)), api.ErrNone},
	{"an empty list of flows", api.Net{Caps: l(5), Paths: [][]int{}}, api.ErrNone},
	{"no link, and too many flows", mesh(nil, make([][]int, maxFlows+1)...), api.ErrNone},
	{"no flow, and too many links, that take nothing", mesh(make([]int, maxLinks+1)), api.ErrNone},

	{"too many links", mesh(slices.Repeat(l(1), maxLinks+1), l(0)), api.ErrFull},
	{"far too many links", mesh(slices.Repeat(l(1), 100_000), l(0)), api.ErrFull},
	{"too many flows", mesh(l(1), slices.Repeat(ls(l(0)), maxFlows+1)...), api.ErrFull},
	{"too many links, that take nothing, and a wrong flow", mesh(make([]int, maxLinks+1), l(9, 9)), api.ErrFull},
	{"too many flows, over none, and a link that takes nothing", mesh(l(0), make([][]int, maxFlows+1)...), api.ErrFull},

	{"a link takes nothing", mesh(l(0), l(0)), api.ErrRange},
	{"a link takes less than nothing", mesh(l(-1), l(0)), api.ErrRange},
	{"the last link takes too much, and no flow goes over it", mesh(l(1, maxCap+1), l(0)), api.ErrRange},
	{"a link takes the least int", mesh(l(math.MinInt), l(0)), api.ErrRange},
	{"a link takes the greatest int", mesh(l(math.MaxInt), l(0)), api.ErrRange},
	{"a link takes nothing, and a flow goes over none", mesh(l(1, 0), nil), api.ErrRange},
	{"a link takes nothing, and a flow goes twice over one", mesh(l(1, 0), l(0, 0)), api.ErrRange},

	{"a flow over none", mesh(l(5), nil), api.ErrNone},
	{"the last flow over none", mesh(l(5), l(0), []int{}), api.ErrNone},
	{"a flow over none, a later one over none such", mesh(l(5), l(0), nil, l(1)), api.ErrNone},
	{"a flow over none, a later one twice over one", mesh(l(5), l(0), nil, l(0, 0)), api.ErrNone},
	{"a flow over the link behind the last", mesh(l(5), l(1)), api.ErrRange},
	{"a flow over link -1", mesh(l(5), l(-1)), api.ErrRange},
	{"a flow over the least int", mesh(l(5), l(math.MinInt)), api.ErrRange},
	{"the last flow over the greatest int", mesh(l(5), l(0), l(0, math.MaxInt)), api.ErrRange},
	{"over none such, then twice over one", mesh(l(5, 5), l(0, 2, 0)), api.ErrRange},
	{"over none such, and a later flow over none", mesh(l(5), l(1), nil), api.ErrRange},
	{"a flow twice over one", mesh(l(5), l(0, 0)), api.ErrClash},
	{"the last flow twice over one", mesh(l(5, 5), l(0), l(1, 0, 1)), api.ErrClash},
	{"twice over one, then none such", mesh(l(5), l(0, 0, 1)), api.ErrClash},
	{"twice over one, and a later flow over none", mesh(l(5), l(0, 0), nil), api.ErrClash},
	{"a path far too long", mesh(l(5), slices.Repeat(l(0), 100_000)), api.ErrClash},
}

// faultyRates: what chapter 1's Check refuses, and by which error.
var faultyRates = []struct {
	a    api.Frac
	want api.Errno
}{
	{f(0, 0), api.ErrRange}, {f(1, 0), api.ErrRange}, {f(1, -1), api.ErrRange}, {f(-1, -1), api.ErrRange},
	{f(maxTop+1, 1), api.ErrRange}, {f(-maxTop-1, 1), api.ErrRange}, {f(1, maxBottom+1), api.ErrRange},
	{f(math.MinInt, 1), api.ErrRange}, {f(math.MaxInt, 1), api.ErrRange},
	{f(1, math.MinInt), api.ErrRange}, {f(1, math.MaxInt), api.ErrRange}, {f(math.MinInt, -1), api.ErrRange},
	{f(math.MinInt, math.MinInt), api.ErrRange}, {f(math.MaxInt, math.MaxInt), api.ErrRange},
	{f(math.MinInt, math.MaxInt), api.ErrRange}, {f(math.MaxInt, math.MinInt), api.ErrRange},
	{f(2, maxBottom+2), api.ErrRange}, {f(maxTop+2, 2), api.ErrRange},
	{f(0, 2), api.ErrShape}, {f(0, maxBottom), api.ErrShape}, {f(2, 4), api.ErrShape}, {f(-6, 4), api.ErrShape},
	{f(10, 2), api.ErrShape}, {f(maxTop, maxBottom), api.ErrShape}, {f(-maxTop, 2), api.ErrShape},
}

// TestNetIsCheckedFirst: a fault of the net is told, whatever is wrong with the rates.
func TestNetIsCheckedFirst(t *testing.T) {
	for _, c := range faultyNets {
		for many := range maxFlows + 3 {
			for _, a := range fs(f(1, 1), f(5, 1), f(-1, 1), f(maxTop, 1), f(0, 0), f(2, 4), f(math.MinInt, math.MaxInt)) {
				refused(t, c.n, slices.Repeat(fs(a), many), c.want, c.name, many, a)
			}
		}
	}
}

// TestAsManyRates: too few or too many are told ahead of what is wrong with one, and of a sum that is too great.
func TestAsManyRates(t *testing.T) {
	for flows := 1; flows <= maxFlows; flows++ {
		n := mesh(l(5, 6), slices.Repeat(ls(l(0)), flows)...)
		for many := range maxFlows + 3 {
			if many == flows {
				continue
			}
			for _, a := range fs(f(1, 1), f(5, 1), f(-1, 1), f(maxTop, 1), f(0, 0), f(2, 4), f(math.MinInt, math.MinInt)) {
				refused(t, n, slices.Repeat(fs(a), many), api.ErrShape, "as many rates", flows, many, a)
			}
		}
		refused(t, n, nil, api.ErrShape, "nil")
		refused(t, n, []api.Frac{}, api.ErrShape, "empty")
		refused(t, n, make([]api.Frac, 100_000), api.ErrShape, "far too many")
	}
}

// TestRatesAreChecked: the first faulty rate is told, wherever it lies, also where the others make all links full,
// where one is below 0, and ahead of a sum that is too great.
func TestRatesAreChecked(t *testing.T) {
	n := mesh(l(3, 2), l(0), l(0), l(1), l(0, 1))
	for _, c := range faultyRates {
		for at := range n.Paths {
			for _, a := range fs(f(1, 1), f(-1, 1), f(maxTop, 1)) {
				one := slices.Repeat(fs(a), len(n.Paths))
				one[at] = c.a
				refused(t, n, one, c.want, "one faulty rate", one)
				for _, d := range faultyRates {
					for later := at + 1; later < len(n.Paths); later++ {
						two := slices.Clone(one)
						two[later] = d.a
						refused(t, n, two, c.want, "two faulty rates", two)
					}
				}
			}
		}
	}
}

func TestSumsThatAreTooGreat(t *testing.T) {
	for _, c := range []struct {
		name string
		n    api.Net
		r    []api.Frac
	}{
		{"a top above", mesh(l(5), l(0), l(0)), w(maxTop, 1)},
		{"a top below", mesh(l(5), l(0), l(0)), w(-maxTop, -1)},
		{"a top above by a half", mesh(l(5), l(0), l(0)), fs(f(maxTop, 1), f(1, 2))},
		{"a bottom above", mesh(l(5), l(0), l(0)), fs(f(1, 10_000), f(1, 10_001))},
		{"the finest and a third", mesh(l(5), l(0), l(0)), fs(f(1, maxBottom), f(1, 3))},
		{"on the way, though it would be full at the end", mesh(l(5), l(0), l(0), l(0)), w(maxTop, 5, -maxTop)},
		{"a bottom on the way, though it would be full at the end", mesh(l(1), l(0), l(0), l(0), l(0)),
			fs(f(1, 10_000), f(1, 10_001), f(9_999, 10_000), f(-1, 10_001))},
		{"at the last flow", mesh(l(5), l(0), l(0), l(0), l(0), l(0), l(0)), w(maxTop-4, 1, 1, 1, 1, 1)},
		{"at the first link alone, and the last is full", mesh(l(5, 1), l(0), l(0, 1)), w(maxTop, 1)},
		{"at a middle link alone", mesh(l(5, 5, 5), l(0, 1), l(2, 1)), w(maxTop, 1)},
		{"at the last link, and the first is full", mesh(l(5, 5), l(0), l(1), l(1)), w(5, maxTop, 1)},
		{"at the last link, and the first is above what it takes", mesh(l(5, 5), l(0), l(1), l(1)), w(6, maxTop, 1)},
		{"at the last link, and a rate is below 0", mesh(l(5, 5), l(0), l(1), l(1)), w(-6, maxTop, 1)},
	} {
		refused(t, c.n, c.r, api.ErrFull, c.name)
	}
}

// TestNumbersBeyond: at no number beyond the bounds, at any place of what is handed in, is there a panic, or another error.
func TestNumbersBeyond(t *testing.T) {
	beyond := l(math.MinInt, math.MinInt+1, -1<<62, -maxTop-1, maxTop+1, 1<<31, 1<<32, 1<<62, math.MaxInt-1, math.MaxInt)
	for _, c := range right {
		for _, x := range beyond {
			for link := range c.n.Caps {
				n := whole(c.n)
				n.Caps[link] = x
				refused(t, n, c.r, api.ErrRange, c.name, "link", link, x)
			}
			for flow, path := range c.n.Paths {
				for i := range path {
					n := whole(c.n)
					n.Paths[flow][i] = x
					refused(t, n, c.r, api.ErrRange, c.name, "flow", flow, i, x)
				}
				r := slices.Clone(c.r)
				r[flow].Top = x
				refused(t, c.n, r, api.ErrRange, c.name, "top", flow, x)
				r = slices.Clone(c.r)
				r[flow].Bottom = x
				refused(t, c.n, r, api.ErrRange, c.name, "bottom", flow, x)
			}
		}
	}
}

// roomy gives a copy with something hidden behind its length, so that an append there would be seen.
func roomy[T any](list []T, hidden T) []T {
	return append(slices.Clone(list), hidden, hidden, hidden)[:len(list)]
}

// roomyNet hides what would change the answer, were it read: links that take 1, flows over link 0.
func roomyNet(n api.Net) api.Net {
	paths := roomy(n.Paths, l(0))
	for i, path := range paths {
		paths[i] = roomy(path, 0)
	}
	return api.Net{Caps: roomy(n.Caps, 1), Paths: paths}
}

// whole copies all the memory of a net, also what lies behind lengths.
func whole(n api.Net) api.Net {
	paths := slices.Clone(n.Paths[:cap(n.Paths)])
	for i, path := range paths {
		paths[i] = slices.Clone(path[:cap(path)])
	}
	return api.Net{Caps: slices.Clone(n.Caps[:cap(n.Caps)]), Paths: paths}
}

// TestBehindTheLength: what lies there makes no difference to an answer, and is not written into, also with an error.
func TestBehindTheLength(t *testing.T) {
	for _, c := range right {
		n, r := roomyNet(c.n), roomy(c.r, f(1, 1))
		told(t, n, r, answer{c.full, c.of, c.fair, api.OK}, c.name)
		refused(t, n, r[:len(r)-1], api.ErrShape, c.name, "without the last rate")
		refused(t, n, r[:len(r)+1], api.ErrShape, c.name, "with one more rate")
	}
	for _, c := range faultyNets {
		refused(t, roomyNet(c.n), roomy(w(1, 1), f(1, 1)), c.want, c.name)
	}
}

// filled gives every place of a list that value, up to its capacity.
func filled[T any](list []T, value T) {
	for i := range list[:cap(list)] {
		list[:cap(list)][i] = value
	}
}

// TestAnswersAreFresh: no two lists share memory, of those that come out of several calls and those handed in.
func TestAnswersAreFresh(t *testing.T) {
	for _, c := range right {
		n, r := roomyNet(c.n), roomy(c.r, f(-7, -7))
		rates := slices.Clone(r[:cap(r)])
		lists := append(slices.Clone(n.Paths), n.Caps)
		for _, call := range []func(api.Net, []api.Frac) ([]int, error){neck.Of, neck.Full, neck.Of, neck.Full} {
			out, err := call(n, r)
			if err != nil {
				t.Fatal(c.name, err)
			}
			lists = append(lists, out)
		}
		for i, list := range lists {
			filled(list, 100+i)
		}
		for i, list := range lists {
			if slices.ContainsFunc(list[:cap(list)], func(x int) bool { return x != 100+i }) {
				t.Errorf("%s: list %d shares memory with another", c.name, i)
			}
		}
		if !slices.Equal(r[:cap(r)], rates) {
			t.Errorf("%s: the rates share memory with another list", c.name)
		}
	}
}

// TestOfOneMemory: also where the lists that are handed in share memory, what comes out does not.
func TestOfOneMemory(t *testing.T) {
	one := l(1, 0)
	n := api.Net{Caps: l(5, 4), Paths: ls(one, one[:1], one)}
	told(t, n, fs(f(4, 3), f(4, 3), f(4, 3)), answer{l(1), l(1, 1, 1), true, api.OK}, "paths that share memory")
	n = api.Net{Caps: one[:1], Paths: ls(one[1:], one[1:])}
	told(t, n, fs(f(1, 2), f(1, 2)), answer{l(0), l(0, 0), true, api.OK}, "links and paths that share memory")
}

// TestNothingIsKept: an answer hangs on its arguments alone, whatever became of earlier ones.
func TestNothingIsKept(t *testing.T) {
	for _, c := range right {
		n, r := whole(c.n), slices.Clone(c.r)
		full, err := neck.Full(n, r)
		of, bad := neck.Of(n, r)
		if err != nil || bad != nil {
			t.Fatal(c.name, err, bad)
		}
		filled(n.Caps, 2*len(r))
		filled(r, f(2, 1))
		for i := range n.Paths {
			n.Paths[i][0], n.Paths[i] = 0, n.Paths[i][:1]
		}
		told(t, n, r, answer{l(0), make([]int, len(r)), true, api.OK}, "others than", c.name)
		if !slices.Equal(full, c.full) || !slices.Equal(of, c.of) {
			t.Errorf("%s: got %v and %v, once the arguments are others", c.name, full, of)
		}
		filled(full, -7)
		filled(of, -7)
		told(t, c.n, c.r, answer{c.full, c.of, c.fair, api.OK}, c.name, "once more")
	}
}

// TestErrorsAreNumbers: an error can be asked by errors.Is and is never OK, and none is a plain nil.
func TestErrorsAreNumbers(t *testing.T) {
	n := mesh(l(5), l(0))
	if full, err := neck.Full(n, nil); full != nil || !errors.Is(err, api.ErrShape) || errors.Is(err, api.OK) {
		t.Errorf("got %v, %v; want ErrShape", full, err)
	}
	if of, err := neck.Of(n, fs(f(1, 0))); of != nil || !errors.Is(err, api.ErrRange) || errors.Is(err, api.OK) {
		t.Errorf("got %v, %v; want ErrRange", of, err)
	}
	if fair, err := neck.Fair(mesh(l(5), l(0, 0)), w(5)); fair || !errors.Is(err, api.ErrClash) || errors.Is(err, api.OK) {
		t.Errorf("got %v, %v; want ErrClash", fair, err)
	}
	if _, err := neck.Fair(n, w(5)); err != nil {
		t.Errorf("got %v, want nil", err)
	}
}

func rat(a api.Frac) *big.Rat { return big.NewRat(int64(a.Top), int64(a.Bottom)) }

func frac(r *big.Rat) api.Frac { return f(int(r.Num().Int64()), int(r.Denom().Int64())) }

func tooGreat(a *big.Rat) bool {
	return a.Num().CmpAbs(big.NewInt(maxTop)) > 0 || a.Denom().Cmp(big.NewInt(maxBottom)) > 0
}

// asked is what the document's words ask of a net and rates that are right, as far as sums are not too great, in exact numbers.
func asked(n api.Net, r []api.Frac) answer {
	out := answer{fair: true}
	tops := make([]*big.Rat, len(n.Caps)) // of full links the greatest rate
	for link, takes := range n.Caps {
		sum, top := new(big.Rat), rat(f(-maxTop, 1))
		for flow, path := range n.Paths {
			if !slices.Contains(path, link) {
				continue
			}
			a := rat(r[flow])
			if sum.Add(sum, a); tooGreat(sum) {
				return answer{no: api.ErrFull}
			}
			if a.Cmp(top) > 0 {
				top = a
			}
		}
		order := sum.Cmp(rat(f(takes, 1)))
		out.fair = out.fair && order <= 0
		if order == 0 {
			out.full = append(out.full, link)
			tops[link] = top
		}
	}
	for flow, path := range n.Paths {
		place := -1
		for _, link := range slices.Backward(path) {
			if tops[link] != nil && rat(r[flow]).Cmp(tops[link]) == 0 {
				place = link
			}
		}
		out.of = append(out.of, place)
		out.fair = out.fair && r[flow].Top >= 0 && place >= 0
	}
	return out
}

// everyList hands on all lists of so many of the things.
func everyList[T any](things []T, many int, to func([]T)) {
	if many == 0 {
		to(nil)
		return
	}
	everyList(things, many-1, func(list []T) {
		for _, a := range things {
			to(append(slices.Clone(list), a))
		}
	})
}

// TestAllSmallNets holds nets of two links and up to three flows, with all such rates, against exact numbers,
// and against what fill gives: of all rates, those alone are fair.
func TestAllSmallNets(t *testing.T) {
	rates := fs(f(0, 1), f(1, 2), f(1, 1), f(3, 2), f(2, 1), f(-1, 1), f(maxTop, 1), f(1, 3))
	paths := ls(l(0), l(1), l(0, 1), l(1, 0))
	everyList(l(1, 2, 3), 2, func(caps []int) {
		for flows := 1; flows <= 3; flows++ {
			everyList(paths, flows, func(list [][]int) {
				n := mesh(caps, list...)
				risen, err := fill.Rates(n)
				if err != nil {
					t.Fatal(n, err)
				}
				everyList(rates, flows, func(r []api.Frac) {
					want := asked(n, r)
					told(t, n, r, want, n, r)
					if want.fair != slices.Equal(r, risen) {
						t.Errorf("%v: fair of %v is %v, and all rise to %v", n, r, want.fair, risen)
					}
				})
			})
		}
	})
}

// TestSixFlows holds nets of six links and six flows, of which many links are full, against exact numbers.
func TestSixFlows(t *testing.T) {
	fulls, places := make([]int, maxLinks+1), make([]int, maxLinks+1)
	for seed := range 6_000 {
		n, r := sixFlows(seed)
		want := asked(n, r)
		told(t, n, r, want, n, r)
		fulls[len(want.full)]++
		for flow, link := range want.of {
			places[1+slices.Index(n.Paths[flow], link)]++
		}
	}
	if slices.Contains(fulls, 0) || slices.Contains(places, 0) {
		t.Errorf("not all numbers of full links are there, or not all places of a path: %v, %v", fulls, places)
	}
}

// sixFlows makes paths and rates by a short rule; where a load may be what a link takes, it often is.
func sixFlows(seed int) (n api.Net, r []api.Frac) {
	step := func(i int) int { return (seed*7919 + i*104_729) * 2_654_435_761 >> 7 & math.MaxInt }
	for i := range maxFlows {
		x := step(i)
		path := l(x % maxLinks)
		for k := range maxLinks {
			link := (x>>20 + k) % maxLinks
			if x>>(10+link)&1 == 1 && link != path[0] {
				path = append(path, link)
			}
		}
		n.Paths = append(n.Paths, path)
		r = append(r, frac(big.NewRat(int64(x>>30%5+seed%2), int64(1+seed%3/2*(x>>35%2)))))
	}
	for link := range maxLinks {
		sum := new(big.Rat)
		for flow, path := range n.Paths {
			if slices.Contains(path, link) {
				sum.Add(sum, rat(r[flow]))
			}
		}
		takes := int(sum.Num().Int64() / sum.Denom().Int64())
		n.Caps = append(n.Caps, max(1, takes+l(0, 0, 0, 0, 1, -1)[step(link+7)>>3%6]))
	}
	return n, r
}

// TestRisen: what fill gives is fair, and no more so once one flow has more, or less, or all have twice as much.
func TestRisen(t *testing.T) {
	for seed := range 2_000 {
		n, _ := sixFlows(seed)
		r, err := fill.Rates(n)
		if err != nil {
			t.Fatal(n, err)
		}
		want := asked(n, r)
		if !want.fair {
			t.Fatalf("%v: %v is not fair", n, r)
		}
		told(t, n, r, want, n, r)
		for flow := range r {
			for _, more := range fs(f(1, 6), f(-1, 6), f(1, 1)) {
				other := slices.Clone(r)
				other[flow] = frac(new(big.Rat).Add(rat(r[flow]), rat(more)))
				notFair(t, n, other)
			}
		}
		twice := slices.Clone(r)
		for flow := range twice {
			twice[flow] = frac(new(big.Rat).Mul(rat(r[flow]), rat(f(2, 1))))
		}
		notFair(t, n, twice)
	}
}

func notFair(t *testing.T, n api.Net, r []api.Frac) {
	t.Helper()
	want := asked(n, r)
	if want.fair {
		t.Fatalf("%v: %v is fair", n, r)
	}
	told(t, n, r, want, n, r)
}
