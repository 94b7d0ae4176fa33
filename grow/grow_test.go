package grow_test

import (
	"errors"
	"math"
	"math/big"
	"reflect"
	"slices"
	"testing"

	"fairsluice/api"
	"fairsluice/fill"
	"fairsluice/grow"
	"fairsluice/net"
	"fairsluice/plain"
)

const (
	maxLinks = 6
	maxFlows = 6
	maxCap   = 1_000
)

func f(top, bottom int) api.Frac { return api.Frac{Top: top, Bottom: bottom} }

func fs(list ...api.Frac) []api.Frac { return list }

// w gives whole rates.
func w(tops ...int) (out []api.Frac) {
	for _, top := range tops {
		out = append(out, f(top, 1))
	}
	return out
}

func l(list ...int) []int { return list }

func ls(lists ...[]int) [][]int { return lists }

func mesh(caps []int, paths ...[]int) api.Net { return api.Net{Caps: caps, Paths: paths} }

// whole copies all the memory of a net, also what lies behind lengths.
func whole(n api.Net) api.Net {
	paths := slices.Clone(n.Paths[:cap(n.Paths)])
	for i, path := range paths {
		paths[i] = slices.Clone(path[:cap(path)])
	}
	return api.Net{Caps: slices.Clone(n.Caps[:cap(n.Caps)]), Paths: paths}
}

// same checks an answer, that with an error there are no rates, and that the net is as it was, behind the lengths of
// its lists, too. It is asked behind each call: of a net that an earlier call had changed, a later one would leave no trace.
func same(t *testing.T, got []api.Frac, err error, rates []api.Frac, no api.Errno, n, was api.Net, name ...any) {
	t.Helper()
	if !slices.Equal(got, rates) || plain.Told(err) != no {
		t.Errorf("%v: got %v, %v; want %v, %v", name, got, err, rates, no)
	}
	if err != nil && len(got) > 0 {
		t.Errorf("%v: got rates %v with %v", name, got, err)
	}
	if !reflect.DeepEqual(whole(n), was) {
		t.Errorf("%v: the net was %v, and is %v", name, was, whole(n))
	}
}

func toldMore(t *testing.T, n api.Net, path []int, rates []api.Frac, no api.Errno, name ...any) {
	t.Helper()
	was, went := whole(n), slices.Clone(path[:cap(path)])
	got, err := grow.More(n, path)
	same(t, got, err, rates, no, n, was, "More", name)
	if !slices.Equal(path[:cap(path)], went) {
		t.Errorf("More, %v: the path was %v, and is %v", name, went, path[:cap(path)])
	}
}

func toldFewer(t *testing.T, n api.Net, flow int, rates []api.Frac, no api.Errno, name ...any) {
	t.Helper()
	was := whole(n)
	got, err := grow.Fewer(n, flow)
	same(t, got, err, rates, no, n, was, "Fewer", name)
}

func toldWider(t *testing.T, n api.Net, link, by int, rates []api.Frac, no api.Errno, name ...any) {
	t.Helper()
	was := whole(n)
	got, err := grow.Wider(n, link, by)
	same(t, got, err, rates, no, n, was, "Wider", name)
}

func TestBoundsAreTheDocuments(t *testing.T) {
	if api.MaxLinks != maxLinks || api.MaxFlows != maxFlows || api.MaxCap != maxCap {
		t.Error("a bound of package api is not the document's")
	}
}

// some: a net of three flows, of which no two have one rate, so that their order shows.
func some() api.Net { return mesh(l(10, 4, 20), l(0, 1), l(0), l(2)) }

// full: a net of as many links and flows as may be.
func full() api.Net {
	return mesh(l(7, maxCap, 5, 9, 4, 8), l(0), l(1, 0), l(5), l(3, 2, 4, 0, 1, 5), l(2), l(0, 1, 2, 3, 4, 5))
}

// sound: nets in which nothing is wrong.
var sound = []api.Net{
	mesh(l(5), l(0)),
	mesh(l(1), l(0)),
	mesh(l(maxCap), l(0), l(0)),
	mesh(l(5, 4), l(1, 0), l(1)),
	mesh(l(1, 17, 1), l(1)),
	mesh(l(3, 4), l(0), l(1), l(1), l(0, 1), l(1, 0)),
	mesh(l(1, 2, 3), l(0), l(0, 1), l(1), l(1, 2), l(2), l(2)),
	mesh(l(1, 2, 3, 4, 5, 6), l(5), l(4), l(3), l(2), l(1), l(0)),
	some(),
	full(),
}

// more: flows that are added, and the rates then.
var more = []struct {
	name  string
	n     api.Net
	path  []int
	rates []api.Frac
}{
	{"a second over the only link", mesh(l(5), l(0)), l(0), fs(f(5, 2), f(5, 2))},
	{"a second over the narrowest link that may be", mesh(l(1), l(0)), l(0), fs(f(1, 2), f(1, 2))},
	{"a second over the widest link that may be", mesh(l(maxCap), l(0)), l(0), w(500, 500)},
	{"as many as may be", mesh(l(9), l(0), l(0), l(0), l(0), l(0)), l(0), slices.Repeat(fs(f(3, 2)), 6)},
	{"over a link that none goes over", mesh(l(5, 8), l(0), l(0)), l(1), fs(f(5, 2), f(5, 2), f(8, 1))},
	{"its rate is the last one, also where it is the least", mesh(l(9, 8, 1), l(0), l(1)), l(2), w(9, 8, 1)},
	{"over the first link of some", some(), l(0), fs(f(10, 3), f(10, 3), f(20, 1), f(10, 3))},
	{"over the second link of some", some(), l(1), w(2, 8, 20, 2)},
	{"over the last link of some", some(), l(2), w(4, 6, 10, 10)},
	{"over all links of some", some(), l(2, 0, 1), w(2, 6, 18, 2)},
	{"over all links of some, in another order", some(), l(1, 2, 0), w(2, 6, 18, 2)},
	{"one gets more of it", mesh(l(10, 6), l(0, 1), l(0)), l(1), w(3, 7, 3)},
	{"the path of another flow", mesh(l(10, 4), l(0), l(0, 1)), l(0, 1), w(6, 2, 2)},
	{"parts of parts", mesh(l(1, 2), l(0), l(0), l(0, 1), l(1), l(1)), l(1),
		fs(f(1, 3), f(1, 3), f(1, 3), f(5, 9), f(5, 9), f(5, 9))},
}

func TestMore(t *testing.T) {
	for _, c := range more {
		toldMore(t, c.n, c.path, c.rates, api.OK, c.name)
		if got, _ := grow.More(c.n, c.path); len(got) != len(c.n.Paths)+1 {
			t.Errorf("%s: got %d rates, of %d flows", c.name, len(got), len(c.n.Paths))
		}
	}
}

// fewer: flows that are dropped, and the rates then.
var fewer = []struct {
	name  string
	n     api.Net
	flow  int
	rates []api.Frac
}{
	{"the first of two", mesh(l(5, 4), l(1, 0), l(0)), 0, w(5)},
	{"the last of two", mesh(l(5, 4), l(1, 0), l(0)), 1, w(4)},
	{"the first of some", some(), 0, w(10, 20)},
	{"a middle one of some", some(), 1, w(4, 20)},
	{"the last of some", some(), 2, w(4, 6)},
	{"the first of those on one link each", mesh(l(1, 2, 3, 4, 5, 6), l(5), l(4), l(3), l(2), l(1), l(0)), 0, w(5, 4, 3, 2, 1)},
	{"the third of them", mesh(l(1, 2, 3, 4, 5, 6), l(5), l(4), l(3), l(2), l(1), l(0)), 2, w(6, 5, 3, 2, 1)},
	{"the last of them", mesh(l(1, 2, 3, 4, 5, 6), l(5), l(4), l(3), l(2), l(1), l(0)), 5, w(6, 5, 4, 3, 2)},
	{"all others get more", mesh(l(6), l(0), l(0), l(0), l(0)), 1, w(2, 2, 2)},
	{"another gets less", mesh(l(10, 6), l(0, 1), l(0), l(1)), 2, w(5, 5)},
	{"the one over all", mesh(l(2, 4, 6), l(1), l(0, 1, 2), l(0), l(2)), 1, w(4, 2, 6)},
}

func TestFewer(t *testing.T) {
	for _, c := range fewer {
		toldFewer(t, c.n, c.flow, c.rates, api.OK, c.name)
	}
}

// wider: links that take more, and the rates then.
var wider = []struct {
	name     string
	n        api.Net
	link, by int
	rates    []api.Frac
}{
	{"the only link", mesh(l(5), l(0)), 0, 1, w(6)},
	{"the only link, by nothing", mesh(l(5), l(0)), 0, 0, w(5)},
	{"from the least to the most", mesh(l(1), l(0)), 0, maxCap - 1, w(maxCap)},
	{"just to the most", mesh(l(999), l(0)), 0, 1, w(maxCap)},
	{"the most, by nothing", mesh(l(maxCap), l(0)), 0, 0, w(maxCap)},
	{"in parts", mesh(l(4), l(0), l(0), l(0)), 0, 1, fs(f(5, 3), f(5, 3), f(5, 3))},
	{"a link that none goes over", mesh(l(5, 7), l(0)), 1, 3, w(5)},
	{"the first of some", some(), 0, 4, w(4, 10, 20)},
	{"the second of some", some(), 1, 4, w(5, 5, 20)},
	{"the last of some", some(), 2, 4, w(4, 6, 24)},
	{"the first of some, to the most", some(), 0, 990, w(4, 996, 20)},
	{"the last of some, to the most", some(), 2, 980, w(4, 6, maxCap)},
	{"one gets less", mesh(l(2, 10), l(0, 1), l(1)), 0, 2, w(4, 6)},
	{"another link is narrow then", mesh(l(2, 4), l(0, 1)), 0, 9, w(4)},
	{"the last of as many as may be", mesh(l(1, 2, 3, 4, 5, 6), l(5), l(4), l(3), l(2), l(1), l(0)), 5, 100, w(106, 5, 4, 3, 2, 1)},
}

func TestWider(t *testing.T) {
	for _, c := range wider {
		toldWider(t, c.n, c.link, c.by, c.rates, api.OK, c.name)
	}
}

// TestWiderByNothing: the rates are as they are, at each link.
func TestWiderByNothing(t *testing.T) {
	for _, n := range sound {
		rates, err := fill.Rates(n)
		if err != nil {
			t.Fatal(n, err)
		}
		for link := range n.Caps {
			toldWider(t, n, link, 0, rates, api.OK, n, link)
		}
	}
}

// TestWiderUpToTheMost: each link takes as much as may be, and no more than that, however much more it would be.
func TestWiderUpToTheMost(t *testing.T) {
	for _, n := range sound {
		for link, takes := range n.Caps {
			most := whole(n)
			most.Caps[link] = maxCap
			toldWider(t, n, link, maxCap-takes, asked(most), api.OK, n, link, "to the most")
			for by := maxCap - takes + 1; by <= maxCap; by++ {
				toldWider(t, n, link, by, nil, api.ErrFull, n, link, by)
			}
		}
	}
}

// faulty: what chapter 2's Check refuses, and by which error. Those with several faults
// have, as far as they can, all of those that the document names later.
var faulty = []struct {
	name string
	n    api.Net
	want api.Errno
}{
	{"the zero value", api.Net{}, api.ErrNone},
	{"empty lists", api.Net{Caps: []int{}, Paths: [][]int{}}, api.ErrNone},
	{"no link", mesh(nil, l(0)), api.ErrNone},
	{"no flow", mesh(l(5)), api.ErrNone},
	{"an empty list of flows", api.Net{Caps: l(5), Paths: [][]int{}}, api.ErrNone},
	{"no link, and too many flows", mesh(nil, make([][]int, maxFlows+1)...), api.ErrNone},
	{"no flow, and too many links, that take nothing", mesh(make([]int, maxLinks+1)), api.ErrNone},

	{"too many links", mesh(slices.Repeat(l(1), maxLinks+1), l(0)), api.ErrFull},
	{"far too many links", mesh(slices.Repeat(l(1), 100_000), l(0)), api.ErrFull},
	{"too many flows", mesh(l(1), slices.Repeat(ls(l(0)), maxFlows+1)...), api.ErrFull},
	{"far too many flows", mesh(l(1), slices.Repeat(ls(l(0)), 10_000)...), api.ErrFull},
	{"too many links, that take nothing, and a wrong flow", mesh(make([]int, maxLinks+1), l(9, 9)), api.ErrFull},
	{"too many flows, over none, and a link that takes nothing", mesh(l(0), make([][]int, maxFlows+1)...), api.ErrFull},

	{"a link takes nothing", mesh(l(0), l(0)), api.ErrRange},
	{"a link takes nothing, others more", mesh(l(1, 0, 1), l(0), l(2)), api.ErrRange},
	{"a link takes less than nothing", mesh(l(-1, 5), l(1), l(1)), api.ErrRange},
	{"the last link takes too much", mesh(l(5, maxCap+1), l(0), l(0)), api.ErrRange},
	{"a link takes the least int", mesh(l(math.MinInt), l(0)), api.ErrRange},
	{"a link takes the greatest int", mesh(l(math.MaxInt), l(0)), api.ErrRange},
	{"a link takes nothing, and a flow goes over none", mesh(l(1, 0), l(0), nil), api.ErrRange},
	{"a link takes nothing, there are as many flows as may be", mesh(l(0), slices.Repeat(ls(l(0)), maxFlows)...), api.ErrRange},

	{"the only flow over none", mesh(l(5), nil), api.ErrNone},
	{"the only flow has an empty path", mesh(l(5), []int{}), api.ErrNone},
	{"the last flow over none", mesh(l(5), l(0), l(0), l(0), l(0), l(0), nil), api.ErrNone},
	{"a flow over none, a later one over none such", mesh(l(5), l(0), nil, l(1)), api.ErrNone},
	{"a flow over none, a later one twice over one", mesh(l(5), l(0), nil, l(0, 0)), api.ErrNone},

	{"a flow over the link behind the last", mesh(l(5), l(1)), api.ErrRange},
	{"a flow over link -1", mesh(l(5), l(0), l(-1)), api.ErrRange},
	{"a flow over the least int", mesh(l(5), l(math.MinInt)), api.ErrRange},
	{"a flow over the greatest int", mesh(l(5), l(math.MaxInt), l(0)), api.ErrRange},
	{"the last flow at last over none such", mesh(l(5, 5), l(0), l(1), l(0, 2)), api.ErrRange},
	{"over none such, and a later flow over none", mesh(l(5), l(1), nil), api.ErrRange},
	{"over none such, and a later flow twice over one", mesh(l(5), l(1), l(0, 0)), api.ErrRange},

	{"twice over one", mesh(l(5), l(0, 0)), api.ErrClash},
	{"the last flow twice over one, others between", mesh(l(5, 5, 5), l(0), l(1, 0, 2, 1)), api.ErrClash},
	{"twice over one, then none such", mesh(l(5), l(0, 0, 1)), api.ErrClash},
	{"twice over one, and a later flow over none", mesh(l(5), l(0, 0), nil), api.ErrClash},
	{"twice over one, and a later flow over none such", mesh(l(5), l(0, 0), l(1)), api.ErrClash},
	{"a path far too long", mesh(l(5), slices.Repeat(l(0), 10_000)), api.ErrClash},
}

// beyond: numbers that are those of no link and no flow, whatever the net.
var beyond = l(math.MinInt, math.MinInt+1, -maxCap-1, -maxCap, -1, 6, 7, maxCap, maxCap+1, 1<<31, 1<<32, math.MaxInt-1, math.MaxInt)

// wrongBy: by how much no link is wider.
var wrongBy = l(math.MinInt, math.MinInt+1, -1<<32, -maxCap, -1, maxCap+1, 1<<31, 1<<32, math.MaxInt-maxCap, math.MaxInt-1, math.MaxInt)

// TestCheckGoesFirst: what is wrong with the net is told, whatever else is wrong, or right.
func TestCheckGoesFirst(t *testing.T) {
	numbers := append(l(0, 1, 5), beyond...)
	for _, c := range faulty {
		for _, path := range ls(l(0), nil, []int{}, l(9), l(-1), l(0, 0), l(math.MinInt), l(math.MaxInt)) {
			toldMore(t, c.n, path, nil, c.want, c.name, path)
		}
		for _, i := range numbers {
			toldFewer(t, c.n, i, nil, c.want, c.name, i)
			for _, by := range append(l(0, 1, maxCap), wrongBy...) {
				// To look at all the memory of what is far too many each time would take too long.
				if got, err := grow.Wider(c.n, i, by); len(got) > 0 || plain.Told(err) != c.want {
					t.Errorf("Wider, %s, %d by %d: got %v, %v; want %v", c.name, i, by, got, err, c.want)
				}
			}
		}
		toldWider(t, c.n, 0, 1, nil, c.want, c.name)
	}
}

// wrongPaths: what is no path over some, and by which error.
var wrongPaths = []struct {
	name string
	path []int
	want api.Errno
}{
	{"over none: nil", nil, api.ErrNone},
	{"over none: empty", []int{}, api.ErrNone},
	{"over the link behind the last", l(3), api.ErrRange},
	{"over link -1", l(-1), api.ErrRange},
	{"over the least int", l(math.MinInt), api.ErrRange},
	{"over the greatest int", l(math.MaxInt), api.ErrRange},
	{"a later link is none such", l(0, 1, 3), api.ErrRange},
	{"a later link is -1", l(2, -1), api.ErrRange},
	{"a later link is the least int", l(2, math.MinInt), api.ErrRange},
	{"a later link is the greatest int", l(2, 0, math.MaxInt), api.ErrRange},
	{"twice over none such", l(3, 3), api.ErrRange},
	{"none such, then twice over one", l(0, -1, 0), api.ErrRange},
	{"twice over one", l(0, 0), api.ErrClash},
	{"twice over the last one", l(2, 2), api.ErrClash},
	{"twice over one, others between", l(2, 0, 1, 2), api.ErrClash},
	{"twice over one, then none such", l(0, 0, 3), api.ErrClash},
	{"a path far too long", slices.Repeat(l(0, 1, 2), 100_000), api.ErrClash},
}

func TestMoreOfAWrongPath(t *testing.T) {
	for _, c := range wrongPaths {
		toldMore(t, some(), c.path, nil, c.want, c.name)
	}
}

// TestMoreThanMayBe: of as many flows as may be there is no more, and that is told ahead of the path's faults.
func TestMoreThanMayBe(t *testing.T) {
	crowd := mesh(l(5, 6, 7), slices.Repeat(ls(l(0, 1)), maxFlows)...)
	for _, n := range []api.Net{crowd, full()} {
		for _, path := range ls(l(0), l(2), l(2, 1, 0)) {
			toldMore(t, n, path, nil, api.ErrFull, "a right path", path)
		}
		for _, c := range wrongPaths {
			toldMore(t, n, c.path, nil, api.ErrFull, c.name)
		}
	}
}

// TestFewerOfNoSuchFlow: it is told also of a net with one flow, of which that one can't go.
func TestFewerOfNoSuchFlow(t *testing.T) {
	for _, n := range sound {
		for _, flow := range append(l(len(n.Paths)), beyond...) {
			toldFewer(t, n, flow, nil, api.ErrRange, n, flow)
		}
		if len(n.Paths) == 1 {
			toldFewer(t, n, 0, nil, api.ErrNone, n, "the only flow")
		}
	}
}

// TestWiderOfNoSuchLink: it is told whatever by is, also with more flows than the link's number.
func TestWiderOfNoSuchLink(t *testing.T) {
	for _, n := range sound {
		for _, link := range append(l(len(n.Caps)), beyond...) {
			for _, by := range append(l(0, 1, maxCap), wrongBy...) {
				toldWider(t, n, link, by, nil, api.ErrRange, n, link, by)
			}
		}
	}
}

// TestWiderByNoSuchNumber: ErrRange it is also where the link would take more than may be, or where it could take no more.
func TestWiderByNoSuchNumber(t *testing.T) {
	for _, n := range append(slices.Clone(sound), mesh(l(maxCap, 1), l(0, 1))) {
		for link := range n.Caps {
			for _, by := range wrongBy {
				toldWider(t, n, link, by, nil, api.ErrRange, n, link, by)
			}
		}
	}
}

// TestWiderByTooMuch: from 0 to the most it is ErrFull, and not ErrRange.
func TestWiderByTooMuch(t *testing.T) {
	for _, c := range []struct{ takes, by int }{
		{1, maxCap}, {2, 999}, {500, 501}, {999, 2}, {maxCap, 1}, {maxCap, maxCap}, {500, maxCap}, {maxCap, 999},
	} {
		toldWider(t, mesh(l(c.takes), l(0)), 0, c.by, nil, api.ErrFull, c)
		toldWider(t, mesh(l(3, c.takes, 4), l(2, 0)), 1, c.by, nil, api.ErrFull, c, "none goes over it")
	}
}

// roomy gives a copy with something hidden behind its length, so that an append there would be seen.
func roomy[T any](list []T, hidden T) []T {
	return append(slices.Clone(list), hidden, hidden, hidden)[:len(list)]
}

// roomyNet hides what would change the answer, were it read: links that take 1, flows over link 0.
func roomyNet(n api.Net) api.Net {
	paths := roomy(n.Paths, l(0))
	for i, path := range paths {
		paths[i] = roomy(path, 0)
	}
	return api.Net{Caps: roomy(n.Caps, 1), Paths: paths}
}

// TestBehindTheLength: what lies there makes no difference to an answer, and is not written into, also with an error.
func TestBehindTheLength(t *testing.T) {
	for _, c := range more {
		toldMore(t, roomyNet(c.n), roomy(c.path, 0), c.rates, api.OK, c.name)
	}
	for _, c := range wrongPaths {
		toldMore(t, roomyNet(some()), roomy(c.path, 0), nil, c.want, c.name)
		toldMore(t, roomyNet(full()), roomy(c.path, 0), nil, api.ErrFull, c.name)
	}
	for _, c := range fewer {
		toldFewer(t, roomyNet(c.n), c.flow, c.rates, api.OK, c.name)
		toldFewer(t, roomyNet(c.n), len(c.n.Paths), nil, api.ErrRange, c.name)
	}
	toldFewer(t, roomyNet(mesh(l(5), l(0))), 0, nil, api.ErrNone, "the only flow")
	for _, c := range wider {
		toldWider(t, roomyNet(c.n), c.link, c.by, c.rates, api.OK, c.name)
		toldWider(t, roomyNet(c.n), len(c.n.Caps), c.by, nil, api.ErrRange, c.name)
		toldWider(t, roomyNet(c.n), c.link, maxCap, nil, api.ErrFull, c.name)
	}
	for _, c := range faulty {
		toldMore(t, roomyNet(c.n), roomy(l(0), 0), nil, c.want, c.name)
		toldFewer(t, roomyNet(c.n), 0, nil, c.want, c.name)
		toldWider(t, roomyNet(c.n), 0, 1, nil, c.want, c.name)
	}
}

// filled gives every place of a list that value, up to its capacity.
func filled[T any](list []T, value T) {
	for i := range list[:cap(list)] {
		list[:cap(list)][i] = value
	}
}

// fresh checks that what is written into the rates of one call changes neither those of another nor what was handed
// in, and that what is then written into what was handed in changes no rates.
func fresh(t *testing.T, name string, in api.Net, path []int, rates []api.Frac, call func() ([]api.Frac, error)) {
	t.Helper()
	was, went := whole(in), slices.Clone(path[:cap(path)])
	first, err := call()
	second, bad := call()
	if err != nil || bad != nil {
		t.Fatal(name, err, bad)
	}
	filled(first, f(-7, -7))
	if !slices.Equal(second, rates) {
		t.Errorf("%s: the rates of two calls share memory", name)
	}
	if !reflect.DeepEqual(whole(in), was) || !slices.Equal(path[:cap(path)], went) {
		t.Errorf("%s: the rates share memory with what was handed in", name)
	}
	third, ill := call()
	if ill != nil || !slices.Equal(third, rates) {
		t.Errorf("%s: got %v, %v once the rates were written into; want %v", name, third, ill, rates)
	}
	filled(path, 3)
	filled(in.Caps, 3)
	for _, list := range in.Paths {
		filled(list, 3)
	}
	if !slices.Equal(second, rates) || !slices.Equal(third, rates) {
		t.Errorf("%s: got %v and %v, once the net is another", name, second, third)
	}
}

func TestAnswersAreFresh(t *testing.T) {
	for _, c := range more {
		in, path := roomyNet(c.n), roomy(c.path, 0)
		fresh(t, "More, "+c.name, in, path, c.rates, func() ([]api.Frac, error) { return grow.More(in, path) })
	}
	for _, c := range fewer {
		in := roomyNet(c.n)
		fresh(t, "Fewer, "+c.name, in, nil, c.rates, func() ([]api.Frac, error) { return grow.Fewer(in, c.flow) })
	}
	for _, c := range wider {
		in := roomyNet(c.n)
		fresh(t, "Wider, "+c.name, in, nil, c.rates, func() ([]api.Frac, error) { return grow.Wider(in, c.link, c.by) })
	}
}

// TestOfOneMemory: lists that are handed in may share memory, and stay as they are.
func TestOfOneMemory(t *testing.T) {
	path := l(1, 0)
	n := mesh(l(6, 4, 9), path, l(2), path[:1], path)
	toldMore(t, n, path, fs(f(1, 1), f(9, 1), f(1, 1), f(1, 1), f(1, 1)), api.OK, "a path of the net")
	toldFewer(t, n, 2, w(2, 9, 2), api.OK, "a part of another path")
	toldWider(t, n, 1, 2, fs(f(2, 1), f(9, 1), f(2, 1), f(2, 1)), api.OK, "paths that share memory")

	all := l(1, 2, 3, 4)
	odd := mesh(all, all[:2], all[2:3])
	toldMore(t, odd, all[1:3], fs(f(3, 2), f(5, 2), f(3, 2)), api.OK, "links, and paths, of one list")
	toldFewer(t, odd, 0, w(4), api.OK, "links, and paths, of one list")
	toldWider(t, odd, 1, 5, w(3, 4), api.OK, "links, and paths, of one list")
}

// TestErrorsAreNumbers: an error can be asked by errors.Is and is never OK, and none is a plain nil.
func TestErrorsAreNumbers(t *testing.T) {
	if rates, err := grow.More(some(), l(0, 0)); rates != nil || !errors.Is(err, api.ErrClash) || errors.Is(err, api.OK) {
		t.Errorf("got %v, %v; want ErrClash", rates, err)
	}
	if rates, err := grow.Fewer(some(), 3); rates != nil || !errors.Is(err, api.ErrRange) || errors.Is(err, api.OK) {
		t.Errorf("got %v, %v; want ErrRange", rates, err)
	}
	if rates, err := grow.Wider(some(), 0, maxCap); rates != nil || !errors.Is(err, api.ErrFull) || errors.Is(err, api.OK) {
		t.Errorf("got %v, %v; want ErrFull", rates, err)
	}
	_, err := grow.More(some(), l(0))
	_, bad := grow.Fewer(some(), 0)
	_, ill := grow.Wider(some(), 0, 1)
	if err != nil || bad != nil || ill != nil {
		t.Errorf("got %v, %v, %v; want nil", err, bad, ill)
	}
}

func rat(a api.Frac) *big.Rat { return big.NewRat(int64(a.Top), int64(a.Bottom)) }

func frac(r *big.Rat) api.Frac { return f(int(r.Num().Int64()), int(r.Denom().Int64())) }

// asked is what the document's words ask of a net that is right, in exact numbers.
func asked(n api.Net) (rates []api.Frac) {
	had := make([]*big.Rat, len(n.Paths)) // nil while a flow is free
	for slices.Contains(had, nil) {
		shares := make([]*big.Rat, len(n.Caps)) // nil of a link without a free flow
		var least *big.Rat
		for link, takes := range n.Caps {
			rest, free := rat(f(takes, 1)), 0
			for flow, path := range n.Paths {
				switch {
				case !slices.Contains(path, link):
				case had[flow] == nil:
					free++
				default:
					rest.Sub(rest, had[flow])
				}
			}
			if free == 0 {
				continue
			}
			shares[link] = rest.Quo(rest, rat(f(free, 1)))
			if least == nil || rest.Cmp(least) < 0 {
				least = rest
			}
		}
		over := func(link int) bool { return shares[link] != nil && shares[link].Cmp(least) == 0 }
		for flow, path := range n.Paths {
			if had[flow] == nil && slices.ContainsFunc(path, over) {
				had[flow] = least
			}
		}
	}
	for _, a := range had {
		rates = append(rates, frac(a))
	}
	return rates
}

// askedMore, of a net that is right.
func askedMore(n api.Net, path []int) ([]api.Frac, api.Errno) {
	if len(n.Paths) == maxFlows {
		return nil, api.ErrFull
	}
	if len(path) == 0 {
		return nil, api.ErrNone
	}
	seen := map[int]bool{}
	for _, link := range path {
		if link < 0 || link >= len(n.Caps) {
			return nil, api.ErrRange
		}
		if seen[link] {
			return nil, api.ErrClash
		}
		seen[link] = true
	}
	return asked(mesh(n.Caps, append(slices.Clone(n.Paths), path)...)), api.OK
}

// askedFewer, of a net that is right.
func askedFewer(n api.Net, flow int) ([]api.Frac, api.Errno) {
	if flow < 0 || flow >= len(n.Paths) {
		return nil, api.ErrRange
	}
	if len(n.Paths) == 1 {
		return nil, api.ErrNone
	}
	return asked(mesh(n.Caps, slices.Concat(n.Paths[:flow], n.Paths[flow+1:])...)), api.OK
}

// askedWider, of a net that is right.
func askedWider(n api.Net, link, by int) ([]api.Frac, api.Errno) {
	if link < 0 || link >= len(n.Caps) || by < 0 || by > maxCap {
		return nil, api.ErrRange
	}
	if n.Caps[link] > maxCap-by {
		return nil, api.ErrFull
	}
	caps := slices.Clone(n.Caps)
	caps[link] += by
	return asked(mesh(caps, n.Paths...)), api.OK
}

// least of some rates.
func least(rates []api.Frac) *big.Rat {
	return rat(slices.MinFunc(rates, func(a, b api.Frac) int { return rat(a).Cmp(rat(b)) }))
}

// weakest: one more helps not the weakest; that one goes, or that a link is wider, hurts it not.
func weakest(t *testing.T, n api.Net, path []int, flow, link, by int) {
	t.Helper()
	now := least(asked(n))
	if rates, err := grow.More(n, path); err == nil && least(rates).Cmp(now) > 0 {
		t.Errorf("More, %v, %v: the least of %v is above %v", n, path, rates, now)
	}
	if rates, err := grow.Fewer(n, flow); err == nil && least(rates).Cmp(now) < 0 {
		t.Errorf("Fewer, %v, %d: the least of %v is below %v", n, flow, rates, now)
	}
	if rates, err := grow.Wider(n, link, by); err == nil && least(rates).Cmp(now) < 0 {
		t.Errorf("Wider, %v, %d by %d: the least of %v is below %v", n, link, by, rates, now)
	}
}

// TestAllSmallNets goes over all nets of two links, of some widths, with up to three flows, and many calls on each.
func TestAllSmallNets(t *testing.T) {
	ways := ls(l(0), l(1), l(1, 0))
	paths := append(slices.Clone(ways), nil, l(0, 1), l(2), l(-1), l(0, 0), l(0, 2, 0), l(1, 0, 1))
	for _, caps := range ls(l(1, 1), l(3, 2), l(2, 7), l(maxCap, 1), l(999, maxCap)) {
		for _, a := range ways {
			everyCall(t, mesh(caps, a), paths)
			for _, b := range ways {
				everyCall(t, mesh(caps, a, b), paths)
				for _, c := range ways {
					everyCall(t, mesh(caps, a, b, c), paths)
				}
			}
		}
	}
}

func everyCall(t *testing.T, n api.Net, paths [][]int) {
	t.Helper()
	for _, path := range paths {
		rates, no := askedMore(n, path)
		toldMore(t, n, path, rates, no, n, path)
	}
	for flow := -1; flow <= len(n.Paths); flow++ {
		rates, no := askedFewer(n, flow)
		toldFewer(t, n, flow, rates, no, n, flow)
	}
	for link := -1; link <= len(n.Caps); link++ {
		for _, by := range l(-1, 0, 1, 2, 5, 998, 999, maxCap, maxCap+1) {
			rates, no := askedWider(n, link, by)
			toldWider(t, n, link, by, rates, no, n, link, by)
		}
	}
}

// numbers gives numbers below a bound, always the same ones, in an order that looks like none.
func numbers() func(below int) int {
	state := uint64(18)
	return func(below int) int {
		state = state*6364136223846793005 + 1442695040888963407
		return int((state >> 33) % uint64(below))
	}
}

// somePath gives a path over some of the links, in an order that looks like none.
func somePath(next func(int) int, links int) []int {
	path := l(0, 1, 2, 3, 4, 5)[:links]
	for i := range path {
		k := i + next(links-i)
		path[i], path[k] = path[k], path[i]
	}
	return path[:1+next(links)]
}

// someNet has narrow links, wide ones, or both.
func someNet(next func(int) int) api.Net {
	var n api.Net
	for range 1 + next(maxLinks) {
		most := l(3, 20, maxCap)[next(3)]
		n.Caps = append(n.Caps, 1+next(most))
	}
	for range 1 + next(maxFlows) {
		n.Paths = append(n.Paths, somePath(next, len(n.Caps)))
	}
	return n
}

// TestManyNets holds the calls against what the words ask, and against what must be true of the weakest.
func TestManyNets(t *testing.T) {
	next := numbers()
	for range 4_000 {
		n := someNet(next)
		path := somePath(next, len(n.Caps))
		if next(4) == 0 {
			path[next(len(path))] = next(maxLinks+3) - 1
		}
		flow, link := next(len(n.Paths)+2)-1, next(len(n.Caps)+2)-1
		by := next(l(4, 30, maxCap+3)[next(3)]) - 1
		rates, no := askedMore(n, path)
		toldMore(t, n, path, rates, no, n, path)
		rates, no = askedFewer(n, flow)
		toldFewer(t, n, flow, rates, no, n, flow)
		rates, no = askedWider(n, link, by)
		toldWider(t, n, link, by, rates, no, n, link, by)
		weakest(t, n, path, flow, link, by)
	}
}

// TestAsTheLayersSay: the rates are those of chapter 4, of the net that chapter 2 makes, and so are the errors.
func TestAsTheLayersSay(t *testing.T) {
	for _, n := range sound {
		for i := -1; i <= maxFlows; i++ {
			toldAsNet(t, n, i)
		}
	}
	for _, c := range faulty {
		toldAsNet(t, c.n, 0)
	}
}

func toldAsNet(t *testing.T, n api.Net, i int) {
	t.Helper()
	ratesOf := func(made api.Net, err error) ([]api.Frac, api.Errno) {
		if err != nil {
			return nil, plain.Told(err)
		}
		rates, err := fill.Rates(made)
		return rates, plain.Told(err)
	}
	for _, path := range ls(l(i), l(0, i), nil) {
		rates, no := ratesOf(net.Add(n, path))
		toldMore(t, n, path, rates, no, n, path)
	}
	rates, no := ratesOf(net.Drop(n, i))
	toldFewer(t, n, i, rates, no, n, i)
}

// TestThereAndBack: the rates of one more, without that one, are as they were.
func TestThereAndBack(t *testing.T) {
	for _, n := range sound {
		if len(n.Paths) == maxFlows {
			continue
		}
		added, err := net.Add(n, l(0))
		if err != nil {
			t.Fatal(n, err)
		}
		toldFewer(t, added, len(n.Paths), asked(n), api.OK, added)
	}
}
