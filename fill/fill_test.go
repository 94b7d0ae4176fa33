package fill_test

import (
	"errors"
	"math"
	"math/big"
	"reflect"
	"slices"
	"testing"

	"fairsluice/api"
	"fairsluice/fill"
	"fairsluice/plain"
)

const (
	maxLinks = 6
	maxFlows = 6
	maxCap   = 1_000
)

func f(top, bottom int) api.Frac { return api.Frac{Top: top, Bottom: bottom} }

func fs(list ...api.Frac) []api.Frac { return list }

func l(list ...int) []int { return list }

func ls(lists ...[]int) [][]int { return lists }

func mesh(caps []int, paths ...[]int) api.Net { return api.Net{Caps: caps, Paths: paths} }

// told checks what both calls answer of a net, and that the net is then as it was, behind the lengths of its
// lists, too. It does so each time: of a net that an earlier call had sorted, say, a later one would leave no trace.
func told(t *testing.T, n api.Net, rates []api.Frac, rounds [][]int, no api.Errno, name ...any) {
	t.Helper()
	was := whole(n)
	got, err := fill.Rates(n)
	if !slices.Equal(got, rates) || plain.Told(err) != no {
		t.Errorf("Rates, %v: got %v, %v; want %v, %v", name, got, err, rates, no)
	}
	held, err := fill.Rounds(n)
	if !sameRounds(held, rounds) || plain.Told(err) != no {
		t.Errorf("Rounds, %v: got %v, %v; want %v, %v", name, held, err, rounds, no)
	}
	if !reflect.DeepEqual(whole(n), was) {
		t.Errorf("%v: the net was %v, and is %v", name, was, whole(n))
	}
}

func sameRounds(a, b [][]int) bool { return slices.EqualFunc(a, b, slices.Equal[[]int]) }

func TestBoundsAreTheDocuments(t *testing.T) {
	if api.MaxLinks != maxLinks || api.MaxFlows != maxFlows || api.MaxCap != maxCap {
		t.Error("a bound of package api is not the document's")
	}
}

// right: nets of which no call tells an error.
var right = []struct {
	name   string
	n      api.Net
	rates  []api.Frac
	rounds [][]int
}{
	{"one flow over one link", mesh(l(5), l(0)), fs(f(5, 1)), ls(l(0))},
	{"the narrowest link that may be", mesh(l(1), l(0)), fs(f(1, 1)), ls(l(0))},
	{"the widest link that may be", mesh(l(maxCap), l(0)), fs(f(maxCap, 1)), ls(l(0))},
	{"two flows over one link", mesh(l(6), l(0), l(0)), fs(f(3, 1), f(3, 1)), ls(l(0, 1))},
	{"as many flows as may be over one link", mesh(l(12), l(0), l(0), l(0), l(0), l(0), l(0)),
		slices.Repeat(fs(f(2, 1)), 6), ls(l(0, 1, 2, 3, 4, 5))},

	{"a share that is no whole number", mesh(l(5), l(0), l(0)), fs(f(5, 2), f(5, 2)), ls(l(0, 1))},
	{"the least share that may be", mesh(l(1), l(0), l(0), l(0), l(0), l(0), l(0)),
		slices.Repeat(fs(f(1, 6)), 6), ls(l(0, 1, 2, 3, 4, 5))},
	{"the widest link in parts", mesh(l(maxCap), l(0), l(0), l(0), l(0), l(0), l(0)),
		slices.Repeat(fs(f(500, 3)), 6), ls(l(0, 1, 2, 3, 4, 5))},
	{"a share that comes to lower terms", mesh(l(9), l(0), l(0), l(0), l(0), l(0), l(0)),
		slices.Repeat(fs(f(3, 2)), 6), ls(l(0, 1, 2, 3, 4, 5))},

	{"narrow links that no flow goes over", mesh(l(1, 17, 1), l(1)), fs(f(17, 1)), ls(l(0))},
	{"the last link alone", mesh(l(3, 4, 5, 6, 7, 8), l(5)), fs(f(8, 1)), ls(l(0))},
	{"a link that no flow goes over, between others", mesh(l(8, 1, 6), l(0), l(2)), fs(f(8, 1), f(6, 1)), ls(l(1), l(0))},

	{"over several links the least counts", mesh(l(9, 4, 7), l(0, 1, 2)), fs(f(4, 1)), ls(l(0))},
	{"the least at the beginning of the path", mesh(l(9, 4, 7), l(1, 0, 2)), fs(f(4, 1)), ls(l(0))},
	{"the least at the end of the path", mesh(l(9, 7, 4), l(1, 0, 2)), fs(f(4, 1)), ls(l(0))},
	{"not the narrowest link, but the least share", mesh(l(3, 4), l(0), l(1), l(1)), fs(f(3, 1), f(2, 1), f(2, 1)), ls(l(1, 2), l(0))},

	{"two links of the same least share", mesh(l(4, 2), l(0), l(0), l(1)), fs(f(2, 1), f(2, 1), f(2, 1)), ls(l(0, 1, 2))},
	{"the same least share, and a wider link between", mesh(l(4, 9, 2), l(0), l(1), l(2), l(0)),
		fs(f(2, 1), f(9, 1), f(2, 1), f(2, 1)), ls(l(0, 2, 3), l(1))},
	{"the same least share of other parts", mesh(l(1, 2), l(0), l(0), l(1), l(1), l(1), l(1)),
		slices.Repeat(fs(f(1, 2)), 6), ls(l(0, 1, 2, 3, 4, 5))},
	{"all links have the same share", mesh(l(7, 7, 7, 7, 7, 7), l(5), l(4), l(3), l(2), l(1), l(0)),
		slices.Repeat(fs(f(7, 1)), 6), ls(l(0, 1, 2, 3, 4, 5))},
	{"over several least ones", mesh(l(2, 2), l(0, 1), l(0), l(1)), fs(f(1, 1), f(1, 1), f(1, 1)), ls(l(0, 1, 2))},
	{"over several least ones, in another order", mesh(l(2, 9, 2), l(1), l(2, 1, 0), l(0), l(2)),
		fs(f(8, 1), f(1, 1), f(1, 1), f(1, 1)), ls(l(1, 2, 3), l(0))},
	{"over all that are least", mesh(l(3, 3, 3, 3, 3, 3), l(3, 0, 1, 5, 2, 4)), fs(f(3, 1)), ls(l(0))},
	{"the same least share in a later round", mesh(l(2, 5, 4), l(0), l(0, 1), l(1), l(2)),
		fs(f(1, 1), f(1, 1), f(4, 1), f(4, 1)), ls(l(0, 1), l(2, 3))},

	{"what was taken is taken away", mesh(l(10, 4), l(0), l(0, 1), l(1)), fs(f(8, 1), f(2, 1), f(2, 1)), ls(l(1, 2), l(0))},
	{"what several took is taken away", mesh(l(10, 6), l(0, 1), l(0), l(1, 0), l(1)),
		fs(f(2, 1), f(6, 1), f(2, 1), f(2, 1)), ls(l(0, 2, 3), l(1))},
	{"what flows of two rounds took is taken away", mesh(l(20, 1, 5), l(0, 1), l(2, 0), l(0)),
		fs(f(1, 1), f(5, 1), f(14, 1)), ls(l(0), l(1), l(2))},
	{"what was taken elsewhere is not", mesh(l(10, 4), l(0), l(1), l(1)), fs(f(10, 1), f(2, 1), f(2, 1)), ls(l(1, 2), l(0))},
	{"a later round turns the order", mesh(l(10, 8, 1), l(0, 2), l(2, 0), l(0), l(1), l(1)),
		fs(f(1, 2), f(1, 2), f(9, 1), f(4, 1), f(4, 1)), ls(l(0, 1), l(3, 4), l(2))},
	{"one over all, and one over each", mesh(l(2, 4, 6, 8, 10), l(0, 1, 2, 3, 4), l(0), l(1), l(2), l(3), l(4)),
		fs(f(1, 1), f(1, 1), f(3, 1), f(5, 1), f(7, 1), f(9, 1)), ls(l(0, 1), l(2), l(3), l(4), l(5))},
	{"as many rounds as may be", mesh(l(1, 2, 3, 4, 5, 6), l(5), l(4), l(3), l(2), l(1), l(0)),
		fs(f(6, 1), f(5, 1), f(4, 1), f(3, 1), f(2, 1), f(1, 1)), ls(l(5), l(4), l(3), l(2), l(1), l(0))},
	{"a round whose flows stand apart", mesh(l(3, 9), l(0), l(1), l(0, 1), l(1), l(0)),
		fs(f(1, 1), f(4, 1), f(1, 1), f(4, 1), f(1, 1)), ls(l(0, 2, 4), l(1, 3))},

	{"parts of parts", mesh(l(1, 2), l(0), l(0), l(0, 1), l(1), l(1), l(1)),
		fs(f(1, 3), f(1, 3), f(1, 3), f(5, 9), f(5, 9), f(5, 9)), ls(l(0, 1, 2), l(3, 4, 5))},
	{"parts of parts of parts", mesh(l(1, 2, 3), l(0), l(0, 1), l(1), l(1, 2), l(2), l(2)),
		fs(f(1, 2), f(1, 2), f(3, 4), f(3, 4), f(9, 8), f(9, 8)), ls(l(0, 1), l(2, 3), l(4, 5))},
	{"parts that come to whole numbers again", mesh(l(1, 4), l(0, 1), l(0, 1), l(1)), fs(f(1, 2), f(1, 2), f(3, 1)), ls(l(0, 1), l(2))},
	{"shares that differ by little", mesh(l(999, maxCap), l(1), l(1), l(1), l(0), l(0), l(0)),
		fs(f(1000, 3), f(1000, 3), f(1000, 3), f(333, 1), f(333, 1), f(333, 1)), ls(l(3, 4, 5), l(0, 1, 2))},

	{"all flows over all links", mesh(l(8, 7, 3, 6, 5, 4), l(0, 1, 2, 3, 4, 5), l(5, 4, 3, 2, 1, 0), l(0, 1, 2, 3, 4, 5),
		l(0, 2, 4, 1, 3, 5), l(1, 0, 3, 2, 5, 4), l(0, 1, 2, 3, 4, 5)), slices.Repeat(fs(f(1, 2)), 6), ls(l(0, 1, 2, 3, 4, 5))},
}

func TestRight(t *testing.T) {
	for _, c := range right {
		told(t, c.n, c.rates, c.rounds, api.OK, c.name)
	}
}

// TestOneLink: at all that a link may take, and all numbers of flows, all get the same part.
func TestOneLink(t *testing.T) {
	for takes := 1; takes <= maxCap; takes++ {
		for flows := 1; flows <= maxFlows; flows++ {
			part := big.NewRat(int64(takes), int64(flows))
			n := mesh(l(takes), slices.Repeat(ls(l(0)), flows)...)
			told(t, n, slices.Repeat(fs(frac(part)), flows), ls(l(0, 1, 2, 3, 4, 5)[:flows]), api.OK, takes, flows)
		}
	}
}

// faulty: what chapter 2's Check refuses, and by which error. Those with several faults
// have, as far as they can, all of those that the document names later.
var faulty = []struct {
	name string
	n    api.Net
	want api.Errno
}{
	{"the zero value", api.Net{}, api.ErrNone},
	{"empty lists", api.Net{Caps: []int{}, Paths: [][]int{}}, api.ErrNone},
	{"no link", mesh(nil, l(0)), api.ErrNone},
	{"an empty list of links", mesh([]int{}, l(0)), api.ErrNone},
	{"no flow", mesh(l(5)), api.ErrNone},
	{"an empty list of flows", api.Net{Caps: l(5), Paths: [][]int{}}, api.ErrNone},
	{"no link, and too many flows", mesh(nil, make([][]int, maxFlows+1)...), api.ErrNone},
	{"no flow, and too many links, that take nothing", mesh(make([]int, maxLinks+1)), api.ErrNone},
	{"no link, and a flow twice over none such", mesh(nil, l(9, 9)), api.ErrNone},

	{"too many links", mesh(slices.Repeat(l(1), maxLinks+1), l(0)), api.ErrFull},
	{"far too many links", mesh(slices.Repeat(l(1), 1_000_000), l(0)), api.ErrFull},
	{"too many flows", mesh(l(1), slices.Repeat(ls(l(0)), maxFlows+1)...), api.ErrFull},
	{"far too many flows", mesh(l(1), slices.Repeat(ls(l(0)), 1_000_000)...), api.ErrFull},
	{"too many links, that take nothing, and a wrong flow", mesh(make([]int, maxLinks+1), l(9, 9)), api.ErrFull},
	{"too many flows, over none, and a link that takes nothing", mesh(l(0), make([][]int, maxFlows+1)...), api.ErrFull},

	{"a link takes nothing", mesh(l(0), l(0)), api.ErrRange},
	{"a link takes less than nothing", mesh(l(-1), l(0)), api.ErrRange},
	{"a link takes too much", mesh(l(maxCap+1), l(0)), api.ErrRange},
	{"a link takes the least int", mesh(l(math.MinInt), l(0)), api.ErrRange},
	{"a link takes the greatest int", mesh(l(math.MaxInt), l(0)), api.ErrRange},
	{"the last link takes nothing, and no flow goes over it", mesh(l(1, 1, 0), l(0)), api.ErrRange},
	{"a middle link takes too much, and no flow goes over it", mesh(l(1, maxCap+1, 1), l(0)), api.ErrRange},
	{"a link takes nothing, and a flow goes over none", mesh(l(1, 0), nil), api.ErrRange},
	{"a link takes nothing, and a flow goes twice over one", mesh(l(1, 0), l(0, 0)), api.ErrRange},

	{"the only flow over none", mesh(l(5), nil), api.ErrNone},
	{"the only flow has an empty path", mesh(l(5), []int{}), api.ErrNone},
	{"the last flow over none", mesh(l(5), l(0), l(0), l(0), l(0), l(0), nil), api.ErrNone},
	{"a flow over none, a later one over none such", mesh(l(5), l(0), nil, l(1)), api.ErrNone},
	{"a flow over none, a later one twice over one", mesh(l(5), l(0), nil, l(0, 0)), api.ErrNone},

	{"a flow over the link behind the last", mesh(l(5), l(1)), api.ErrRange},
	{"a flow over link -1", mesh(l(5), l(-1)), api.ErrRange},
	{"a flow over the least int", mesh(l(5), l(math.MinInt)), api.ErrRange},
	{"a flow over the greatest int", mesh(l(5), l(math.MaxInt)), api.ErrRange},
	{"the last flow at last over none such", mesh(l(5, 5), l(0), l(1), l(0, 2)), api.ErrRange},
	{"twice over none such", mesh(l(5), l(1, 1)), api.ErrRange},
	{"over none such, then twice over one", mesh(l(5, 5), l(0, 2, 0)), api.ErrRange},
	{"over none such, and a later flow over none", mesh(l(5), l(1), nil), api.ErrRange},
	{"over none such, and a later flow twice over one", mesh(l(5), l(1), l(0, 0)), api.ErrRange},

	{"twice over one", mesh(l(5), l(0, 0)), api.ErrClash},
	{"the last flow twice over one, others between", mesh(l(5, 5, 5), l(0), l(1, 0, 2, 1)), api.ErrClash},
	{"over all, and once more", mesh(l(1, 1, 1, 1, 1, 1), l(0, 1, 2, 3, 4, 5, 3)), api.ErrClash},
	{"twice over one, then none such", mesh(l(5), l(0, 0, 1)), api.ErrClash},
	{"twice over one, and a later flow over none", mesh(l(5), l(0, 0), nil), api.ErrClash},
	{"twice over one, and a later flow over none such", mesh(l(5), l(0, 0), l(1)), api.ErrClash},
	{"a path far too long", mesh(l(5), slices.Repeat(l(0), 1_000_000)), api.ErrClash},
}

func TestFaults(t *testing.T) {
	for _, c := range faulty {
		told(t, c.n, nil, nil, c.want, c.name)
	}
}

// TestNumbersBeyond: at no number beyond the bounds, at any place of a net, is there a panic, or another error.
func TestNumbersBeyond(t *testing.T) {
	beyond := l(math.MinInt, math.MinInt+1, -1<<32, -maxCap, -1, maxCap+1, 1<<31, 1<<32, math.MaxInt-1, math.MaxInt)
	for _, c := range right {
		for _, x := range beyond {
			for link := range c.n.Caps {
				n := whole(c.n)
				n.Caps[link] = x
				told(t, n, nil, nil, api.ErrRange, c.name, "link", link, x)
			}
			for flow, path := range c.n.Paths {
				for i := range path {
					n := whole(c.n)
					n.Paths[flow][i] = x
					told(t, n, nil, nil, api.ErrRange, c.name, "flow", flow, i, x)
				}
			}
		}
	}
}

// roomy gives a copy with something hidden behind its length, so that an append there would be seen.
func roomy[T any](list []T, hidden T) []T {
	return append(slices.Clone(list), hidden, hidden, hidden)[:len(list)]
}

// roomyNet hides what would change the answer, were it read: links that take 1, flows over link 0.
func roomyNet(n api.Net) api.Net {
	paths := roomy(n.Paths, l(0))
	for i, path := range paths {
		paths[i] = roomy(path, 0)
	}
	return api.Net{Caps: roomy(n.Caps, 1), Paths: paths}
}

// whole copies all the memory of a net, also what lies behind lengths.
func whole(n api.Net) api.Net {
	paths := slices.Clone(n.Paths[:cap(n.Paths)])
	for i, path := range paths {
		paths[i] = slices.Clone(path[:cap(path)])
	}
	return api.Net{Caps: slices.Clone(n.Caps[:cap(n.Caps)]), Paths: paths}
}

// TestBehindTheLength: what lies there makes no difference to an answer, and is not written into, also with an error.
func TestBehindTheLength(t *testing.T) {
	for _, c := range right {
		told(t, roomyNet(c.n), c.rates, c.rounds, api.OK, c.name)
	}
	for _, c := range faulty {
		told(t, roomyNet(c.n), nil, nil, c.want, c.name)
	}
}

// filled gives every place of a list that value, up to its capacity.
func filled[T any](list []T, value T) {
	for i := range list[:cap(list)] {
		list[:cap(list)][i] = value
	}
}

// TestAnswersAreFresh: no two lists share memory, of those that come out of two calls and those handed in.
func TestAnswersAreFresh(t *testing.T) {
	for _, c := range right {
		in := roomyNet(c.n)
		rates, err := fill.Rates(in)
		again, bad := fill.Rates(in)
		first, no := fill.Rounds(in)
		second, ill := fill.Rounds(in)
		if err != nil || bad != nil || no != nil || ill != nil {
			t.Fatal(c.name, err, bad, no, ill)
		}
		filled(rates, f(-7, -7))
		if !slices.Equal(again, c.rates) {
			t.Errorf("%s: the rates of two calls share memory", c.name)
		}
		lists := slices.Concat(first, second, in.Paths, ls(in.Caps))
		for i, list := range lists {
			filled(list, i)
		}
		for i, list := range lists {
			if slices.ContainsFunc(list[:cap(list)], func(x int) bool { return x != i }) {
				t.Errorf("%s: list %d shares memory with another", c.name, i)
			}
		}
		filled(first, nil)
		if slices.ContainsFunc(slices.Concat(second, in.Paths), func(list []int) bool { return list == nil }) {
			t.Errorf("%s: the list of rounds shares memory with another", c.name)
		}
	}
}

// TestOfOneMemory: also where paths that are handed in share memory, the rounds that come out do not.
func TestOfOneMemory(t *testing.T) {
	path := l(1, 0)
	n := api.Net{Caps: l(5, 4, 9), Paths: ls(path, l(2), path[:1], path)}
	told(t, n, fs(f(4, 3), f(9, 1), f(4, 3), f(4, 3)), ls(l(0, 2, 3), l(1)), api.OK, "paths that share memory")
	rounds, _ := fill.Rounds(n)
	filled(rounds[0], 7)
	if !slices.Equal(rounds[1], l(1)) || !slices.Equal(path, l(1, 0)) {
		t.Errorf("got %v and %v, once the first round is filled", rounds, path)
	}
}

// TestNothingIsKept: an answer hangs on its argument alone, whatever became of earlier ones.
func TestNothingIsKept(t *testing.T) {
	for _, c := range right {
		n := whole(c.n)
		rates, err := fill.Rates(n)
		rounds, bad := fill.Rounds(n)
		if err != nil || bad != nil {
			t.Fatal(c.name, err, bad)
		}
		filled(n.Caps, 12)
		for i := range n.Paths {
			n.Paths[i][0], n.Paths[i] = 0, n.Paths[i][:1]
		}
		flows := len(n.Paths)
		part := frac(big.NewRat(12, int64(flows)))
		told(t, n, slices.Repeat(fs(part), flows), ls(l(0, 1, 2, 3, 4, 5)[:flows]), api.OK, "others than", c.name)
		if !slices.Equal(rates, c.rates) || !sameRounds(rounds, c.rounds) {
			t.Errorf("%s: got %v and %v, once the net is another", c.name, rates, rounds)
		}
		filled(rates, f(0, 1))
		filled(rounds, nil)
		told(t, c.n, c.rates, c.rounds, api.OK, c.name, "once more")
	}
}

// TestErrorsAreNumbers: an error can be asked by errors.Is and is never OK, and none is a plain nil.
func TestErrorsAreNumbers(t *testing.T) {
	if rates, err := fill.Rates(mesh(l(5), l(0, 0))); rates != nil || !errors.Is(err, api.ErrClash) || errors.Is(err, api.OK) {
		t.Errorf("got %v, %v; want ErrClash", rates, err)
	}
	if rounds, err := fill.Rounds(mesh(l(0), l(0))); rounds != nil || !errors.Is(err, api.ErrRange) || errors.Is(err, api.OK) {
		t.Errorf("got %v, %v; want ErrRange", rounds, err)
	}
	if _, err := fill.Rates(mesh(l(5), l(0))); err != nil {
		t.Errorf("got %v, want nil", err)
	}
	if _, err := fill.Rounds(mesh(l(5), l(0))); err != nil {
		t.Errorf("got %v, want nil", err)
	}
}

func rat(a api.Frac) *big.Rat { return big.NewRat(int64(a.Top), int64(a.Bottom)) }

func frac(r *big.Rat) api.Frac { return f(int(r.Num().Int64()), int(r.Denom().Int64())) }

// asked is what the document's words ask of a net that is right, in exact numbers.
func asked(n api.Net) (rates []api.Frac, rounds [][]int) {
	had := make([]*big.Rat, len(n.Paths)) // nil while a flow is free
	for slices.Contains(had, nil) {
		shares := make([]*big.Rat, len(n.Caps)) // nil of a link without a free flow
		var least *big.Rat
		for link, takes := range n.Caps {
			rest, free := rat(f(takes, 1)), 0
			for flow, path := range n.Paths {
				if !slices.Contains(path, link) {
					continue
				}
				if had[flow] == nil {
					free++
				} else {
					rest.Sub(rest, had[flow])
				}
			}
			if free == 0 {
				continue
			}
			shares[link] = rest.Quo(rest, rat(f(free, 1)))
			if least == nil || rest.Cmp(least) < 0 {
				least = rest
			}
		}
		var round []int
		for flow, path := range n.Paths {
			over := func(link int) bool { return shares[link] != nil && shares[link].Cmp(least) == 0 }
			if had[flow] == nil && slices.ContainsFunc(path, over) {
				round = append(round, flow)
			}
		}
		for _, flow := range round {
			had[flow] = least
		}
		rounds = append(rounds, round)
	}
	for _, a := range had {
		rates = append(rates, frac(a))
	}
	return rates, rounds
}

// againstExact holds both calls against the document's words, and against what must be true of any answer.
func againstExact(t *testing.T, n api.Net) {
	t.Helper()
	rates, rounds := asked(n)
	told(t, n, rates, rounds, api.OK, n)
	got, _ := fill.Rates(n)
	held, _ := fill.Rounds(n)
	if len(got) != len(n.Paths) {
		t.Fatalf("%v: got %d rates", n, len(got))
	}
	hasNarrowPlaces(t, n, got)
	risesByRate(t, n, got, held)
}

// hasNarrowPlaces: no link is too full, and each flow goes over a full one, where no other has a greater rate.
// There is one way alone to have that, so it holds the rates apart from how the rounds go.
func hasNarrowPlaces(t *testing.T, n api.Net, rates []api.Frac) {
	t.Helper()
	full, top := make([]bool, len(n.Caps)), make([]*big.Rat, len(n.Caps))
	for link, takes := range n.Caps {
		sum := new(big.Rat)
		top[link] = new(big.Rat)
		for flow, path := range n.Paths {
			if a := rat(rates[flow]); slices.Contains(path, link) {
				sum.Add(sum, a)
				if a.Cmp(top[link]) > 0 {
					top[link] = a
				}
			}
		}
		order := sum.Cmp(rat(f(takes, 1)))
		if order > 0 {
			t.Errorf("%v: over link %d goes %v", n, link, sum)
		}
		full[link] = order == 0
	}
	for flow, path := range n.Paths {
		narrow := func(link int) bool { return full[link] && top[link].Cmp(rat(rates[flow])) == 0 }
		if !slices.ContainsFunc(path, narrow) {
			t.Errorf("%v: flow %d, of %v, has no narrow place", n, flow, rates)
		}
	}
}

// risesByRate: the flows of a round rise and have one rate, that of each round is above the one ahead, and each flow is in one.
func risesByRate(t *testing.T, n api.Net, rates []api.Frac, rounds [][]int) {
	t.Helper()
	last := new(big.Rat)
	for _, round := range rounds {
		if len(round) == 0 || !slices.IsSorted(round) {
			t.Fatalf("%v: a round of %v", n, rounds)
		}
		now := rates[round[0]]
		if rat(now).Cmp(last) <= 0 || slices.ContainsFunc(round, func(flow int) bool { return rates[flow] != now }) {
			t.Errorf("%v: rates %v, rounds %v", n, rates, rounds)
		}
		last = rat(now)
	}
	all := slices.Sorted(slices.Values(slices.Concat(rounds...)))
	if !slices.Equal(all, l(0, 1, 2, 3, 4, 5)[:len(n.Paths)]) {
		t.Errorf("%v: not each flow once in %v", n, rounds)
	}
}

// everyList hands on all lists of so many of the things.
func everyList[T any](things []T, many int, to func([]T)) {
	if many == 0 {
		to(nil)
		return
	}
	everyList(things, many-1, func(list []T) {
		for _, a := range things {
			to(append(slices.Clone(list), a))
		}
	})
}

// TestAllSmallNets holds all nets of up to three links and three flows against exact numbers.
func TestAllSmallNets(t *testing.T) {
	paths := ls(l(0), l(1), l(1, 0), l(2), l(0, 2), l(2, 1), l(1, 2, 0))
	for links := 1; links <= 3; links++ {
		these := paths[:1<<links-1] // those over the first links alone
		everyList(l(1, 2, 3, 5), links, func(caps []int) {
			for flows := 1; flows <= 3; flows++ {
				everyList(these, flows, func(list [][]int) { againstExact(t, mesh(caps, list...)) })
			}
		})
	}
}

// TestSixFlows holds nets of six links and six flows, made by a short rule, against exact numbers.
func TestSixFlows(t *testing.T) {
	many := make([]int, maxFlows+1)
	for seed := range 6_000 {
		n := sixFlows(seed, l(6, 40, maxCap)[seed%3], l(1, 3)[seed%2])
		againstExact(t, n)
		rounds, _ := fill.Rounds(n)
		many[len(rounds)]++
	}
	if slices.Contains(many[1:], 0) {
		t.Errorf("not all numbers of rounds are there: %v", many)
	}
}

// sixFlows makes a net of links that take up to most, and flows whose paths are the shorter, the more bits mask has.
func sixFlows(seed, most, mask int) api.Net {
	n := api.Net{}
	for i := range maxFlows {
		x := (seed*7919 + i*104_729) * 2_654_435_761 >> 7
		path := l(x % maxLinks)
		for link := range maxLinks {
			if x>>(10+link)&mask == mask && link != path[0] {
				path = append(path, link)
			}
		}
		n.Caps = append(n.Caps, 1+x>>30%most)
		n.Paths = append(n.Paths, path)
	}
	return n
}

// TestRise: of nets that may be it tells what the other two do; of one with more links it goes on as the document's words say.
func TestRise(t *testing.T) {
	for _, c := range right {
		risen(t, c.n, c.rates, c.rounds, api.OK, c.name)
	}
	for seed := range 2_000 {
		n := sixFlows(seed, 40, 3)
		n.Caps = slices.Concat(n.Caps, sixFlows(seed+1, 9, 1).Caps)
		for flow, path := range n.Paths {
			n.Paths[flow] = append(path, maxLinks+flow)
		}
		rates, rounds := asked(n)
		risen(t, n, rates, rounds, api.OK, n)
	}
}

// TestRiseEnds: at nets that may not be there is no panic, and with an error nothing else.
func TestRiseEnds(t *testing.T) {
	for _, c := range faulty {
		if len(c.n.Caps) > 100 || len(c.n.Paths) > 100 {
			continue
		}
		if rates, rounds, err := fill.Rise(c.n); err != nil && (rates != nil || rounds != nil || plain.Told(err) < api.ErrRange) {
			t.Errorf("%s: got %v, %v, %v", c.name, rates, rounds, err)
		}
	}
	risen(t, mesh(l(5), nil), nil, nil, api.ErrNone, "the only flow over none")
	risen(t, mesh(l(5), l(0), nil), nil, nil, api.ErrNone, "the last flow over none")
	risen(t, mesh(l(5), l(0), l(1)), nil, nil, api.ErrNone, "the last flow over none such")
	risen(t, mesh(l(math.MaxInt), l(0)), nil, nil, api.ErrRange, "a link takes the greatest int")
	risen(t, mesh(l(math.MinInt), l(0)), nil, nil, api.ErrRange, "a link takes the least int")
}

// risen checks what Rise answers, and that the net is then as it was.
func risen(t *testing.T, n api.Net, rates []api.Frac, rounds [][]int, no api.Errno, name ...any) {
	t.Helper()
	was := whole(n)
	got, held, err := fill.Rise(n)
	if !slices.Equal(got, rates) || !sameRounds(held, rounds) || plain.Told(err) != no {
		t.Errorf("Rise, %v: got %v, %v, %v; want %v, %v, %v", name, got, held, err, rates, rounds, no)
	}
	if !reflect.DeepEqual(whole(n), was) {
		t.Errorf("Rise, %v: the net was %v, and is %v", name, was, whole(n))
	}
}
