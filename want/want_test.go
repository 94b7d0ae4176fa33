package want_test

import (
	"errors"
	"math"
	"math/big"
	"reflect"
	"slices"
	"testing"

	"fairsluice/api"
	"fairsluice/fill"
	"fairsluice/net"
	"fairsluice/plain"
	"fairsluice/want"
)

const (
	maxLinks = 6
	maxFlows = 6
	maxCap   = 1_000
)

func f(top, bottom int) api.Frac { return api.Frac{Top: top, Bottom: bottom} }

func fs(list ...api.Frac) []api.Frac { return list }

// w gives whole rates.
func w(tops ...int) (out []api.Frac) {
	for _, top := range tops {
		out = append(out, f(top, 1))
	}
	return out
}

func l(list ...int) []int { return list }

func ls(lists ...[]int) [][]int { return lists }

func bs(list ...bool) []bool { return list }

func mesh(caps []int, paths ...[]int) api.Net { return api.Net{Caps: caps, Paths: paths} }

func sameNet(a, b api.Net) bool {
	return slices.Equal(a.Caps, b.Caps) && slices.EqualFunc(a.Paths, b.Paths, slices.Equal[[]int])
}

// kept checks that what was handed in is as it was, behind the lengths of its lists, too. It is asked behind each
// call: of a list that an earlier call had sorted, say, a later one would leave no trace.
func kept(t *testing.T, n, links api.Net, wants, were []int, name ...any) {
	t.Helper()
	if !reflect.DeepEqual(whole(n), links) || !slices.Equal(wants[:cap(wants)], were) {
		t.Errorf("%v: it was %v, %v, and is %v, %v", name, links, were, whole(n), wants[:cap(wants)])
	}
}

// told checks what the calls answer of what is right.
func told(t *testing.T, n api.Net, wants []int, rates []api.Frac, sated []bool, name ...any) {
	t.Helper()
	links, were := whole(n), slices.Clone(wants[:cap(wants)])
	got, err := want.Rates(n, wants)
	if err != nil || !slices.Equal(got, rates) {
		t.Errorf("Rates, %v: got %v, %v; want %v", name, got, err, rates)
	}
	kept(t, n, links, wants, were, "Rates", name)
	held, err := want.Sated(n, wants)
	if err != nil || !slices.Equal(held, sated) {
		t.Errorf("Sated, %v: got %v, %v; want %v", name, held, err, sated)
	}
	kept(t, n, links, wants, were, "Sated", name)
	wide, err := want.Net(n, wants)
	if asked, no := askedNet(n, wants); !sameNet(wide, asked) || plain.Told(err) != no {
		t.Errorf("Net, %v: got %v, %v; want %v, %v", name, wide, err, asked, no)
	}
	kept(t, n, links, wants, were, "Net", name)
}

// refused checks that all three calls tell an error, and nothing with it.
func refused(t *testing.T, n api.Net, wants []int, no api.Errno, name ...any) {
	t.Helper()
	links, were := whole(n), slices.Clone(wants[:cap(wants)])
	if rates, err := want.Rates(n, wants); rates != nil || plain.Told(err) != no {
		t.Errorf("Rates, %v: got %v, %v; want %v", name, rates, err, no)
	}
	if sated, err := want.Sated(n, wants); sated != nil || plain.Told(err) != no {
		t.Errorf("Sated, %v: got %v, %v; want %v", name, sated, err, no)
	}
	if wide, err := want.Net(n, wants); wide.Caps != nil || wide.Paths != nil || plain.Told(err) != no {
		t.Errorf("Net, %v: got %v, %v; want %v", name, wide, err, no)
	}
	kept(t, n, links, wants, were, name)
}

// askedNet is what the document's words ask of Net, of what is right: the error if there would be too many links.
func askedNet(n api.Net, wants []int) (api.Net, api.Errno) {
	links, flows := len(n.Caps), len(n.Paths)
	if links+flows > maxLinks {
		return api.Net{}, api.ErrFull
	}
	wide := api.Net{Caps: slices.Clone(n.Caps)}
	for flow, path := range n.Paths {
		wide.Caps = append(wide.Caps, wants[flow])
		wide.Paths = append(wide.Paths, append(slices.Clone(path), links+flow))
	}
	return wide, api.OK
}

func TestBoundsAreTheDocuments(t *testing.T) {
	if api.MaxLinks != maxLinks || api.MaxFlows != maxFlows || api.MaxCap != maxCap {
		t.Error("a bound of package api is not the document's")
	}
}

// right: nets and wants of which Rates and Sated tell no error.
var right = []struct {
	name  string
	n     api.Net
	wants []int
	rates []api.Frac
	sated []bool
}{
	{"one wants more", mesh(l(5), l(0)), l(9), w(5), bs(false)},
	{"one wants less", mesh(l(5), l(0)), l(3), w(3), bs(true)},
	{"one wants just as much", mesh(l(5), l(0)), l(5), w(5), bs(true)},
	{"one wants 1 more", mesh(l(5), l(0)), l(6), w(5), bs(false)},
	{"one wants 1 less", mesh(l(5), l(0)), l(4), w(4), bs(true)},
	{"the least want, the widest link", mesh(l(maxCap), l(0)), l(1), w(1), bs(true)},
	{"the greatest want, the narrowest link", mesh(l(1), l(0)), l(maxCap), w(1), bs(false)},
	{"the least of both", mesh(l(1), l(0)), l(1), w(1), bs(true)},
	{"the greatest of both", mesh(l(maxCap), l(0)), l(maxCap), w(maxCap), bs(true)},

	{"all want more", mesh(l(6), l(0), l(0), l(0)), l(249, 8, 14), w(2, 2, 2), bs(false, false, false)},
	{"all want just their share", mesh(l(6), l(0), l(0), l(0)), l(2, 2, 2), w(2, 2, 2), bs(true, true, true)},
	{"all want less", mesh(l(482), l(0), l(0)), l(9, 11), w(9, 11), bs(true, true)},
	{"all want 1", mesh(l(482), l(0), l(0), l(0)), l(1, 1, 1), w(1, 1, 1), bs(true, true, true)},
	{"all want all there may be", mesh(l(6, 4), l(0), l(0, 1), l(1)), l(maxCap, maxCap, maxCap), w(4, 2, 2), bs(false, false, false)},
	{"one wants just its share, others more", mesh(l(6), l(0), l(0), l(0)), l(2, 3, 3), w(2, 2, 2), bs(true, false, false)},
	{"the last wants just its share, others more", mesh(l(6), l(0), l(0), l(0)), l(3, 3, 2), w(2, 2, 2), bs(false, false, true)},
	{"together they want just what there is", mesh(l(6), l(0), l(0), l(0)), l(1, 2, 3), w(1, 2, 3), bs(true, true, true)},
	{"together they want 1 more than there is", mesh(l(6), l(0), l(0), l(0)), l(1, 2, 4), w(1, 2, 3), bs(true, true, false)},
	{"together they want 1 less than there is", mesh(l(7), l(0), l(0), l(0)), l(1, 2, 3), w(1, 2, 3), bs(true, true, true)},

	{"who wants little leaves more to the other", mesh(l(10), l(0), l(0)), l(2, 99), w(2, 8), bs(true, false)},
	{"the last one leaves more to the other", mesh(l(10), l(0), l(0)), l(99, 2), w(8, 2), bs(false, true)},
	{"one between leaves more to the others", mesh(l(10), l(0), l(0), l(0)), l(99, 2, 99), w(4, 2, 4), bs(false, true, false)},
	{"two want alike, and leave more", mesh(l(10), l(0), l(0), l(0)), l(2, 99, 2), w(2, 6, 2), bs(true, false, true)},
	{"all want alike, and less", mesh(l(10), l(0), l(0), l(0)), l(3, 3, 3), w(3, 3, 3), bs(true, true, true)},
	{"all want alike, and more", mesh(l(10), l(0), l(0), l(0)), l(4, 4, 4), fs(f(10, 3), f(10, 3), f(10, 3)), bs(false, false, false)},
	{"what one leaves sates the other", mesh(l(10), l(0), l(0)), l(2, 8), w(2, 8), bs(true, true)},
	{"what one leaves sates one, and that another", mesh(l(12), l(0), l(0), l(0)), l(6, 5, 1), w(6, 5, 1), bs(true, true, true)},
	{"what is left by two in turn is not enough", mesh(l(12), l(0), l(0), l(0)), l(7, 5, 1), w(6, 5, 1), bs(false, true, true)},
	{"above the share at first, though below what is left", mesh(l(9), l(0), l(0), l(0)), l(1, 4, 4), w(1, 4, 4), bs(true, true, true)},
	{"as many as may be want this and that", mesh(l(30), l(0), l(0), l(0), l(0), l(0), l(0)), l(9, 1, 9, 2, 9, 3), w(8, 1, 8, 2, 8, 3),
		bs(false, true, false, true, false, true)},
	{"as many rounds as flows, by wants alone", mesh(l(maxCap), l(0), l(0), l(0), l(0), l(0), l(0)), l(6, 5, 4, 3, 2, 1), w(6, 5, 4, 3, 2, 1),
		bs(true, true, true, true, true, true)},

	{"as many flows as may be over one, all want more", mesh(l(12), l(0), l(0), l(0), l(0), l(0), l(0)), l(3, 3, 3, 3, 3, 3), w(2, 2, 2, 2, 2, 2), make([]bool, 6)},
	{"as many as may be over one, all want 1", mesh(l(12), l(0), l(0), l(0), l(0), l(0), l(0)), l(1, 1, 1, 1, 1, 1), w(1, 1, 1, 1, 1, 1),
		bs(true, true, true, true, true, true)},
	{"as many as may be over one, one wants 1", mesh(l(12), l(0), l(0), l(0), l(0), l(0), l(0)), l(3, 3, 3, 1, 3, 3),
		fs(f(11, 5), f(11, 5), f(11, 5), f(1, 1), f(11, 5), f(11, 5)), bs(false, false, false, true, false, false)},
	{"as many links as may be, and one flow", mesh(l(9, 8, 7, 6, 5, 4), l(0, 1, 2, 3, 4, 5)), l(3), w(3), bs(true)},
	{"as many links as may be, and one flow that wants more", mesh(l(9, 8, 7, 6, 5, 4), l(5, 1, 2, 3, 4, 0)), l(5), w(4), bs(false)},
	{"as many links and flows as may be", mesh(l(1, 2, 3, 4, 5, 6), l(5), l(4), l(3), l(2), l(1), l(0)), l(3, 3, 3, 3, 3, 3),
		w(3, 3, 3, 3, 2, 1), bs(true, true, true, true, false, false)},
	{"as many rounds as may be, by wants and links in turn", mesh(l(1, 9, 3, 9, 5, 9), l(0), l(1), l(2), l(3), l(4), l(5)), l(9, 2, 9, 4, 9, 6),
		w(1, 2, 3, 4, 5, 6), bs(false, true, false, true, false, true)},
	{"all flows over all links", mesh(l(80, 70, 30, 60, 50, 40), l(0, 1, 2, 3, 4, 5), l(5, 4, 3, 2, 1, 0), l(0, 1, 2, 3, 4, 5),
		l(0, 2, 4, 1, 3, 5), l(1, 0, 3, 2, 5, 4), l(0, 1, 2, 3, 4, 5)), l(9, 2, 9, 3, 9, 4), w(7, 2, 7, 3, 7, 4),
		bs(false, true, false, true, false, true)},

	{"a share that is no whole number", mesh(l(5), l(0), l(0)), l(3, 3), fs(f(5, 2), f(5, 2)), bs(false, false)},
	{"a want below a share that is no whole number", mesh(l(5), l(0), l(0)), l(3, 2), w(3, 2), bs(true, true)},
	{"a want leaves parts to others", mesh(l(8), l(0), l(0), l(0)), l(1, 9, 9), fs(f(1, 1), f(7, 2), f(7, 2)), bs(true, false, false)},
	{"the least share that may be", mesh(l(1), l(0), l(0), l(0), l(0), l(0), l(0)), l(1, 1, 1, 1, 1, 1), slices.Repeat(fs(f(1, 6)), 6), make([]bool, 6)},
	{"a rate whose top is the want, but its bottom is not 1", mesh(l(5), l(0), l(0)), l(5, 5), fs(f(5, 2), f(5, 2)), bs(false, false)},
	{"a rate that is the want by rounding", mesh(l(8), l(0), l(0), l(0)), l(3, 3, 3), fs(f(8, 3), f(8, 3), f(8, 3)), bs(false, false, false)},
	{"parts of parts, and a want of more", mesh(l(1, 3), l(0), l(0, 1), l(1), l(1), l(1)), l(9, 9, 1, 9, 9),
		fs(f(1, 2), f(1, 2), f(5, 6), f(5, 6), f(5, 6)), bs(false, false, false, false, false)},
	{"parts of parts, and a want of less", mesh(l(1, 6), l(0), l(0, 1), l(1), l(1), l(1)), l(9, 9, 1, 9, 9),
		fs(f(1, 2), f(1, 2), f(1, 1), f(9, 4), f(9, 4)), bs(false, false, true, false, false)},
	{"parts that come to whole numbers again", mesh(l(1, 4), l(0, 1), l(0, 1), l(1)), l(1, 1, 3), fs(f(1, 2), f(1, 2), f(3, 1)), bs(false, false, true)},

	{"who wants little leaves more over each of its links", mesh(l(10, 8), l(0, 1), l(0), l(1)), l(1, 99, 99), w(1, 9, 7), bs(true, false, false)},
	{"who wants little leaves nothing elsewhere", mesh(l(10, 8), l(0), l(0), l(1)), l(1, 99, 99), w(1, 9, 8), bs(true, false, false)},
	{"a want helps one, that hinders another", mesh(l(6, 8), l(0), l(0, 1), l(1)), l(1, 99, 99), w(1, 4, 4), bs(true, false, false)},
	{"a want helps one, that takes from another", mesh(l(6, 9), l(0), l(0, 1), l(1)), l(2, 99, 5), w(2, 4, 5), bs(true, false, true)},
	{"what is taken elsewhere is not taken here", mesh(l(10, 4), l(0), l(1), l(1)), l(7, 1, 9), w(7, 1, 3), bs(true, true, false)},
	{"a want and a link have the same least share", mesh(l(4, 9), l(0), l(0), l(1)), l(9, 9, 2), w(2, 2, 2), bs(false, false, true)},
	{"a want and its own link have the same least share", mesh(l(4, 9), l(0), l(0, 1), l(1)), l(2, 9, 9), w(2, 2, 7), bs(true, false, false)},
	{"a want and a link have the same share in a later round", mesh(l(2, 7), l(0), l(0, 1), l(1), l(1)), l(9, 9, 3, 9), w(1, 1, 3, 3), bs(false, false, true, false)},
	{"who wants as another does, over another link, is not held by it", mesh(l(9, 9), l(0), l(1)), l(3, 8), w(3, 8), bs(true, true)},
	{"who wants as much as another, but is held", mesh(l(9, 3), l(0), l(1)), l(4, 4), w(4, 3), bs(true, false)},
	{"narrow links that no flow goes over", mesh(l(1, 17, 1), l(1)), l(12), w(12), bs(true)},
	{"wants name no links", mesh(l(9, 1), l(0)), l(2), w(2), bs(true)},
}

func TestRight(t *testing.T) {
	for _, c := range right {
		told(t, c.n, c.wants, c.rates, c.sated, c.name)
		if rates, sated := asked(c.n, c.wants); !slices.Equal(rates, c.rates) || !slices.Equal(sated, c.sated) {
			t.Errorf("%s: the document's words ask for %v, %v", c.name, rates, sated)
		}
	}
}

// TestNet: each flow's own link lies behind all, in the flows' order, and is the last one of its path.
func TestNet(t *testing.T) {
	for _, c := range []struct {
		n     api.Net
		wants []int
		wide  api.Net
	}{
		{mesh(l(5), l(0)), l(3), mesh(l(5, 3), l(0, 1))},
		{mesh(l(5), l(0)), l(1), mesh(l(5, 1), l(0, 1))},
		{mesh(l(5), l(0)), l(maxCap), mesh(l(5, maxCap), l(0, 1))},
		{mesh(l(5), l(0), l(0)), l(8, 4), mesh(l(5, 8, 4), l(0, 1), l(0, 2))},
		{mesh(l(5), l(0), l(0), l(0)), l(7, 7, 7), mesh(l(5, 7, 7, 7), l(0, 1), l(0, 2), l(0, 3))},
		{mesh(l(5, 4), l(1, 0), l(1), l(0)), l(249, 4, 1), mesh(l(5, 4, 249, 4, 1), l(1, 0, 2), l(1, 3), l(0, 4))},
		{mesh(l(9, 1, 9), l(2, 0)), l(6), mesh(l(9, 1, 9, 6), l(2, 0, 3))},
		{mesh(l(5), l(0), l(0), l(0), l(0), l(0)), l(5, 4, 3, 2, 1), mesh(l(5, 5, 4, 3, 2, 1), l(0, 1), l(0, 2), l(0, 3), l(0, 4), l(0, 5))},
		{mesh(l(1, 2, 3, 4, 5), l(4, 2, 0, 1, 3)), l(9), mesh(l(1, 2, 3, 4, 5, 9), l(4, 2, 0, 1, 3, 5))},
		{mesh(l(6, 7, 8), l(2), l(0, 1), l(1, 2, 0)), l(3, 2, 1), mesh(l(6, 7, 8, 3, 2, 1), l(2, 3), l(0, 1, 4), l(1, 2, 0, 5))},
	} {
		wide, err := want.Net(c.n, c.wants)
		if err != nil || !sameNet(wide, c.wide) {
			t.Errorf("of %v, %v got %v, %v; want %v", c.n, c.wants, wide, err, c.wide)
		}
		if err := net.Check(wide); err != nil {
			t.Errorf("of %v, %v got a net that is none: %v", c.n, c.wants, err)
		}
	}
}

// TestHowManyLinks: of all numbers of links and flows, Net tells ErrFull where there would be
// one link or more too many, and nothing with it; Rates and Sated answer all the same.
func TestHowManyLinks(t *testing.T) {
	for links := 1; links <= maxLinks; links++ {
		for flows := 1; flows <= maxFlows; flows++ {
			n := mesh(slices.Repeat(l(12), links), slices.Repeat(ls(l(links-1)), flows)...)
			wants := slices.Repeat(l(2), flows)
			told(t, n, wants, slices.Repeat(w(2), flows), slices.Repeat(bs(true), flows), links, flows)
			wide, err := want.Net(n, wants)
			if links+flows <= maxLinks {
				if err != nil || len(wide.Caps) != links+flows || len(wide.Paths) != flows {
					t.Errorf("%d links, %d flows: got %v, %v", links, flows, wide, err)
				}
			} else if wide.Caps != nil || wide.Paths != nil || plain.Told(err) != api.ErrFull {
				t.Errorf("%d links, %d flows: got %v, %v; want ErrFull", links, flows, wide, err)
			}
		}
	}
}

// TestOneLink: of all that a link may take, and all numbers of flows, all that want alike get what they
// want, or the same part; if one wants less than the others, they get of what it leaves.
func TestOneLink(t *testing.T) {
	for takes := 1; takes <= maxCap; takes++ {
		for flows := 1; flows <= maxFlows; flows++ {
			n := mesh(l(takes), slices.Repeat(ls(l(0)), flows)...)
			part := takes / flows
			for _, wanted := range l(1, part-1, part, part+1, takes, maxCap) {
				if wanted < 1 || wanted > maxCap {
					continue
				}
				rate := lesser(big.NewRat(int64(takes), int64(flows)), wanted)
				sated := rate == f(wanted, 1)
				told(t, n, slices.Repeat(l(wanted), flows), slices.Repeat(fs(rate), flows), slices.Repeat(bs(sated), flows), takes, flows, wanted)
			}
			if flows < 2 || part < 2 {
				continue
			}
			low := takes % flows
			wants, rates, sated := slices.Repeat(l(maxCap), flows), make([]api.Frac, flows), make([]bool, flows)
			wants[low] = part - 1
			for flow := range rates {
				rates[flow] = frac(big.NewRat(int64(takes-part+1), int64(flows-1)))
				sated[flow] = rates[flow] == f(maxCap, 1)
			}
			rates[low], sated[low] = f(part-1, 1), true
			told(t, n, wants, rates, sated, takes, flows, "one wants less")
		}
	}
}

func lesser(share *big.Rat, wanted int) api.Frac {
	if share.Cmp(rat(f(wanted, 1))) > 0 {
		return f(wanted, 1)
	}
	return frac(share)
}

// faulty: what chapter 2's Check refuses, and by which error. Those with several faults
// have, as far as they can, all of those that the document names later.
var faulty = []struct {
	name string
	n    api.Net
	no   api.Errno
}{
	{"the zero value", api.Net{}, api.ErrNone},
	{"empty lists", api.Net{Caps: []int{}, Paths: [][]int{}}, api.ErrNone},
	{"no link", mesh(nil, l(0)), api.ErrNone},
	{"no flow", mesh(l(5)), api.ErrNone},
	{"no link, and too many flows", mesh(nil, make([][]int, maxFlows+1)...), api.ErrNone},
	{"no flow, and too many links, that take nothing", mesh(make([]int, maxLinks+1)), api.ErrNone},

	{"too many links", mesh(slices.Repeat(l(1), maxLinks+1), l(0)), api.ErrFull},
	{"far too many links", mesh(slices.Repeat(l(1), 100_000), l(0)), api.ErrFull},
	{"too many flows", mesh(l(1), slices.Repeat(ls(l(0)), maxFlows+1)...), api.ErrFull},
	{"far too many flows", mesh(l(1), slices.Repeat(ls(l(0)), 100_000)...), api.ErrFull},
	{"too many links, that take nothing, and a wrong flow", mesh(make([]int, maxLinks+1), l(9, 9)), api.ErrFull},
	{"too many flows, over none, and a link that takes nothing", mesh(l(0), make([][]int, maxFlows+1)...), api.ErrFull},

	{"a link takes nothing", mesh(l(0), l(0)), api.ErrRange},
	{"a link takes less than nothing", mesh(l(-1), l(0)), api.ErrRange},
	{"a link takes too much", mesh(l(maxCap+1), l(0)), api.ErrRange},
	{"a link takes the least int", mesh(l(math.MinInt), l(0)), api.ErrRange},
	{"a link takes the greatest int", mesh(l(math.MaxInt), l(0)), api.ErrRange},
	{"the last link takes nothing, and no flow goes over it", mesh(l(1, 1, 0), l(0)), api.ErrRange},
	{"a link takes nothing, and a flow goes over none", mesh(l(1, 0), nil), api.ErrRange},

	{"the only flow over none", mesh(l(5), nil), api.ErrNone},
	{"the only flow has an empty path", mesh(l(5), []int{}), api.ErrNone},
	{"the last flow over none", mesh(l(5), l(0), l(0), l(0), l(0), l(0), nil), api.ErrNone},
	{"a flow over none, a later one over none such", mesh(l(5), l(0), nil, l(1)), api.ErrNone},

	{"a flow over the link behind the last", mesh(l(5), l(1)), api.ErrRange},
	{"a flow over the link that its want would be", mesh(l(5, 5), l(0), l(3)), api.ErrRange},
	{"a flow over link -1", mesh(l(5), l(-1)), api.ErrRange},
	{"a flow over the least int", mesh(l(5), l(math.MinInt)), api.ErrRange},
	{"a flow over the greatest int", mesh(l(5), l(math.MaxInt)), api.ErrRange},
	{"the last flow at last over none such", mesh(l(5, 5), l(0), l(1), l(0, 2)), api.ErrRange},
	{"over none such, and a later flow over none", mesh(l(5), l(1), nil), api.ErrRange},

	{"twice over one", mesh(l(5), l(0, 0)), api.ErrClash},
	{"the last flow twice over one, others between", mesh(l(5, 5, 5), l(0), l(1, 0, 2, 1)), api.ErrClash},
	{"twice over one, and a later flow over none", mesh(l(5), l(0, 0), nil), api.ErrClash},
	{"twice over one, of as many links and flows as may be", mesh(l(5, 5, 5, 5, 5, 5), l(0), l(1), l(2), l(3), l(4), l(5, 5)), api.ErrClash},
	{"a path far too long", mesh(l(5), slices.Repeat(l(0), 100_000)), api.ErrClash},
}

// outside: wants that may not be.
var outside = l(math.MinInt, math.MinInt+1, -1<<32, -maxCap, -1, 0, maxCap+1, 1<<31, 1<<32, math.MaxInt-1, math.MaxInt)

// TestNetsAreChecked: what is wrong with a net is told ahead of what is wrong with wants, whatever these are.
func TestNetsAreChecked(t *testing.T) {
	for _, c := range faulty {
		flows := len(c.n.Paths)
		refused(t, c.n, slices.Repeat(l(1), flows), c.no, c.name)
		refused(t, c.n, slices.Repeat(l(maxCap), flows), c.no, c.name)
		refused(t, c.n, make([]int, flows), c.no, c.name, "wants of 0")
		refused(t, c.n, nil, c.no, c.name, "no wants")
		refused(t, c.n, slices.Repeat(l(1), flows+1), c.no, c.name, "one want too many")
		refused(t, c.n, make([]int, flows+1), c.no, c.name, "one want too many, all of 0")
	}
}

// TestNumbersBeyond: at no number beyond the bounds, at any place of a net, is there a panic, or another error.
func TestNumbersBeyond(t *testing.T) {
	for _, c := range right {
		for _, x := range outside {
			for link := range c.n.Caps {
				n := whole(c.n)
				n.Caps[link] = x
				refused(t, n, c.wants, api.ErrRange, c.name, "link", link, x)
			}
			for flow, path := range c.n.Paths {
				for i := range path {
					n := whole(c.n)
					if x == 0 {
						n.Paths[flow][i] = len(n.Caps)
					} else {
						n.Paths[flow][i] = x
					}
					refused(t, n, c.wants, api.ErrRange, c.name, "flow", flow, i, x)
				}
			}
		}
	}
}

// TestNotAsManyWants: it is told ahead of what is wrong with one of them, and ahead of too many links.
func TestNotAsManyWants(t *testing.T) {
	for _, c := range right {
		flows := len(c.n.Paths)
		refused(t, c.n, nil, api.ErrShape, c.name, "none")
		refused(t, c.n, []int{}, api.ErrShape, c.name, "an empty list")
		for many := range maxFlows + 3 {
			if many != flows {
				refused(t, c.n, slices.Repeat(l(1), many), api.ErrShape, c.name, many)
				refused(t, c.n, make([]int, many), api.ErrShape, c.name, many, "of 0")
				refused(t, c.n, slices.Repeat(l(math.MaxInt), many), api.ErrShape, c.name, many, "of the greatest int")
			}
		}
		refused(t, c.n, c.wants[:flows-1], api.ErrShape, c.name, "one too few")
		refused(t, c.n, append(slices.Clone(c.wants), 1), api.ErrShape, c.name, "one too many")
		refused(t, c.n, slices.Repeat(l(1), 100_000), api.ErrShape, c.name, "far too many")
		refused(t, c.n, make([]int, 100_000), api.ErrShape, c.name, "far too many of 0")
	}
}

// TestWantsAreChecked: one that may not be is told wherever it lies, ahead of too many links.
func TestWantsAreChecked(t *testing.T) {
	for _, c := range right {
		for flow := range c.wants {
			for _, x := range outside {
				wants := slices.Clone(c.wants)
				wants[flow] = x
				refused(t, c.n, wants, api.ErrRange, c.name, flow, x)
			}
		}
		for _, x := range outside {
			refused(t, c.n, slices.Repeat(l(x), len(c.wants)), api.ErrRange, c.name, "all", x)
		}
	}
}

// roomy gives a copy with something hidden behind its length, so that an append there would be seen.
func roomy[T any](list []T, hidden T) []T {
	return append(slices.Clone(list), hidden, hidden, hidden)[:len(list)]
}

// roomyNet hides what would change the answer, were it read: links that take 1, flows over link 0.
func roomyNet(n api.Net) api.Net {
	paths := roomy(n.Paths, l(0))
	for i, path := range paths {
		paths[i] = roomy(path, 0)
	}
	return api.Net{Caps: roomy(n.Caps, 1), Paths: paths}
}

// whole copies all the memory of a net, also what lies behind lengths.
func whole(n api.Net) api.Net {
	paths := slices.Clone(n.Paths[:cap(n.Paths)])
	for i, path := range paths {
		paths[i] = slices.Clone(path[:cap(path)])
	}
	return api.Net{Caps: slices.Clone(n.Caps[:cap(n.Caps)]), Paths: paths}
}

// TestBehindTheLength: what lies there makes no difference to an answer, and is not written into, also with an error.
func TestBehindTheLength(t *testing.T) {
	for _, c := range right {
		told(t, roomyNet(c.n), roomy(c.wants, 1), c.rates, c.sated, c.name)
		refused(t, roomyNet(c.n), append(slices.Clone(c.wants), 0)[:len(c.wants)-1], api.ErrShape, c.name, "one want lies behind")
		wants := slices.Clone(c.wants)
		wants[len(wants)-1] = 0
		refused(t, roomyNet(c.n), roomy(wants, 1), api.ErrRange, c.name)
	}
	for _, c := range faulty {
		refused(t, roomyNet(c.n), roomy(slices.Repeat(l(1), len(c.n.Paths)), 1), c.no, c.name)
	}
}

// filled gives every place of a list that value, up to its capacity.
func filled[T any](list []T, value T) {
	for i := range list[:cap(list)] {
		list[:cap(list)][i] = value
	}
}

// TestAnswersAreFresh: no two lists share memory, of those that come out of two calls and those handed in.
func TestAnswersAreFresh(t *testing.T) {
	for _, c := range right {
		in, wants := roomyNet(c.n), roomy(c.wants, 1)
		rates, err := want.Rates(in, wants)
		again, bad := want.Rates(in, wants)
		sated, no := want.Sated(in, wants)
		twice, ill := want.Sated(in, wants)
		if err != nil || bad != nil || no != nil || ill != nil {
			t.Fatal(c.name, err, bad, no, ill)
		}
		filled(rates, f(-7, -7))
		filled(sated, !c.sated[0])
		if !slices.Equal(again, c.rates) || !slices.Equal(twice, c.sated) {
			t.Errorf("%s: what two calls answer shares memory", c.name)
		}
		freshNets(t, in, wants, c.name)
	}
}

// freshNets checks that of two nets that come out, and what is handed in, no two lists share memory.
func freshNets(t *testing.T, in api.Net, wants []int, name string) {
	t.Helper()
	first, err := want.Net(in, wants)
	second, bad := want.Net(in, wants)
	if len(in.Caps)+len(wants) > maxLinks {
		return
	}
	if err != nil || bad != nil {
		t.Fatal(name, err, bad)
	}
	lists := slices.Concat(first.Paths, second.Paths, in.Paths, ls(first.Caps, second.Caps, in.Caps, wants))
	for i, list := range lists {
		filled(list, i)
	}
	for i, list := range lists {
		if slices.ContainsFunc(list[:cap(list)], func(x int) bool { return x != i }) {
			t.Errorf("%s: list %d shares memory with another", name, i)
		}
	}
	filled(first.Paths, nil)
	if slices.ContainsFunc(slices.Concat(second.Paths, in.Paths), func(list []int) bool { return list == nil }) {
		t.Errorf("%s: the list of paths shares memory with another", name)
	}
}

// TestOfOneMemory: also where lists that are handed in share memory, those that come out do not.
func TestOfOneMemory(t *testing.T) {
	all := l(1, 2, 1)
	n := api.Net{Caps: all, Paths: ls(all[:2], all[1:2], all[1:])}
	told(t, n, all, fs(f(1, 3), f(1, 3), f(1, 3)), bs(false, false, false), "all of one memory")
	wide, err := want.Net(n, all)
	if err != nil || !sameNet(wide, mesh(l(1, 2, 1, 1, 2, 1), l(1, 2, 3), l(2, 4), l(2, 1, 5))) {
		t.Fatalf("got %v, %v", wide, err)
	}
	filled(wide.Paths[0], 7)
	filled(wide.Caps, 8)
	if !slices.Equal(wide.Paths[1], l(2, 4)) || !slices.Equal(wide.Paths[2], l(2, 1, 5)) || !slices.Equal(all, l(1, 2, 1)) {
		t.Errorf("got %v and %v, once two lists are filled", wide, all)
	}
}

// TestNothingIsKept: an answer hangs on its arguments alone, whatever became of earlier ones.
func TestNothingIsKept(t *testing.T) {
	for _, c := range right {
		n, wants := whole(c.n), slices.Clone(c.wants)
		rates, err := want.Rates(n, wants)
		sated, bad := want.Sated(n, wants)
		wide, _ := want.Net(n, wants)
		if err != nil || bad != nil {
			t.Fatal(c.name, err, bad)
		}
		filled(n.Caps, 60)
		filled(wants, 7)
		for i := range n.Paths {
			n.Paths[i][0], n.Paths[i] = 0, n.Paths[i][:1]
		}
		flows := len(wants)
		told(t, n, wants, slices.Repeat(w(7), flows), slices.Repeat(bs(true), flows), "others than", c.name)
		if asked, _ := askedNet(c.n, c.wants); !slices.Equal(rates, c.rates) || !slices.Equal(sated, c.sated) || !sameNet(wide, asked) {
			t.Errorf("%s: got %v, %v and %v, once the net is another", c.name, rates, sated, wide)
		}
		filled(rates, f(0, 1))
		filled(wide.Caps, 1)
		told(t, c.n, c.wants, c.rates, c.sated, c.name, "once more")
	}
}

// TestErrorsAreNumbers: an error can be asked by errors.Is and is never OK, and none is a plain nil.
func TestErrorsAreNumbers(t *testing.T) {
	if rates, err := want.Rates(mesh(l(5), l(0, 0)), l(1)); rates != nil || !errors.Is(err, api.ErrClash) || errors.Is(err, api.OK) {
		t.Errorf("got %v, %v; want ErrClash", rates, err)
	}
	if sated, err := want.Sated(mesh(l(5), l(0)), l(1, 2)); sated != nil || !errors.Is(err, api.ErrShape) || errors.Is(err, api.OK) {
		t.Errorf("got %v, %v; want ErrShape", sated, err)
	}
	if wide, err := want.Net(mesh(l(5, 5, 5, 5, 5, 5), l(0)), l(1)); wide.Caps != nil || wide.Paths != nil || !errors.Is(err, api.ErrFull) || errors.Is(err, api.OK) {
		t.Errorf("got %v, %v; want ErrFull", wide, err)
	}
	n, wants := mesh(l(5), l(0)), l(3)
	if _, err := want.Rates(n, wants); err != nil {
		t.Errorf("got %v, want nil", err)
	}
	if _, err := want.Sated(n, wants); err != nil {
		t.Errorf("got %v, want nil", err)
	}
	if _, err := want.Net(n, wants); err != nil {
		t.Errorf("got %v, want nil", err)
	}
}

func rat(a api.Frac) *big.Rat { return big.NewRat(int64(a.Top), int64(a.Bottom)) }

func frac(r *big.Rat) api.Frac { return f(int(r.Num().Int64()), int(r.Denom().Int64())) }

// asked is what the document's words ask of what is right, in exact numbers.
func asked(n api.Net, wants []int) (rates []api.Frac, sated []bool) {
	had := make([]*big.Rat, len(n.Paths)) // nil while a flow is free
	for slices.Contains(had, nil) {
		shares := askedShares(n, had)
		var least *big.Rat
		note := func(share *big.Rat) {
			if share != nil && (least == nil || share.Cmp(least) < 0) {
				least = share
			}
		}
		for _, share := range shares {
			note(share)
		}
		for flow, wanted := range wants {
			if had[flow] == nil {
				note(rat(f(wanted, 1)))
			}
		}
		for flow, path := range n.Paths {
			over := func(link int) bool { return shares[link] != nil && shares[link].Cmp(least) == 0 }
			if had[flow] == nil && (slices.ContainsFunc(path, over) || least.Cmp(rat(f(wants[flow], 1))) == 0) {
				had[flow] = least
			}
		}
	}
	for flow, a := range had {
		rates = append(rates, frac(a))
		sated = append(sated, a.Cmp(rat(f(wants[flow], 1))) == 0)
	}
	return rates, sated
}

// askedShares gives each link's share, nil of one without a free flow.
func askedShares(n api.Net, had []*big.Rat) []*big.Rat {
	shares := make([]*big.Rat, len(n.Caps))
	for link, takes := range n.Caps {
		rest, free := rat(f(takes, 1)), 0
		for flow, path := range n.Paths {
			if !slices.Contains(path, link) {
				continue
			}
			if had[flow] == nil {
				free++
			} else {
				rest.Sub(rest, had[flow])
			}
		}
		if free > 0 {
			shares[link] = rest.Quo(rest, rat(f(free, 1)))
		}
	}
	return shares
}

// againstExact holds the calls against the document's words, and against what must be true of any answer.
func againstExact(t *testing.T, n api.Net, wants []int) {
	t.Helper()
	rates, sated := asked(n, wants)
	told(t, n, wants, rates, sated, n, wants)
	got, _ := want.Rates(n, wants)
	if len(got) != len(n.Paths) {
		t.Fatalf("%v, %v: got %d rates", n, wants, len(got))
	}
	satedOrHeldBack(t, n, wants, got)
	asByChapter4(t, n, wants, got)
}

// satedOrHeldBack: no link is too full, none gets more than it wants, and each that gets less goes over a full link, where
// no other has a greater rate. There is one way alone to have that, so it holds the rates apart from how the rounds go.
func satedOrHeldBack(t *testing.T, n api.Net, wants []int, rates []api.Frac) {
	t.Helper()
	full, top := make([]bool, len(n.Caps)), make([]*big.Rat, len(n.Caps))
	for link, takes := range n.Caps {
		sum := new(big.Rat)
		top[link] = new(big.Rat)
		for flow, path := range n.Paths {
			if a := rat(rates[flow]); slices.Contains(path, link) {
				sum.Add(sum, a)
				if a.Cmp(top[link]) > 0 {
					top[link] = a
				}
			}
		}
		order := sum.Cmp(rat(f(takes, 1)))
		if order > 0 {
			t.Errorf("%v, %v: over link %d goes %v", n, wants, link, sum)
		}
		full[link] = order == 0
	}
	for flow, path := range n.Paths {
		order := rat(rates[flow]).Cmp(rat(f(wants[flow], 1)))
		narrow := func(link int) bool { return full[link] && top[link].Cmp(rat(rates[flow])) == 0 }
		if order > 0 || order < 0 && !slices.ContainsFunc(path, narrow) {
			t.Errorf("%v, %v: flow %d, of %v, has too much, or nothing holds it back", n, wants, flow, rates)
		}
	}
}

// asByChapter4: the rates are those of the net that Net gives, and, if all want as much as they
// would get without, those of the net itself.
func asByChapter4(t *testing.T, n api.Net, wants []int, rates []api.Frac) {
	t.Helper()
	if wide, err := want.Net(n, wants); err == nil {
		risen, err := fill.Rates(wide)
		if err != nil || !slices.Equal(risen, rates) {
			t.Errorf("%v, %v: of %v chapter 4 tells %v, %v; Rates %v", n, wants, wide, risen, err, rates)
		}
	}
	without, err := fill.Rates(n)
	if err != nil {
		t.Fatal(n, err)
	}
	for flow, rate := range without {
		if rat(rate).Cmp(rat(f(wants[flow], 1))) > 0 {
			return
		}
	}
	if !slices.Equal(without, rates) {
		t.Errorf("%v, %v: all want as much as without, %v, but get %v", n, wants, without, rates)
	}
}

// everyList hands on all lists of so many of the things.
func everyList[T any](things []T, many int, to func([]T)) {
	if many == 0 {
		to(nil)
		return
	}
	everyList(things, many-1, func(list []T) {
		for _, a := range things {
			to(append(slices.Clone(list), a))
		}
	})
}

// TestAllSmallNets holds all nets of up to two links and three flows, with all wants of a short list, against exact numbers.
func TestAllSmallNets(t *testing.T) {
	paths := ls(l(0), l(1), l(1, 0))
	for links := 1; links <= 2; links++ {
		these := paths[:1<<links-1] // those over the first links alone
		everyList(l(1, 2, 3, 5), links, func(caps []int) {
			for flows := 1; flows <= 3; flows++ {
				everyList(these, flows, func(list [][]int) {
					everyList(l(1, 2, 3, maxCap), flows, func(wants []int) { againstExact(t, mesh(caps, list...), wants) })
				})
			}
		})
	}
}

// TestSixFlows holds nets of six links and six flows, made by a short rule, and wants of
// many kinds, against exact numbers. All numbers of sated flows come up.
func TestSixFlows(t *testing.T) {
	many := make([]int, maxFlows+1)
	for seed := range 6_000 {
		most := l(6, 40, maxCap)[seed%3]
		n := sixFlows(seed, most, l(1, 3)[seed%2])
		wants := sixWants(seed, max(1, most/l(1, 2, 4, 6)[seed%4]))
		againstExact(t, n, wants)
		sated, _ := want.Sated(n, wants)
		now := 0
		for _, is := range sated {
			if is {
				now++
			}
		}
		many[now]++
	}
	if slices.Contains(many, 0) {
		t.Errorf("not all numbers of sated flows are there: %v", many)
	}
}

// sixFlows makes a net of links that take up to most, and flows whose paths are the shorter, the more bits mask has.
func sixFlows(seed, most, mask int) api.Net {
	n := api.Net{}
	for i := range maxFlows {
		x := mixed(seed, i)
		path := l(x % maxLinks)
		for link := range maxLinks {
			if x>>(10+link)&mask == mask && link != path[0] {
				path = append(path, link)
			}
		}
		n.Caps = append(n.Caps, 1+x>>30%most)
		n.Paths = append(n.Paths, path)
	}
	return n
}

// sixWants makes wants of up to most.
func sixWants(seed, most int) (wants []int) {
	for i := range maxFlows {
		wants = append(wants, 1+mixed(seed, i+maxFlows)>>20%most)
	}
	return wants
}

// mixed makes a number that looks like none of its neighbours; it is never below 0.
func mixed(seed, i int) int { return (seed*7919 + i*104_729) * 2_654_435_761 >> 7 & math.MaxInt }

// TestNetsOfFiveLinks: where Net has room, over nets of up to five links, the net that it gives has by chapter 4 the rates that Rates tells.
func TestNetsOfFiveLinks(t *testing.T) {
	for seed := range 3_000 {
		links := 1 + seed%5
		flows := 1 + seed/5%(maxLinks-links)
		n := sixFlows(seed, 12, 1)
		n.Caps, n.Paths = n.Caps[:links], n.Paths[:flows]
		for flow, path := range n.Paths {
			path = slices.DeleteFunc(path, func(link int) bool { return link >= links })
			if len(path) == 0 {
				path = l(flow % links)
			}
			n.Paths[flow] = path
		}
		wants := sixWants(seed, 9)[:flows]
		if _, err := want.Net(n, wants); err != nil {
			t.Fatal(n, wants, err)
		}
		againstExact(t, n, wants)
	}
}
