package net_test

import (
	"errors"
	"math"
	"reflect"
	"slices"
	"testing"

	"fairsluice/api"
	"fairsluice/net"
	"fairsluice/plain"
)

const (
	maxLinks = 6
	maxFlows = 6
	maxCap   = 1_000
)

func mesh(caps []int, paths ...[]int) api.Net { return api.Net{Caps: caps, Paths: paths} }

func l(list ...int) []int { return list }

// some: a net in which link 2 has no flow, links 0 and 1 several, link 3 one.
func some() api.Net { return mesh(l(5, maxCap, 1, 7), l(0, 1), l(1), l(3, 0, 1)) }

// full: a net of MaxLinks links and MaxFlows flows.
func full() api.Net {
	return mesh(l(1, 2, 3, 4, 5, maxCap), l(0), l(1, 0), l(5), l(5, 4, 3, 2, 1, 0), l(2), l(0, 1, 2, 3, 4, 5))
}

// beyond: numbers that are no link and no flow of any net.
var beyond = []int{math.MinInt, math.MinInt + 1, -1 << 32, -maxLinks, -1, maxLinks, maxLinks + 1, maxCap, 1 << 32, math.MaxInt - 1, math.MaxInt}

// faulty: nets that Check refuses, and by which error. Those with several faults
// have, as far as they can, all of those that the document names later.
var faulty = []struct {
	name string
	n    api.Net
	want api.Errno
}{
	{"the zero value", api.Net{}, api.ErrNone},
	{"empty lists", api.Net{Caps: []int{}, Paths: [][]int{}}, api.ErrNone},
	{"no link", mesh(nil, l(0)), api.ErrNone},
	{"an empty list of links", mesh([]int{}, l(0)), api.ErrNone},
	{"no flow", mesh(l(5)), api.ErrNone},
	{"an empty list of flows", api.Net{Caps: l(5), Paths: [][]int{}}, api.ErrNone},
	{"no link, and too many flows", mesh(nil, make([][]int, maxFlows+1)...), api.ErrNone},
	{"no flow, and too many links", mesh(make([]int, maxLinks+1)), api.ErrNone},
	{"no flow, and a link that takes nothing", mesh(l(0)), api.ErrNone},
	{"no link, and a flow over none such", mesh(nil, l(9, 9)), api.ErrNone},

	{"too many links", mesh(l(1, 1, 1, 1, 1, 1, 1), l(0)), api.ErrFull},
	{"far too many links", mesh(slices.Repeat(l(1), 100_000), l(0)), api.ErrFull},
	{"too many flows", mesh(l(1), slices.Repeat([][]int{l(0)}, maxFlows+1)...), api.ErrFull},
	{"far too many flows", mesh(l(1), slices.Repeat([][]int{l(0)}, 100_000)...), api.ErrFull},
	{"too many links, of which one takes nothing", mesh(l(0, 1, 1, 1, 1, 1, 1), l(9, 9)), api.ErrFull},
	{"too many flows, and a link that takes nothing", mesh(l(0), make([][]int, maxFlows+1)...), api.ErrFull},
	{"too many flows, of which one is wrong", mesh(l(1), l(9), l(0), l(0), l(0), l(0), l(0), l(0)), api.ErrFull},

	{"a link takes nothing", mesh(l(0), l(0)), api.ErrRange},
	{"a link takes less than nothing", mesh(l(-1), l(0)), api.ErrRange},
	{"a link takes too much", mesh(l(maxCap+1), l(0)), api.ErrRange},
	{"a link takes the least int", mesh(l(math.MinInt), l(0)), api.ErrRange},
	{"a link takes the greatest int", mesh(l(math.MaxInt), l(0)), api.ErrRange},
	{"a middle link takes nothing", mesh(l(1, 0, 1), l(0)), api.ErrRange},
	{"the last link takes too much", mesh(l(1, 1, 1, 1, 1, maxCap+1), l(0)), api.ErrRange},
	{"the last link takes nothing, and a flow goes over none", mesh(l(1, 0), nil), api.ErrRange},
	{"the last link takes nothing, and a flow goes twice over one", mesh(l(1, 0), l(0, 0)), api.ErrRange},

	{"the only flow goes over none", mesh(l(5), nil), api.ErrNone},
	{"the only flow has an empty path", mesh(l(5), []int{}), api.ErrNone},
	{"a middle flow goes over none", mesh(l(5), l(0), nil, l(0)), api.ErrNone},
	{"the last flow goes over none", mesh(l(5), l(0), l(0), l(0), l(0), l(0), nil), api.ErrNone},
	{"a flow goes over none, a later one over none such", mesh(l(5), l(0), nil, l(1)), api.ErrNone},
	{"a flow goes over none, a later one twice over one", mesh(l(5), l(0), nil, l(0, 0)), api.ErrNone},

	{"a flow over the link behind the last", mesh(l(5), l(1)), api.ErrRange},
	{"a flow over link -1", mesh(l(5), l(-1)), api.ErrRange},
	{"a flow over the least int", mesh(l(5), l(math.MinInt)), api.ErrRange},
	{"a flow over the greatest int", mesh(l(5), l(math.MaxInt)), api.ErrRange},
	{"a later link of a flow is none such", mesh(l(5, 5, 5), l(2, 0, 3)), api.ErrRange},
	{"the last flow goes over none such", mesh(l(5, 5), l(0), l(1), l(1, 0), l(0, 2)), api.ErrRange},
	{"twice over none such", mesh(l(5), l(1, 1)), api.ErrRange},
	{"none such, then twice over one", mesh(l(5, 5), l(0, 2, 0)), api.ErrRange},
	{"none such, and a later flow goes over none", mesh(l(5), l(1), nil), api.ErrRange},
	{"none such, and a later flow goes twice over one", mesh(l(5), l(1), l(0, 0)), api.ErrRange},

	{"twice over one", mesh(l(5), l(0, 0)), api.ErrClash},
	{"twice over one, others between", mesh(l(5, 5, 5), l(1, 0, 2, 1)), api.ErrClash},
	{"the last flow goes twice over one", mesh(l(5, 5), l(0), l(0, 1), l(1, 0, 0)), api.ErrClash},
	{"over all, and once more", mesh(l(1, 1, 1, 1, 1, 1), l(0, 1, 2, 3, 4, 5, 3)), api.ErrClash},
	{"twice over one, then none such", mesh(l(5), l(0, 0, 1)), api.ErrClash},
	{"twice over one, and a later flow over none", mesh(l(5), l(0, 0), nil), api.ErrClash},
	{"twice over one, and a later flow over none such", mesh(l(5), l(0, 0), l(1)), api.ErrClash},
	{"a path far too long", mesh(l(5), slices.Repeat(l(0), 1_000_000)), api.ErrClash},
}

// sound: nets that Check lets pass.
var sound = []api.Net{
	mesh(l(1), l(0)),
	mesh(l(maxCap), l(0)),
	mesh(l(5, 5), l(1)),
	mesh(l(5, 5), l(1, 0), l(0, 1), l(0, 1)),
	mesh(l(7), l(0), l(0), l(0), l(0), l(0), l(0)),
	mesh(l(1, 1, 1, 1, 1, 1), l(3)),
	some(),
	full(),
}

// twin copies a net, to hold it against the net itself later.
func twin(n api.Net) api.Net {
	out := api.Net{Caps: slices.Clone(n.Caps), Paths: slices.Clone(n.Paths)}
	for i, path := range out.Paths {
		out.Paths[i] = slices.Clone(path)
	}
	return out
}

// same tells if two nets are; an empty list and nil are the same.
func same(a, b api.Net) bool {
	return slices.Equal(a.Caps, b.Caps) && slices.EqualFunc(a.Paths, b.Paths, slices.Equal[[]int])
}

// told checks what a call answered: with an error the net must be zero, whatever want is.
func told(t *testing.T, got api.Net, err error, want api.Net, no api.Errno, call ...any) {
	t.Helper()
	if no != api.OK {
		want = api.Net{}
	}
	if !same(got, want) || plain.Told(err) != no {
		t.Errorf("%v: got %v, %v; want %v, %v", call, got, err, want, no)
	}
}

func toldUsers(t *testing.T, got []int, err error, want []int, no api.Errno, call ...any) {
	t.Helper()
	if !slices.Equal(got, want) || plain.Told(err) != no {
		t.Errorf("%v: got %v, %v; want %v, %v", call, got, err, want, no)
	}
}

func TestBoundsAreTheDocuments(t *testing.T) {
	if api.MaxLinks != maxLinks || api.MaxFlows != maxFlows || api.MaxCap != maxCap {
		t.Error("a bound of package api is not the document's")
	}
}

func TestCheck(t *testing.T) {
	for _, c := range faulty {
		if got := plain.Told(net.Check(c.n)); got != c.want {
			t.Errorf("%s: got %v, want %v", c.name, got, c.want)
		}
	}
	for _, n := range sound {
		if err := net.Check(n); err != nil {
			t.Errorf("%v: got %v, want none", n, err)
		}
	}
}

// TestCheckGoesFirst: a fault of the net is told ahead of whatever else is wrong, and nothing comes with it.
func TestCheckGoesFirst(t *testing.T) {
	numbers := append(l(0, 1, 5), beyond...)
	paths := [][]int{nil, {}, l(0), l(9), l(0, 0), l(math.MinInt), l(math.MaxInt)}
	for _, c := range faulty {
		for _, i := range numbers {
			users, err := net.Users(c.n, i)
			toldUsers(t, users, err, nil, c.want, "Users", c.name, i)
			got, err := net.Drop(c.n, i)
			told(t, got, err, api.Net{}, c.want, "Drop", c.name, i)
		}
		for _, path := range paths {
			got, err := net.Add(c.n, path)
			told(t, got, err, api.Net{}, c.want, "Add", c.name, path)
		}
	}
}

func TestUsers(t *testing.T) {
	for _, c := range []struct {
		n    api.Net
		want [][]int
	}{
		{mesh(l(1), l(0)), [][]int{l(0)}},
		{mesh(l(5, 5), l(1)), [][]int{nil, l(0)}},
		{some(), [][]int{l(0, 2), l(0, 1, 2), nil, l(2)}},
		{full(), [][]int{l(0, 1, 3, 5), l(1, 3, 5), l(3, 4, 5), l(3, 5), l(3, 5), l(2, 3, 5)}},
		{mesh(l(7), l(0), l(0), l(0), l(0), l(0), l(0)), [][]int{l(0, 1, 2, 3, 4, 5)}},
	} {
		for link, want := range c.want {
			got, err := net.Users(c.n, link)
			toldUsers(t, got, err, want, api.OK, "Users", c.n, link)
		}
		for _, link := range append(l(len(c.n.Caps)), beyond...) {
			got, err := net.Users(c.n, link)
			toldUsers(t, got, err, nil, api.ErrRange, "Users", c.n, link)
		}
	}
}

func TestAdd(t *testing.T) {
	for _, c := range []struct {
		name string
		path []int
		no   api.Errno
	}{
		{"over the first link", l(0), api.OK},
		{"over the last link", l(3), api.OK},
		{"over a link that none goes over", l(2), api.OK},
		{"over all, and not rising", l(3, 0, 2, 1), api.OK},
		{"the path of another flow", l(0, 1), api.OK},
		{"over none: nil", nil, api.ErrNone},
		{"over none: empty", []int{}, api.ErrNone},
		{"over the link behind the last", l(4), api.ErrRange},
		{"a later link is none such", l(0, 1, 4), api.ErrRange},
		{"twice over none such", l(4, 4), api.ErrRange},
		{"none such, then twice over one", l(0, -1, 0), api.ErrRange},
		{"twice over one", l(0, 0), api.ErrClash},
		{"twice over one, others between", l(2, 0, 1, 2), api.ErrClash},
		{"twice over one, then none such", l(0, 0, 4), api.ErrClash},
		{"a path far too long", slices.Repeat(l(0, 1, 2, 3), 1_000_000), api.ErrClash},
	} {
		want := some()
		want.Paths = append(want.Paths, c.path)
		got, err := net.Add(some(), c.path)
		told(t, got, err, want, c.no, "Add", c.name)
	}
	for _, link := range beyond {
		got, err := net.Add(some(), l(link))
		told(t, got, err, api.Net{}, api.ErrRange, "Add", link)
		got, err = net.Add(some(), l(0, link))
		told(t, got, err, api.Net{}, api.ErrRange, "Add", 0, link)
	}
}

// TestAddUpToTheMost: the last that may be is added, no further one is, and that is told ahead of its faults.
func TestAddUpToTheMost(t *testing.T) {
	n := mesh(l(5, 6), l(0))
	for range maxFlows - 1 {
		want := twin(n)
		want.Paths = append(want.Paths, l(1, 0))
		got, err := net.Add(n, l(1, 0))
		told(t, got, err, want, api.OK, "Add to", n)
		n = got
	}
	for _, path := range [][]int{l(0), l(1, 0), nil, {}, l(2), l(-1), l(0, 0), l(math.MinInt), l(math.MaxInt)} {
		for _, most := range []api.Net{n, full()} {
			got, err := net.Add(most, path)
			told(t, got, err, api.Net{}, api.ErrFull, "Add to the most", path)
		}
	}
}

func TestDrop(t *testing.T) {
	for _, c := range []struct {
		n    api.Net
		flow int
		want api.Net
		no   api.Errno
	}{
		{some(), 0, mesh(l(5, maxCap, 1, 7), l(1), l(3, 0, 1)), api.OK},
		{some(), 1, mesh(l(5, maxCap, 1, 7), l(0, 1), l(3, 0, 1)), api.OK},
		{some(), 2, mesh(l(5, maxCap, 1, 7), l(0, 1), l(1)), api.OK},
		{some(), 3, api.Net{}, api.ErrRange},
		{full(), 5, mesh(full().Caps, full().Paths[:5]...), api.OK},
		{full(), 0, mesh(full().Caps, full().Paths[1:]...), api.OK},
		{mesh(l(5, 4), l(1), l(0)), 0, mesh(l(5, 4), l(0)), api.OK},
		{mesh(l(5, 4), l(1), l(0)), 1, mesh(l(5, 4), l(1)), api.OK},
		{mesh(l(5, 4), l(1)), 0, api.Net{}, api.ErrNone},
		{mesh(l(5, 4), l(1)), 1, api.Net{}, api.ErrRange},
	} {
		got, err := net.Drop(c.n, c.flow)
		told(t, got, err, c.want, c.no, "Drop", c.n, c.flow)
	}
	for _, n := range sound {
		for _, flow := range append(l(len(n.Paths)), beyond...) {
			got, err := net.Drop(n, flow)
			told(t, got, err, api.Net{}, api.ErrRange, "Drop", n, flow)
		}
	}
}

// TestAddThenDrop: without the flow that was added it is the net that it was.
func TestAddThenDrop(t *testing.T) {
	for _, n := range sound {
		if len(n.Paths) == maxFlows {
			continue
		}
		more, err := net.Add(n, l(0))
		if err != nil {
			t.Fatal(n, err)
		}
		got, err := net.Drop(more, len(n.Paths))
		told(t, got, err, n, api.OK, "Drop", more)
	}
}

// roomy gives a copy with so much hidden behind the length of each list that an append there would be seen.
func roomy(list []int) []int { return append(slices.Clone(list), -7, -7, -7)[:len(list)] }

func roomyNet(n api.Net) api.Net {
	paths := append(slices.Clone(n.Paths), l(-7), l(-7))[:len(n.Paths)]
	for i, path := range paths {
		paths[i] = roomy(path)
	}
	return api.Net{Caps: roomy(n.Caps), Paths: paths}
}

// whole gives all the memory of a net, also what lies behind lengths.
func whole(n api.Net) api.Net {
	out := api.Net{Caps: n.Caps[:cap(n.Caps)], Paths: slices.Clone(n.Paths[:cap(n.Paths)])}
	for i, path := range out.Paths {
		out.Paths[i] = path[:cap(path)]
	}
	return out
}

// TestNothingIsWrittenInto: what is handed in is as it was after each call, also behind the lengths.
func TestNothingIsWrittenInto(t *testing.T) {
	for _, n := range sound {
		for i := -1; i <= maxFlows; i++ {
			in, path := roomyNet(n), roomy(l(0))
			was := twin(whole(in))
			net.Check(in)
			net.Users(in, i)
			net.Add(in, path)
			net.Add(in, path[:0])
			net.Drop(in, i)
			if !reflect.DeepEqual(twin(whole(in)), was) || !slices.Equal(path[:cap(path)], roomy(l(0))[:4]) {
				t.Errorf("%v: it was %v, and is %v", i, was, whole(in))
			}
		}
	}
}

// apart checks that no two lists share memory: each is filled with a number of its own, up to its capacity.
func apart(t *testing.T, name string, lists ...[]int) {
	t.Helper()
	for i, list := range lists {
		for k := range list[:cap(list)] {
			list[:cap(list)][k] = i
		}
	}
	for i, list := range lists {
		if slices.ContainsFunc(list[:cap(list)], func(x int) bool { return x != i }) {
			t.Errorf("%s: list %d shares memory with another", name, i)
		}
	}
}

func lists(n api.Net) [][]int { return append(slices.Clone(n.Paths), n.Caps) }

// notSamePaths checks that to write the paths of one net leaves those of the other.
func notSamePaths(t *testing.T, name string, out, in api.Net) {
	t.Helper()
	was := twin(in)
	clear(out.Paths[:cap(out.Paths)])
	if !same(in, was) {
		t.Errorf("%s: the lists of paths share memory", name)
	}
}

func TestAnswersAreFresh(t *testing.T) {
	for _, n := range sound {
		if len(n.Paths) < maxFlows {
			in, path := roomyNet(n), roomy(l(0))
			out, err := net.Add(in, path)
			again, bad := net.Add(in, path)
			if err != nil || bad != nil {
				t.Fatal(n, err, bad)
			}
			apart(t, "Add", slices.Concat(lists(in), lists(out), lists(again), [][]int{path})...)
			notSamePaths(t, "Add", out, in)
			notSamePaths(t, "Add, twice", in, again)
		}
		for flow := range n.Paths {
			if len(n.Paths) == 1 {
				break
			}
			in := roomyNet(n)
			out, err := net.Drop(in, flow)
			again, bad := net.Drop(in, flow)
			if err != nil || bad != nil {
				t.Fatal(n, err, bad)
			}
			apart(t, "Drop", slices.Concat(lists(in), lists(out), lists(again))...)
			notSamePaths(t, "Drop", out, in)
			notSamePaths(t, "Drop, twice", in, again)
		}
		for link := range n.Caps {
			in := roomyNet(n)
			out, err := net.Users(in, link)
			again, bad := net.Users(in, link)
			if err != nil || bad != nil {
				t.Fatal(n, err, bad)
			}
			apart(t, "Users", append(lists(in), out, again)...)
		}
	}
}

// TestOfOneMemory: also where lists that are handed in share memory, those that come out do not.
func TestOfOneMemory(t *testing.T) {
	path := l(1, 0)
	in := mesh(l(5, 4), path, path, path)
	more, err := net.Add(in, path)
	told(t, more, err, mesh(l(5, 4), l(1, 0), l(1, 0), l(1, 0), l(1, 0)), api.OK, "Add", in)
	fewer, err := net.Drop(in, 1)
	told(t, fewer, err, mesh(l(5, 4), l(1, 0), l(1, 0)), api.OK, "Drop", in)
	apart(t, "Add and Drop", slices.Concat(lists(more), lists(fewer), [][]int{path, in.Caps})...)
}

// TestBehindTheLengthIsNotRead: what lies there makes no difference to an answer.
func TestBehindTheLengthIsNotRead(t *testing.T) {
	for _, n := range sound {
		in := roomyNet(n)
		if err := net.Check(in); err != nil {
			t.Errorf("Check(%v): got %v", n, err)
		}
		for i := -1; i <= maxLinks; i++ {
			want, no := net.Users(n, i)
			got, err := net.Users(in, i)
			toldUsers(t, got, err, want, plain.Told(no), "Users", n, i)
			fewer, bad := net.Drop(n, i)
			drop, err := net.Drop(in, i)
			told(t, drop, err, fewer, plain.Told(bad), "Drop", n, i)
			more, ill := net.Add(n, l(i))
			add, err := net.Add(in, roomy(l(i)))
			told(t, add, err, more, plain.Told(ill), "Add", n, i)
		}
	}
}

// fault of a net, as the document's words have it, told apart from the program.
func fault(n api.Net) api.Errno {
	switch {
	case len(n.Caps)*len(n.Paths) == 0:
		return api.ErrNone
	case len(n.Caps) > maxLinks, len(n.Paths) > maxFlows:
		return api.ErrFull
	case slices.Min(n.Caps) < 1, slices.Max(n.Caps) > maxCap:
		return api.ErrRange
	}
	for _, path := range n.Paths {
		if no := faultOfPath(len(n.Caps), path); no != api.OK {
			return no
		}
	}
	return api.OK
}

func faultOfPath(links int, path []int) api.Errno {
	if len(path) == 0 {
		return api.ErrNone
	}
	seen := map[int]bool{}
	for _, link := range path {
		if link < 0 || link >= links {
			return api.ErrRange
		}
		if seen[link] {
			return api.ErrClash
		}
		seen[link] = true
	}
	return api.OK
}

// everyPath: all paths of up to 3 links, numbered from -1 to 2.
func everyPath() (out [][]int) {
	out = append(out, nil)
	for at := 0; at < len(out); at++ {
		if len(out[at]) == 3 {
			continue
		}
		for link := -1; link <= 2; link++ {
			out = append(out, append(slices.Clone(out[at]), link))
		}
	}
	return out
}

// TestAllSmallNets goes over all nets of up to two links and two such paths, and every call on each.
func TestAllSmallNets(t *testing.T) {
	paths := everyPath()
	for _, caps := range [][]int{nil, l(1), l(0), l(3, 4), l(maxCap, maxCap+1), l(1, 0)} {
		for _, a := range paths {
			everyCall(t, mesh(caps, a), paths)
			for _, b := range paths {
				everyCall(t, mesh(caps, a, b), paths[:25])
			}
		}
	}
}

func everyCall(t *testing.T, n api.Net, paths [][]int) {
	t.Helper()
	no := fault(n)
	if got := plain.Told(net.Check(n)); got != no {
		t.Errorf("Check(%v): got %v, want %v", n, got, no)
	}
	for i := -1; i <= 2; i++ {
		users, bad := usersAsked(n, i)
		got, err := net.Users(n, i)
		toldUsers(t, got, err, users, bad, "Users", n, i)
		fewer, ill := dropAsked(n, i)
		drop, err := net.Drop(n, i)
		told(t, drop, err, fewer, ill, "Drop", n, i)
	}
	for _, path := range paths {
		want := no
		if no == api.OK {
			want = faultOfPath(len(n.Caps), path)
		}
		got, err := net.Add(n, path)
		told(t, got, err, mesh(n.Caps, append(slices.Clone(n.Paths), path)...), want, "Add", n, path)
	}
}

func usersAsked(n api.Net, link int) (users []int, no api.Errno) {
	if no = fault(n); no != api.OK {
		return nil, no
	}
	if link < 0 || link >= len(n.Caps) {
		return nil, api.ErrRange
	}
	for flow := range n.Paths {
		for _, x := range n.Paths[flow] {
			if x == link {
				users = append(users, flow)
			}
		}
	}
	return users, api.OK
}

func dropAsked(n api.Net, flow int) (api.Net, api.Errno) {
	switch no := fault(n); {
	case no != api.OK:
		return api.Net{}, no
	case flow < 0, flow >= len(n.Paths):
		return api.Net{}, api.ErrRange
	case len(n.Paths) == 1:
		return api.Net{}, api.ErrNone
	case flow == 0:
		return mesh(n.Caps, n.Paths[1]), api.OK
	}
	return mesh(n.Caps, n.Paths[0]), api.OK
}

// TestErrorsAreNumbers: an error can be asked by errors.Is and is never OK, and none is a plain nil.
func TestErrorsAreNumbers(t *testing.T) {
	if err := net.Check(mesh(l(5), l(0, 0))); !errors.Is(err, api.ErrClash) || errors.Is(err, api.OK) {
		t.Errorf("got %v, want ErrClash", err)
	}
	if err := net.Check(some()); err != nil {
		t.Errorf("got %v, want nil", err)
	}
}
