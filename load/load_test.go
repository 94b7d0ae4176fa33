package load_test

import (
	"errors"
	"math"
	"math/big"
	"reflect"
	"slices"
	"testing"

	"fairsluice/api"
	"fairsluice/load"
	"fairsluice/plain"
)

const (
	maxTop    = 1_000_000_000
	maxBottom = 100_000_000
	maxLinks  = 6
	maxFlows  = 6
	maxCap    = 1_000
)

func f(top, bottom int) api.Frac { return api.Frac{Top: top, Bottom: bottom} }

func fs(list ...api.Frac) []api.Frac { return list }

func l(list ...int) []int { return list }

func mesh(caps []int, paths ...[]int) api.Net { return api.Net{Caps: caps, Paths: paths} }

// told checks what a call answered: with an error the list must be empty, whatever want is.
func told(t *testing.T, got []api.Frac, err error, want []api.Frac, no api.Errno, call ...any) {
	t.Helper()
	if no != api.OK {
		want = nil
	}
	if !slices.Equal(got, want) || plain.Told(err) != no {
		t.Errorf("%v: got %v, %v; want %v, %v", call, got, err, want, no)
	}
}

func toldFits(t *testing.T, got bool, err error, want bool, no api.Errno, call ...any) {
	t.Helper()
	if got != (want && no == api.OK) || plain.Told(err) != no {
		t.Errorf("%v: got %v, %v; want %v, %v", call, got, err, want, no)
	}
}

// refused checks that all three calls tell an error, and nothing with it.
func refused(t *testing.T, name string, n api.Net, r []api.Frac, no api.Errno) {
	t.Helper()
	of, err := load.Of(n, r)
	told(t, of, err, nil, no, "Of", name)
	left, err := load.Left(n, r)
	told(t, left, err, nil, no, "Left", name)
	fits, err := load.Fits(n, r)
	toldFits(t, fits, err, false, no, "Fits", name)
}

func TestBoundsAreTheDocuments(t *testing.T) {
	if api.MaxTop != maxTop || api.MaxBottom != maxBottom || api.MaxLinks != maxLinks || api.MaxFlows != maxFlows || api.MaxCap != maxCap {
		t.Error("a bound of package api is not the document's")
	}
}

// right: nets and rates of which no call tells an error.
var right = []struct {
	name     string
	n        api.Net
	r        []api.Frac
	of, left []api.Frac
	fits     bool
}{
	{"one flow over one link", mesh(l(5), l(0)), fs(f(3, 2)), fs(f(3, 2)), fs(f(7, 2)), true},
	{"links that several go over", mesh(l(5, 4), l(1, 0), l(1), l(0)), fs(f(2, 1), f(1, 1), f(3, 2)),
		fs(f(7, 2), f(3, 1)), fs(f(3, 2), f(1, 1)), true},
	{"links that none goes over", mesh(l(1, 17, 1000), l(1)), fs(f(97, 6)),
		fs(f(0, 1), f(97, 6), f(0, 1)), fs(f(1, 1), f(5, 6), f(1000, 1)), true},
	{"a path against the order of the links", mesh(l(4, 7, 25), l(2, 0, 1)), fs(f(2, 1)),
		fs(f(2, 1), f(2, 1), f(2, 1)), fs(f(2, 1), f(5, 1), f(23, 1)), true},
	{"each link has flows of its own", mesh(l(3, 5), l(1), l(0)), fs(f(1, 3), f(1, 5)),
		fs(f(1, 5), f(1, 3)), fs(f(14, 5), f(14, 3)), true},
	{"a sum that comes to lower terms", mesh(l(1), l(0), l(0)), fs(f(1, 6), f(1, 3)), fs(f(1, 2)), fs(f(1, 2)), true},

	{"a rate of 0", mesh(l(5), l(0)), fs(f(0, 1)), fs(f(0, 1)), fs(f(5, 1)), true},
	{"all rates are 0", mesh(l(5, 1), l(0), l(0, 1)), fs(f(0, 1), f(0, 1)), fs(f(0, 1), f(0, 1)), fs(f(5, 1), f(1, 1)), true},
	{"a rate of 0 beside another", mesh(l(5), l(0), l(0)), fs(f(0, 1), f(5, 1)), fs(f(5, 1)), fs(f(0, 1)), true},

	{"it just fits", mesh(l(6), l(0), l(0), l(0)), fs(f(3, 1), f(2, 1), f(1, 1)), fs(f(6, 1)), fs(f(0, 1)), true},
	{"it just fits, in parts", mesh(l(1), l(0), l(0), l(0)), fs(f(1, 3), f(1, 3), f(1, 3)), fs(f(1, 1)), fs(f(0, 1)), true},
	{"the least bit below", mesh(l(1), l(0)), fs(f(maxBottom-1, maxBottom)), fs(f(maxBottom-1, maxBottom)), fs(f(1, maxBottom)), true},
	{"the least bit above", mesh(l(1), l(0)), fs(f(maxBottom+1, maxBottom)), fs(f(maxBottom+1, maxBottom)), fs(f(-1, maxBottom)), false},
	{"the least bit above, by two", mesh(l(1), l(0), l(0)), fs(f(1, 1), f(1, maxBottom)), fs(f(maxBottom+1, maxBottom)), fs(f(-1, maxBottom)), false},
	{"just fits at the greatest", mesh(l(maxCap), l(0)), fs(f(maxCap, 1)), fs(f(maxCap, 1)), fs(f(0, 1)), true},
	{"1 above the greatest", mesh(l(maxCap), l(0)), fs(f(maxCap+1, 1)), fs(f(maxCap+1, 1)), fs(f(-1, 1)), false},
	{"above at the first link alone", mesh(l(1, 9), l(0, 1)), fs(f(2, 1)), fs(f(2, 1), f(2, 1)), fs(f(-1, 1), f(7, 1)), false},
	{"above at the last link alone", mesh(l(9, 9, 1), l(0, 1, 2)), fs(f(2, 1)), fs(f(2, 1), f(2, 1), f(2, 1)), fs(f(7, 1), f(7, 1), f(-1, 1)), false},
	{"all as much as may be", mesh(l(1, 2, 3, 4, 5, 6), l(0), l(1), l(2), l(3), l(4), l(5)),
		fs(f(1, 1), f(2, 1), f(3, 1), f(4, 1), f(5, 1), f(6, 1)), fs(f(1, 1), f(2, 1), f(3, 1), f(4, 1), f(5, 1), f(6, 1)),
		fs(f(0, 1), f(0, 1), f(0, 1), f(0, 1), f(0, 1), f(0, 1)), true},
	{"all flows over all links", mesh(l(3, 4, 5, 6, 7, 8), l(0, 1, 2, 3, 4, 5), l(5, 4, 3, 2, 1, 0), l(0, 1, 2, 3, 4, 5),
		l(0, 2, 4, 1, 3, 5), l(1, 0, 3, 2, 5, 4), l(0, 1, 2, 3, 4, 5)),
		fs(f(1, 2), f(1, 2), f(1, 2), f(1, 2), f(1, 2), f(1, 2)), fs(f(3, 1), f(3, 1), f(3, 1), f(3, 1), f(3, 1), f(3, 1)),
		fs(f(0, 1), f(1, 1), f(2, 1), f(3, 1), f(4, 1), f(5, 1)), true},

	{"a rate below 0", mesh(l(5), l(0)), fs(f(-1, 2)), fs(f(-1, 2)), fs(f(11, 2)), false},
	{"the last rate below 0, and no load is", mesh(l(5), l(0), l(0)), fs(f(3, 1), f(-1, 1)), fs(f(2, 1)), fs(f(3, 1)), false},
	{"a rate the least bit below 0", mesh(l(5), l(0), l(0)), fs(f(-1, maxBottom), f(1, maxBottom)), fs(f(0, 1)), fs(f(5, 1)), false},
	{"a rate below 0, and a load above", mesh(l(5, 5), l(0), l(1)), fs(f(-1, 1), f(6, 1)), fs(f(-1, 1), f(6, 1)), fs(f(6, 1), f(-1, 1)), false},
	{"a load of 0 by a rate below 0", mesh(l(5), l(0), l(0)), fs(f(7, 3), f(-7, 3)), fs(f(0, 1)), fs(f(5, 1)), false},

	{"the greatest rate", mesh(l(maxCap), l(0)), fs(f(maxTop, 1)), fs(f(maxTop, 1)), fs(f(maxCap-maxTop, 1)), false},
	{"up to the greatest load", mesh(l(1), l(0), l(0)), fs(f(maxTop-1, 1), f(1, 1)), fs(f(maxTop, 1)), fs(f(1-maxTop, 1)), false},
	{"down from it, and up to it again", mesh(l(1), l(0), l(0), l(0)), fs(f(maxTop, 1), f(-1, 1), f(1, 1)), fs(f(maxTop, 1)), fs(f(1-maxTop, 1)), false},
	{"the least that leaves what may be", mesh(l(1), l(0)), fs(f(1-maxTop, 1)), fs(f(1-maxTop, 1)), fs(f(maxTop, 1)), false},
	{"the finest rate", mesh(l(9, 1), l(0, 1)), fs(f(1, maxBottom)), fs(f(1, maxBottom), f(1, maxBottom)),
		fs(f(9*maxBottom-1, maxBottom), f(maxBottom-1, maxBottom)), true},
	{"the finest bottom of two", mesh(l(1), l(0), l(0)), fs(f(1, 10_000), f(1, 9_999)), fs(f(19_999, 99_990_000)), fs(f(99_970_001, 99_990_000)), true},
	{"rates that do not go together, apart", mesh(l(1, 1), l(0), l(1)), fs(f(1, 10_000), f(1, 10_001)),
		fs(f(1, 10_000), f(1, 10_001)), fs(f(9_999, 10_000), f(10_000, 10_001)), true},
}

func TestRight(t *testing.T) {
	for _, c := range right {
		of, err := load.Of(c.n, c.r)
		told(t, of, err, c.of, api.OK, "Of", c.name)
		left, err := load.Left(c.n, c.r)
		told(t, left, err, c.left, api.OK, "Left", c.name)
		fits, err := load.Fits(c.n, c.r)
		toldFits(t, fits, err, c.fits, api.OK, "Fits", c.name)
	}
}

// faultyNets: what chapter 2's Check refuses, and by which error.
var faultyNets = []struct {
	name string
	n    api.Net
	want api.Errno
}{
	{"the zero value", api.Net{}, api.ErrNone},
	{"empty lists", api.Net{Caps: []int{}, Paths: [][]int{}}, api.ErrNone},
	{"no link", mesh(nil, l(0)), api.ErrNone},
	{"no flow", mesh(l(5)), api.ErrNone},
	{"too many links", mesh(slices.Repeat(l(1), maxLinks+1), l(0)), api.ErrFull},
	{"too many flows", mesh(l(1), slices.Repeat([][]int{l(0)}, maxFlows+1)...), api.ErrFull},
	{"a link takes nothing", mesh(l(0), l(0)), api.ErrRange},
	{"the last link takes too much", mesh(l(1, maxCap+1), l(0)), api.ErrRange},
	{"a link takes the least int", mesh(l(math.MinInt), l(0)), api.ErrRange},
	{"a link takes the greatest int", mesh(l(math.MaxInt), l(0)), api.ErrRange},
	{"a flow over none", mesh(l(5), nil), api.ErrNone},
	{"the last flow over none", mesh(l(5), l(0), []int{}), api.ErrNone},
	{"a flow over none such", mesh(l(5), l(1)), api.ErrRange},
	{"a flow over the least int", mesh(l(5), l(math.MinInt)), api.ErrRange},
	{"the last flow over the greatest int", mesh(l(5), l(0), l(0, math.MaxInt)), api.ErrRange},
	{"a flow twice over one", mesh(l(5), l(0, 0)), api.ErrClash},
	{"the last flow twice over one", mesh(l(5, 5), l(0), l(1, 0, 1)), api.ErrClash},
}

// faultyRates: what chapter 1's Check refuses, and by which error.
var faultyRates = []struct {
	a    api.Frac
	want api.Errno
}{
	{f(0, 0), api.ErrRange}, {f(1, 0), api.ErrRange}, {f(1, -1), api.ErrRange}, {f(-1, -1), api.ErrRange},
	{f(maxTop+1, 1), api.ErrRange}, {f(-maxTop-1, 1), api.ErrRange}, {f(1, maxBottom+1), api.ErrRange},
	{f(math.MinInt, 1), api.ErrRange}, {f(math.MaxInt, 1), api.ErrRange},
	{f(1, math.MinInt), api.ErrRange}, {f(1, math.MaxInt), api.ErrRange},
	{f(math.MinInt, math.MinInt), api.ErrRange}, {f(math.MaxInt, math.MaxInt), api.ErrRange}, {f(math.MinInt, -1), api.ErrRange},
	{f(2, maxBottom+2), api.ErrRange}, {f(maxTop+2, 2), api.ErrRange},
	{f(0, 2), api.ErrShape}, {f(0, maxBottom), api.ErrShape}, {f(2, 4), api.ErrShape}, {f(-6, 4), api.ErrShape},
	{f(maxTop, maxBottom), api.ErrShape}, {f(-maxTop, 2), api.ErrShape},
}

// TestNetIsCheckedFirst: a fault of the net is told, whatever is wrong with the rates.
func TestNetIsCheckedFirst(t *testing.T) {
	for _, c := range faultyNets {
		for many := range maxFlows + 3 {
			for _, a := range fs(f(1, 1), f(maxTop, 1), f(0, 0), f(2, 4), f(math.MinInt, math.MaxInt)) {
				refused(t, c.name, c.n, slices.Repeat(fs(a), many), c.want)
			}
		}
	}
}

// TestAsManyRates: too few or too many are told ahead of what is wrong with one, and of a sum that is too great.
func TestAsManyRates(t *testing.T) {
	for flows := 1; flows <= maxFlows; flows++ {
		n := mesh(l(5, 6), slices.Repeat([][]int{l(0)}, flows)...)
		for many := range maxFlows + 3 {
			if many == flows {
				continue
			}
			for _, a := range fs(f(1, 1), f(-1, 1), f(maxTop, 1), f(0, 0), f(2, 4), f(math.MinInt, math.MinInt)) {
				refused(t, "as many rates", n, slices.Repeat(fs(a), many), api.ErrShape)
			}
		}
		refused(t, "nil", n, nil, api.ErrShape)
		refused(t, "empty", n, []api.Frac{}, api.ErrShape)
		refused(t, "far too many", n, make([]api.Frac, 1_000_000), api.ErrShape)
	}
}

// TestRatesAreChecked: the first faulty rate is told, wherever it lies, also of a flow
// over another link, and ahead of a sum that is too great.
func TestRatesAreChecked(t *testing.T) {
	n := mesh(l(5, 6), l(0), l(0), l(1), l(0, 1))
	for _, c := range faultyRates {
		for at := range n.Paths {
			one := slices.Repeat(fs(f(1, 2)), len(n.Paths))
			one[at] = c.a
			refused(t, "one faulty rate", n, one, c.want)
			great := slices.Repeat(fs(f(maxTop, 1)), len(n.Paths))
			great[at] = c.a
			refused(t, "great rates, and a faulty one", n, great, c.want)
			for _, d := range faultyRates {
				for later := at + 1; later < len(n.Paths); later++ {
					two := slices.Clone(one)
					two[later] = d.a
					refused(t, "two faulty rates", n, two, c.want)
				}
			}
		}
	}
}

func TestSumsThatAreTooGreat(t *testing.T) {
	for _, c := range []struct {
		name string
		n    api.Net
		r    []api.Frac
	}{
		{"a top above", mesh(l(5), l(0), l(0)), fs(f(maxTop, 1), f(1, 1))},
		{"a top below", mesh(l(5), l(0), l(0)), fs(f(-maxTop, 1), f(-1, 1))},
		{"a top above by a half", mesh(l(5), l(0), l(0)), fs(f(maxTop, 1), f(1, 2))},
		{"a bottom above", mesh(l(5), l(0), l(0)), fs(f(1, 10_000), f(1, 10_001))},
		{"the finest and a third", mesh(l(5), l(0), l(0)), fs(f(1, maxBottom), f(1, 3))},
		{"on the way, though not at the end", mesh(l(5), l(0), l(0), l(0)), fs(f(maxTop, 1), f(1, 1), f(-1, 1))},
		{"a bottom on the way, though not at the end", mesh(l(5), l(0), l(0), l(0)), fs(f(1, 10_000), f(1, 10_001), f(-1, 10_000))},
		{"at the last flow", mesh(l(5), l(0), l(0), l(0), l(0), l(0), l(0)), fs(f(maxTop-4, 1), f(1, 1), f(1, 1), f(1, 1), f(1, 1), f(1, 1))},
		{"at the first link alone", mesh(l(5, 5), l(0), l(0, 1)), fs(f(maxTop, 1), f(1, 1))},
		{"at a middle link alone", mesh(l(5, 5, 5), l(0, 1), l(2, 1)), fs(f(maxTop, 1), f(1, 1))},
		{"at the last link alone", mesh(l(5, 5, 5, 5, 5, 5), l(5, 0), l(3), l(5)), fs(f(1, 10_000), f(0, 1), f(1, 10_001))},
		{"at a later link, and the first is above what it takes", mesh(l(5, 5), l(0), l(1), l(1)), fs(f(6, 1), f(maxTop, 1), f(1, 1))},
		{"at a later link, and a rate is below 0", mesh(l(5, 5), l(0), l(1), l(1)), fs(f(-6, 1), f(maxTop, 1), f(1, 1))},
	} {
		refused(t, c.name, c.n, c.r, api.ErrFull)
	}
}

// TestLeftThatIsTooGreat: Left's own sums tell ErrFull, where Of and Fits tell none.
func TestLeftThatIsTooGreat(t *testing.T) {
	for _, c := range []struct {
		name string
		n    api.Net
		r    []api.Frac
		of   []api.Frac
		fits bool
	}{
		{"the least rate", mesh(l(1), l(0)), fs(f(-maxTop, 1)), fs(f(-maxTop, 1)), false},
		{"the least rate, and the greatest link", mesh(l(maxCap), l(0)), fs(f(-maxTop, 1)), fs(f(-maxTop, 1)), false},
		{"the finest rate", mesh(l(11), l(0)), fs(f(1, maxBottom)), fs(f(1, maxBottom)), true},
		{"the finest rate, and the greatest link", mesh(l(maxCap), l(0)), fs(f(1, maxBottom)), fs(f(1, maxBottom)), true},
		{"the finest load of two", mesh(l(maxCap), l(0), l(0)), fs(f(1, 10_000), f(1, 9_999)), fs(f(19_999, 99_990_000)), true},
		{"at a middle link alone", mesh(l(1, 12, 1), l(0, 1, 2)), fs(f(1, maxBottom)), fs(f(1, maxBottom), f(1, maxBottom), f(1, maxBottom)), true},
		{"at the last link alone", mesh(l(1, 1, 12), l(0), l(2)), fs(f(1, 2), f(1, maxBottom)), fs(f(1, 2), f(0, 1), f(1, maxBottom)), true},
		{"at the last link, and the first is above", mesh(l(1, 12), l(0), l(1)), fs(f(2, 1), f(1, maxBottom)), fs(f(2, 1), f(1, maxBottom)), false},
		{"at the last link, of a load below 0", mesh(l(1, 1), l(0, 1), l(1)), fs(f(1-maxTop, 1), f(-1, 1)), fs(f(1-maxTop, 1), f(-maxTop, 1)), false},
	} {
		of, err := load.Of(c.n, c.r)
		told(t, of, err, c.of, api.OK, "Of", c.name)
		fits, err := load.Fits(c.n, c.r)
		toldFits(t, fits, err, c.fits, api.OK, "Fits", c.name)
		left, err := load.Left(c.n, c.r)
		told(t, left, err, nil, api.ErrFull, "Left", c.name)
	}
}

// roomy gives a copy with something hidden behind its length, so that an append there would be seen.
func roomy[T any](list []T, hidden T) []T {
	return append(slices.Clone(list), hidden, hidden, hidden)[:len(list)]
}

func roomyNet(n api.Net) api.Net {
	paths := roomy(n.Paths, l(-7))
	for i, path := range paths {
		paths[i] = roomy(path, 0)
	}
	return api.Net{Caps: roomy(n.Caps, -7), Paths: paths}
}

// whole copies all the memory of a net, also what lies behind lengths.
func whole(n api.Net) api.Net {
	paths := slices.Clone(n.Paths[:cap(n.Paths)])
	for i, path := range paths {
		paths[i] = slices.Clone(path[:cap(path)])
	}
	return api.Net{Caps: slices.Clone(n.Caps[:cap(n.Caps)]), Paths: paths}
}

// TestNothingIsWrittenInto: what is handed in is as it was after each call, also behind the lengths, and also after an error.
func TestNothingIsWrittenInto(t *testing.T) {
	for _, c := range right {
		for _, last := range fs(c.r[len(c.r)-1], f(2, 4), f(0, 0), f(maxTop, 1), f(-maxTop, 1)) {
			n, r := roomyNet(c.n), roomy(c.r, f(-7, -7))
			r[len(r)-1] = last
			net, rates := whole(n), slices.Clone(r[:cap(r)])
			load.Of(n, r)
			load.Left(n, r)
			load.Fits(n, r)
			if !reflect.DeepEqual(whole(n), net) || !slices.Equal(r[:cap(r)], rates) {
				t.Errorf("%s: it was %v, %v, and is %v, %v", c.name, net, rates, whole(n), r[:cap(r)])
			}
		}
	}
}

// TestBehindTheLengthIsNotRead: what lies there makes no difference to an answer.
func TestBehindTheLengthIsNotRead(t *testing.T) {
	for _, c := range right {
		n, r := roomyNet(c.n), roomy(c.r, f(-7, -7))
		of, err := load.Of(n, r)
		told(t, of, err, c.of, api.OK, "Of", c.name)
		left, err := load.Left(n, r)
		told(t, left, err, c.left, api.OK, "Left", c.name)
		fits, err := load.Fits(n, r)
		toldFits(t, fits, err, c.fits, api.OK, "Fits", c.name)
		refused(t, c.name, n, r[:len(r)-1], api.ErrShape)
	}
}

// TestAnswersAreFresh: no two lists share memory, of those that come out and those handed in; each is
// filled with a number of its own, up to its capacity.
func TestAnswersAreFresh(t *testing.T) {
	for _, c := range right {
		n, r := roomyNet(c.n), roomy(c.r, f(-7, -7))
		was := whole(n)
		lists := [][]api.Frac{r}
		for _, call := range []func(api.Net, []api.Frac) ([]api.Frac, error){load.Of, load.Left, load.Of, load.Left} {
			out, err := call(n, r)
			if err != nil {
				t.Fatal(c.name, err)
			}
			lists = append(lists, out)
		}
		for i, list := range lists {
			for k := range list[:cap(list)] {
				list[:cap(list)][k] = f(i, 1)
			}
		}
		for i, list := range lists {
			if slices.ContainsFunc(list[:cap(list)], func(a api.Frac) bool { return a != f(i, 1) }) {
				t.Errorf("%s: list %d shares memory with another", c.name, i)
			}
		}
		if !reflect.DeepEqual(whole(n), was) {
			t.Errorf("%s: the net shares memory with an answer", c.name)
		}
	}
}

// TestNothingIsKept: an answer hangs on its arguments alone, whatever became of earlier ones.
func TestNothingIsKept(t *testing.T) {
	for _, c := range right {
		n, r := roomyNet(c.n), slices.Clone(c.r)
		first, err := load.Of(n, r)
		told(t, first, err, c.of, api.OK, "Of", c.name)
		left, err := load.Left(n, r)
		told(t, left, err, c.left, api.OK, "Left", c.name)
		for i := range r {
			r[i] = f(0, 1)
		}
		for i := range n.Caps {
			n.Caps[i] = 3
		}
		told(t, first, nil, c.of, api.OK, "Of, once its arguments are others", c.name)
		told(t, left, nil, c.left, api.OK, "Left, once its arguments are others", c.name)
		again, err := load.Left(n, r)
		told(t, again, err, slices.Repeat(fs(f(3, 1)), len(n.Caps)), api.OK, "Left, of others", c.name)
	}
}

// TestErrorsAreNumbers: an error can be asked by errors.Is and is never OK, and none is a plain nil.
func TestErrorsAreNumbers(t *testing.T) {
	n := mesh(l(5), l(0))
	if _, err := load.Of(n, nil); !errors.Is(err, api.ErrShape) || errors.Is(err, api.OK) {
		t.Errorf("got %v, want ErrShape", err)
	}
	if _, err := load.Left(n, fs(f(1, 0))); !errors.Is(err, api.ErrRange) || errors.Is(err, api.OK) {
		t.Errorf("got %v, want ErrRange", err)
	}
	if _, err := load.Fits(n, fs(f(1, 2))); err != nil {
		t.Errorf("got %v, want nil", err)
	}
}

func rat(a api.Frac) *big.Rat { return big.NewRat(int64(a.Top), int64(a.Bottom)) }

func within(n, least, greatest int) bool { return n >= least && n <= greatest }

// fault of a fraction, as the document's words have it, told apart from the program.
func fault(a api.Frac) api.Errno {
	if !within(a.Bottom, 1, maxBottom) || !within(a.Top, -maxTop, maxTop) {
		return api.ErrRange
	}
	if rat(a).Denom().Int64() != int64(a.Bottom) {
		return api.ErrShape
	}
	return api.OK
}

func tooGreat(a *big.Rat) bool {
	return a.Num().CmpAbs(big.NewInt(maxTop)) > 0 || a.Denom().Cmp(big.NewInt(maxBottom)) > 0
}

// asked is what the document's words ask of a net that is right: loads, what is left, if it fits,
// the error of Of and Fits, and the error of Left.
func asked(n api.Net, r []api.Frac) (of, left []api.Frac, fits bool, no, bad api.Errno) {
	if len(r) != len(n.Paths) {
		return nil, nil, false, api.ErrShape, api.ErrShape
	}
	fits = true
	for _, a := range r {
		if no := fault(a); no != api.OK {
			return nil, nil, false, no, no
		}
		fits = fits && a.Top >= 0
	}
	for link, takes := range n.Caps {
		sum := new(big.Rat)
		for flow, path := range n.Paths {
			if slices.Contains(path, link) {
				sum.Add(sum, rat(r[flow]))
			}
			if tooGreat(sum) {
				return nil, nil, false, api.ErrFull, api.ErrFull
			}
		}
		of = append(of, f(int(sum.Num().Int64()), int(sum.Denom().Int64())))
		rest := new(big.Rat).Sub(rat(f(takes, 1)), sum)
		fits = fits && rest.Sign() >= 0
		if tooGreat(rest) {
			bad = api.ErrFull
		}
		left = append(left, f(int(rest.Num().Int64()), int(rest.Denom().Int64())))
	}
	return of, left, fits, api.OK, bad
}

func againstExact(t *testing.T, n api.Net, r []api.Frac) {
	t.Helper()
	of, left, fits, no, bad := asked(n, r)
	got, err := load.Of(n, r)
	told(t, got, err, of, no, "Of", n, r)
	got, err = load.Left(n, r)
	told(t, got, err, left, bad, "Left", n, r)
	is, err := load.Fits(n, r)
	toldFits(t, is, err, fits, no, "Fits", n, r)
}

// some rates: ordinary ones, some at the bounds, and some that may not be.
var some = fs(
	f(0, 1), f(1, 2), f(-1, 2), f(5, 1), f(maxTop, 1), f(-maxTop, 1), f(1, maxBottom), f(1, 10_000), f(1, 10_001),
	f(0, 0), f(2, 4), f(math.MinInt, math.MinInt), f(math.MaxInt, 1),
)

// TestAgainstExact holds all nets of two links and up to three flows, with all such rates, against exact numbers.
func TestAgainstExact(t *testing.T) {
	paths := [][]int{l(0), l(1), l(0, 1), l(1, 0)}
	nets := []api.Net{}
	for _, p := range paths {
		nets = append(nets, mesh(l(5, 1), p), mesh(l(11, maxCap), p))
		for _, q := range paths {
			nets = append(nets, mesh(l(10, 1), p, q), mesh(l(1, 11), p, q))
			for _, s := range paths[:3] {
				nets = append(nets, mesh(l(5, 10), p, q, s))
			}
		}
	}
	for _, n := range nets {
		everyRates(some, len(n.Paths), func(r []api.Frac) { againstExact(t, n, r) })
	}
}

// everyRates hands on all lists of so many of the rates.
func everyRates(rates []api.Frac, many int, to func([]api.Frac)) {
	if many == 0 {
		to(nil)
		return
	}
	everyRates(rates, many-1, func(r []api.Frac) {
		for _, a := range rates {
			to(append(slices.Clone(r), a))
		}
	})
}

// TestSixFlows holds nets of six links and six flows, made by a short rule, against exact numbers.
func TestSixFlows(t *testing.T) {
	for seed := range 4_000 {
		n := mesh(nil)
		r := []api.Frac{}
		for i := range maxFlows {
			x := (seed*7919 + i*104_729) * 2_654_435_761 >> 7
			n.Caps = append(n.Caps, 1+x%40)
			path := l(x % maxLinks)
			for link := range maxLinks {
				if x>>(10+link)&1 == 1 && link != path[0] {
					path = append(path, link)
				}
			}
			n.Paths = append(n.Paths, path)
			a := rat(f(x>>20%40-seed%3, 1+x>>26%9))
			r = append(r, f(int(a.Num().Int64()), int(a.Denom().Int64())))
		}
		againstExact(t, n, r)
	}
}
