package rank_test

import (
	"errors"
	"math"
	"math/big"
	"slices"
	"testing"

	"fairsluice/api"
	"fairsluice/fill"
	"fairsluice/load"
	"fairsluice/plain"
	"fairsluice/rank"
)

const (
	maxTop    = 1_000_000_000
	maxBottom = 100_000_000
	maxFlows  = 6
)

func f(top, bottom int) api.Frac { return api.Frac{Top: top, Bottom: bottom} }

func fs(list ...api.Frac) []api.Frac { return list }

// w gives whole rates.
func w(tops ...int) (out []api.Frac) {
	for _, top := range tops {
		out = append(out, f(top, 1))
	}
	return out
}

func l(list ...int) []int { return list }

// memory copies a list with what lies behind its length.
func memory(list []api.Frac) []api.Frac { return slices.Clone(list[:cap(list)]) }

// kept checks that a list that was handed in is as it was, behind its length, too.
func kept(t *testing.T, list, was []api.Frac, name ...any) {
	t.Helper()
	if !slices.Equal(list[:cap(list)], was) {
		t.Errorf("%v: it was %v, and is %v", name, was, list[:cap(list)])
	}
}

// told checks what Sorted and Least answer of rates that are right.
func told(t *testing.T, r, want []api.Frac, name ...any) {
	t.Helper()
	was := memory(r)
	sorted, err := rank.Sorted(r)
	if err != nil || !slices.Equal(sorted, want) {
		t.Errorf("Sorted, %v: of %v got %v, %v; want %v", name, r, sorted, err, want)
	}
	kept(t, r, was, "Sorted", name)
	least, err := rank.Least(r)
	if len(want) == 0 {
		want = fs(f(0, 0))
		if plain.Told(err) != api.ErrNone {
			t.Errorf("Least, %v: of %v got %v, want ErrNone", name, r, err)
		}
	} else if err != nil {
		t.Errorf("Least, %v: of %v got %v", name, r, err)
	}
	if least != want[0] {
		t.Errorf("Least, %v: of %v got %v, want %v", name, r, least, want[0])
	}
	kept(t, r, was, "Least", name)
}

// refused checks that Sorted and Least, and Compare of it and others, tell an error, and nothing with it.
func refused(t *testing.T, r []api.Frac, no api.Errno, name ...any) {
	t.Helper()
	was := memory(r)
	if sorted, err := rank.Sorted(r); sorted != nil || plain.Told(err) != no {
		t.Errorf("Sorted, %v: of %v got %v, %v; want %v", name, r, sorted, err, no)
	}
	if least, err := rank.Least(r); least != f(0, 0) || plain.Told(err) != no {
		t.Errorf("Least, %v: of %v got %v, %v; want %v", name, r, least, err, no)
	}
	kept(t, r, was, name)
	for _, other := range [][]api.Frac{nil, w(1), w(3, 2, 1), w(1, 2, 3, 4, 5, 6), r} {
		compared(t, r, other, 0, no, name...)
		compared(t, other, r, 0, no, name...)
	}
}

// compared checks what Compare answers.
func compared(t *testing.T, a, b []api.Frac, want int, no api.Errno, name ...any) {
	t.Helper()
	first, second := memory(a), memory(b)
	k, err := rank.Compare(a, b)
	if k != want || plain.Told(err) != no {
		t.Errorf("Compare, %v: of %v, %v got %d, %v; want %d, %v", name, a, b, k, err, want, no)
	}
	kept(t, a, first, "Compare", name)
	kept(t, b, second, "Compare", name)
}

func TestBoundsAreTheDocuments(t *testing.T) {
	if api.MaxTop != maxTop || api.MaxBottom != maxBottom || api.MaxFlows != maxFlows {
		t.Error("a bound of package api is not the document's")
	}
}

// right: rates, and the same ones sorted.
var right = []struct {
	name string
	r    []api.Frac
	want []api.Frac
}{
	{"nil", nil, nil},
	{"none", []api.Frac{}, nil},
	{"one", w(7), w(7)},
	{"one of 0", w(0), w(0)},
	{"one below 0", w(-7), w(-7)},
	{"the greatest one", w(maxTop), w(maxTop)},
	{"the least one", w(-maxTop), w(-maxTop)},
	{"the finest one", fs(f(1, maxBottom)), fs(f(1, maxBottom))},

	{"two that rise", w(1, 2), w(1, 2)},
	{"two that fall", w(2, 1), w(1, 2)},
	{"two alike", w(2, 2), w(2, 2)},
	{"three that rise", w(1, 2, 3), w(1, 2, 3)},
	{"three that fall", w(3, 2, 1), w(1, 2, 3)},
	{"the least is first", w(1, 3, 2), w(1, 2, 3)},
	{"the least lies between", w(2, 1, 3), w(1, 2, 3)},
	{"the least is last", w(2, 3, 1), w(1, 2, 3)},
	{"as many as may be rise", w(1, 2, 3, 4, 5, 6), w(1, 2, 3, 4, 5, 6)},
	{"as many as may be fall", w(6, 5, 4, 3, 2, 1), w(1, 2, 3, 4, 5, 6)},
	{"as many as may be lie anyhow", w(4, 6, 1, 5, 3, 2), w(1, 2, 3, 4, 5, 6)},
	{"as many as may be are alike", w(4, 4, 4, 4, 4, 4), w(4, 4, 4, 4, 4, 4)},
	{"one is told as often as it is there", w(2, 1, 2, 1, 2, 1), w(1, 1, 1, 2, 2, 2)},
	{"alike ones between others", w(5, 1, 3, 3, 9, 3), w(1, 3, 3, 3, 5, 9)},

	{"below 0", w(-1, -3, -2), w(-3, -2, -1)},
	{"below 0, 0, and above", w(1, 0, -1), w(-1, 0, 1)},
	{"below 0, though the number is greater", w(2, -9), w(-9, 2)},
	{"alike but for the sign", w(5, -5, 5, -5), w(-5, -5, 5, 5)},
	{"parts below 0", fs(f(-1, 3), f(-1, 2), f(-2, 3)), fs(f(-2, 3), f(-1, 2), f(-1, 3))},
	{"0 between parts", fs(f(1, maxBottom), f(0, 1), f(-1, maxBottom)), fs(f(-1, maxBottom), f(0, 1), f(1, maxBottom))},

	{"less by its bottom", fs(f(1, 2), f(1, 3), f(1, 4)), fs(f(1, 4), f(1, 3), f(1, 2))},
	{"less, though its top is more", fs(f(1, 1), f(5, 7)), fs(f(5, 7), f(1, 1))},
	{"less, though its bottom is less", fs(f(5, 3), f(3, 2)), fs(f(3, 2), f(5, 3))},
	{"less, though top and bottom are more", fs(f(1, 2), f(3, 7)), fs(f(3, 7), f(1, 2))},
	{"less, and top and bottom are less", fs(f(3, 5), f(1, 2)), fs(f(1, 2), f(3, 5))},
	{"whole by rounding alike", fs(f(9, 4), f(5, 2), f(7, 3), f(2, 1)), fs(f(2, 1), f(9, 4), f(7, 3), f(5, 2))},
	{"whole by rounding alike, below 0", fs(f(-2, 1), f(-9, 4), f(-7, 3), f(-5, 2)), fs(f(-5, 2), f(-7, 3), f(-9, 4), f(-2, 1))},
	{"apart by the least bit", fs(f(maxBottom-1, maxBottom), f(maxBottom-2, maxBottom-1)), fs(f(maxBottom-2, maxBottom-1), f(maxBottom-1, maxBottom))},
	{"apart by the least bit, below 0", fs(f(2-maxBottom, maxBottom-1), f(1-maxBottom, maxBottom)), fs(f(1-maxBottom, maxBottom), f(2-maxBottom, maxBottom-1))},
	{"great and apart by a bit of some 10^16", fs(f(999_999_999, 99_999_998), f(maxTop, 99_999_999)), fs(f(maxTop, 99_999_999), f(999_999_999, 99_999_998))},
	{"the greatest and the least that may be", fs(f(maxTop, 1), f(1, maxBottom), f(-maxTop, 1), f(-1, maxBottom), f(0, 1), f(maxTop-1, maxBottom)),
		fs(f(-maxTop, 1), f(-1, maxBottom), f(0, 1), f(1, maxBottom), f(maxTop-1, maxBottom), f(maxTop, 1))},
}

func TestRight(t *testing.T) {
	for _, c := range right {
		told(t, c.r, c.want, c.name)
		compared(t, c.r, c.r, 0, api.OK, c.name, "and itself")
		compared(t, c.r, c.want, 0, api.OK, c.name, "and itself sorted")
		compared(t, c.want, c.r, 0, api.OK, c.name, "and itself sorted")
	}
}

// everyOrder hands on a list in each order that it may have.
func everyOrder(list []api.Frac, to func([]api.Frac)) {
	if len(list) == 0 {
		to(nil)
		return
	}
	for i, a := range list {
		everyOrder(slices.Delete(slices.Clone(list), i, i+1), func(rest []api.Frac) {
			to(append(rest, a))
		})
	}
}

// TestEveryOrder: whatever order rates lie in, the same comes of them.
func TestEveryOrder(t *testing.T) {
	for _, c := range right {
		everyOrder(c.want, func(r []api.Frac) {
			told(t, r, c.want, c.name)
			compared(t, r, c.r, 0, api.OK, c.name, "in another order")
			compared(t, c.r, r, 0, api.OK, c.name, "in another order")
		})
	}
}

// TestCompare: each pair is held against each other in both ways; a is the one that is less, if one is.
func TestCompare(t *testing.T) {
	for _, c := range []struct {
		name string
		a, b []api.Frac
		want int
	}{
		{"both empty", nil, []api.Frac{}, 0},
		{"both nil", nil, nil, 0},
		{"one each", w(1), w(2), -1},
		{"one each, alike", w(2), w(2), 0},
		{"at the first place", w(1, 5, 9), w(2, 5, 9), -1},
		{"at a middle place", w(1, 4, 9), w(1, 5, 9), -1},
		{"at the last place", w(1, 5, 8), w(1, 5, 9), -1},
		{"nowhere", w(1, 5, 9), w(1, 5, 9), 0},
		{"nowhere, in another order", w(9, 1, 5), w(5, 9, 1), 0},
		{"nowhere, falling", w(9, 5, 1), w(1, 5, 9), 0},
		{"as they lie, the first is more, sorted, it is less", w(9, 1), w(2, 3), -1},
		{"as they lie, they are alike at first, sorted, the last tells", w(5, 1), w(5, 2), -1},
		{"the first place says other than all later ones", w(1, 9, 9, 9, 9, 9), w(2, 2, 2, 2, 2, 2), -1},
		{"the first place says other than the last", w(1, 5, 9), w(2, 5, 8), -1},
		{"a middle place says other than the last", w(1, 4, 9), w(1, 5, 8), -1},
		{"a middle place says other than all later ones", w(9, 1, 9, 4, 1, 9), w(5, 5, 1, 1, 5, 5), -1},
		{"the last of as many as may be", w(6, 5, 4, 3, 2, 1), w(1, 2, 3, 4, 5, 7), -1},
		{"the sum says otherwise", w(1, 100), w(2, 2), -1},
		{"the greatest says otherwise", w(maxTop, 0, 0), w(1, 1, 0), -1},
		{"one has more of the least", w(1, 1, 2), w(1, 2, 2), -1},
		{"both signs", w(-1), w(1), -1},
		{"both signs, and a later place says otherwise", w(-1, 7), w(1, 2), -1},
		{"below 0", w(-2, 3), w(-1, 3), -1},
		{"below 0, and 0", w(3, -1), w(0, 3), -1},
		{"below 0 at the last place", w(-3, -2), w(-3, -1), -1},
		{"far apart", w(-maxTop), w(maxTop), -1},
		{"less, though its top is more", fs(f(1, 1), f(5, 7)), fs(f(1, 1), f(3, 4)), -1},
		{"less, though top and bottom are more", fs(f(3, 7), f(2, 1)), fs(f(2, 1), f(1, 2)), -1},
		{"less by the least bit", fs(f(1, 1), f(maxBottom-2, maxBottom-1)), fs(f(maxBottom-1, maxBottom), f(1, 1)), -1},
		{"less by a bit at the last place", fs(f(5, 1), f(maxTop-2, 99_999_999)), fs(f(maxTop, 99_999_999), f(5, 1)), -1},
		{"the finest is more than 0", w(0), fs(f(1, maxBottom)), -1},
		{"the finest below 0 is less", fs(f(-1, maxBottom)), w(0), -1},
	} {
		compared(t, c.a, c.b, c.want, api.OK, c.name)
		compared(t, c.b, c.a, -c.want, api.OK, c.name, "the other way")
	}
}

// TestWhereTheyDiffer: of each number of rates, and at each place of the sorted ones, in every order
// that the first of them may have, the place where they differ tells, whatever the later ones are.
func TestWhereTheyDiffer(t *testing.T) {
	for many := 1; many <= maxFlows; many++ {
		for place := range many {
			for _, later := range l(-1, 0, 1) {
				var low, high []api.Frac
				for i := range many {
					low, high = append(low, f(10*i, 1)), append(high, f(10*i, 1))
					if i > place {
						low[i].Top += later
					}
				}
				low[place], high[place] = f(20*place-1, 2), f(30*place-1, 3)
				everyOrder(low, func(r []api.Frac) {
					compared(t, r, high, -1, api.OK, many, place, later)
					compared(t, high, r, 1, api.OK, many, place, later)
				})
			}
		}
	}
}

// faulty: what chapter 1's Check refuses, and by which error.
var faulty = []struct {
	a    api.Frac
	want api.Errno
}{
	{f(0, 0), api.ErrRange}, {f(1, 0), api.ErrRange}, {f(1, -1), api.ErrRange}, {f(-1, -1), api.ErrRange},
	{f(maxTop+1, 1), api.ErrRange}, {f(-maxTop-1, 1), api.ErrRange}, {f(1, maxBottom+1), api.ErrRange},
	{f(math.MinInt, 1), api.ErrRange}, {f(math.MaxInt, 1), api.ErrRange},
	{f(1, math.MinInt), api.ErrRange}, {f(1, math.MaxInt), api.ErrRange}, {f(math.MinInt, -1), api.ErrRange},
	{f(math.MinInt, math.MinInt), api.ErrRange}, {f(math.MaxInt, math.MaxInt), api.ErrRange},
	{f(math.MinInt, math.MaxInt), api.ErrRange}, {f(math.MaxInt, math.MinInt), api.ErrRange},
	{f(2, maxBottom+2), api.ErrRange}, {f(maxTop+2, 2), api.ErrRange},
	{f(0, 2), api.ErrShape}, {f(0, maxBottom), api.ErrShape}, {f(2, 4), api.ErrShape}, {f(-6, 4), api.ErrShape},
	{f(10, 2), api.ErrShape}, {f(maxTop, maxBottom), api.ErrShape}, {f(-maxTop, 2), api.ErrShape},
}

// TestTooMany: it is told ahead of what is wrong with one of them, wherever that lies.
func TestTooMany(t *testing.T) {
	for many := maxFlows + 1; many <= maxFlows+3; many++ {
		r := slices.Repeat(w(3), many)
		refused(t, r, api.ErrFull, many)
		for at := range many {
			for _, c := range faulty {
				one := slices.Clone(r)
				one[at] = c.a
				refused(t, one, api.ErrFull, many, at)
			}
		}
	}
	refused(t, make([]api.Frac, 100_000), api.ErrFull, "far too many")
	refused(t, slices.Repeat(w(1), 100_000), api.ErrFull, "far too many that are right")
}

// TestRatesAreChecked: the first faulty rate is told, wherever it lies, and however it and others would be sorted.
func TestRatesAreChecked(t *testing.T) {
	for many := 1; many <= maxFlows; many++ {
		for at := range many {
			for _, c := range faulty {
				one := slices.Repeat(w(3), many)
				one[at] = c.a
				refused(t, one, c.want, "one faulty rate")
				for later := at + 1; later < many; later++ {
					for _, d := range faulty {
						two := slices.Clone(one)
						two[later] = d.a
						refused(t, two, c.want, "two faulty rates")
					}
				}
			}
		}
	}
}

// TestErrorsOfCompare: those of a are told ahead of those of b, and both ahead of ErrShape.
func TestErrorsOfCompare(t *testing.T) {
	bounds, shape, full := fs(f(1, 1), f(1, 0)), fs(f(2, 4)), make([]api.Frac, maxFlows+1)
	for _, c := range []struct {
		name string
		a, b []api.Frac
		want api.Errno
	}{
		{"a fault of a alone", bounds, w(1, 2), api.ErrRange},
		{"a fault of b alone", w(1, 2), bounds, api.ErrRange},
		{"a is out of bounds, b is not in lowest terms", bounds, shape, api.ErrRange},
		{"a is not in lowest terms, b is out of bounds", shape, bounds, api.ErrShape},
		{"a is out of bounds, b too many", bounds, full, api.ErrRange},
		{"a is too many, b is out of bounds", full, bounds, api.ErrFull},
		{"a is not in lowest terms, b too many", shape, full, api.ErrShape},
		{"a is too many, b is not in lowest terms", full, shape, api.ErrFull},
		{"both are too many, and not as many", full, make([]api.Frac, maxFlows+2), api.ErrFull},
		{"a is out of bounds, and not as many", bounds, w(1, 2, 3), api.ErrRange},
		{"b is out of bounds, and not as many", w(1, 2, 3), bounds, api.ErrRange},
		{"b is too many", w(1, 2, 3, 4, 5, 6), full, api.ErrFull},
		{"a is too many", full, w(1, 2, 3, 4, 5, 6), api.ErrFull},
		{"a is empty, b is out of bounds", nil, bounds, api.ErrRange},
		{"a is out of bounds, b is empty", bounds, nil, api.ErrRange},
		{"a is empty, b is too many", nil, full, api.ErrFull},
		{"they differ ahead of the fault of b", w(1, 2), fs(f(9, 1), f(1, 0)), api.ErrRange},
	} {
		compared(t, c.a, c.b, 0, c.want, c.name)
	}
	for a := range maxFlows + 1 {
		for b := range maxFlows + 1 {
			want := api.ErrShape
			if a == b {
				want = api.OK
			}
			compared(t, slices.Repeat(w(3), a), slices.Repeat(w(3), b), 0, want, "as many")
			if a != b {
				compared(t, slices.Repeat(w(3), a), slices.Repeat(w(4), b), 0, want, "others, and not as many")
				compared(t, slices.Repeat(w(4), a), slices.Repeat(w(3), b), 0, want, "others, and not as many")
			}
		}
	}
}

// TestNumbersBeyond: at no number beyond the bounds, at any place, is there a panic, or another error.
func TestNumbersBeyond(t *testing.T) {
	beyond := l(math.MinInt, math.MinInt+1, -1<<62, -maxTop-1, maxTop+1, 1<<31, 1<<32, 1<<62, math.MaxInt-1, math.MaxInt)
	for _, c := range right {
		for i := range c.r {
			for _, x := range beyond {
				r := slices.Clone(c.r)
				r[i].Top = x
				refused(t, r, api.ErrRange, c.name, "top", i, x)
				r = slices.Clone(c.r)
				r[i].Bottom = x
				refused(t, r, api.ErrRange, c.name, "bottom", i, x)
			}
		}
	}
}

// roomy gives a copy with something hidden behind its length, so that an append there would be seen.
func roomy(list []api.Frac, hidden api.Frac) []api.Frac {
	return append(slices.Clone(list), hidden, hidden, hidden)[:len(list)]
}

// TestBehindTheLength: what lies there, less than all others, or faulty, makes no difference to an answer,
// and is not written into, also with an error.
func TestBehindTheLength(t *testing.T) {
	for _, hidden := range fs(f(-maxTop, 1), f(maxTop, 1), f(1, 0), f(2, 4)) {
		for _, c := range right {
			r := roomy(c.r, hidden)
			told(t, r, c.want, c.name, hidden)
			compared(t, r, c.want, 0, api.OK, c.name, hidden)
			compared(t, c.want, r, 0, api.OK, c.name, hidden)
			if len(r) < maxFlows {
				compared(t, r, append(w(7), c.r...), 0, api.ErrShape, c.name, hidden)
			}
		}
		for _, c := range faulty {
			refused(t, roomy(fs(f(5, 1), c.a, f(3, 1)), hidden), c.want, hidden)
		}
		refused(t, roomy(slices.Repeat(w(3), maxFlows+1), hidden), api.ErrFull, hidden)
	}
}

// filled gives every place of a list that value, up to its capacity.
func filled(list []api.Frac, value api.Frac) {
	for i := range list[:cap(list)] {
		list[:cap(list)][i] = value
	}
}

// TestAnswersAreFresh: no two lists share memory, of those that come out of several calls and those handed in.
func TestAnswersAreFresh(t *testing.T) {
	for _, c := range right {
		for _, r := range [][]api.Frac{slices.Clone(c.r), slices.Clone(c.want), roomy(c.r, f(-7, -7)), roomy(c.want, f(-7, -7))} {
			lists := [][]api.Frac{r}
			for range 3 {
				out, err := rank.Sorted(r)
				if err != nil {
					t.Fatal(c.name, err)
				}
				lists = append(lists, out)
			}
			for i, list := range lists {
				filled(list, f(100+i, 1))
			}
			for i, list := range lists {
				if slices.ContainsFunc(list[:cap(list)], func(a api.Frac) bool { return a != f(100+i, 1) }) {
					t.Errorf("%s: list %d shares memory with another", c.name, i)
				}
			}
		}
	}
}

// TestOfOneMemory: lists that share memory are compared as others are.
func TestOfOneMemory(t *testing.T) {
	one := w(9, 5, 7, 2)
	compared(t, one[:2], one[2:], 1, api.OK, "halves")
	compared(t, one[2:], one[:2], -1, api.OK, "halves")
	compared(t, one[:3], one[1:], 1, api.OK, "overlapping")
	compared(t, one, one, 0, api.OK, "the same")
	compared(t, one, one[:3], 0, api.ErrShape, "a part")
	told(t, one[1:3], w(5, 7), "a part")
}

// TestNothingIsKept: an answer hangs on its arguments alone, whatever became of earlier ones.
func TestNothingIsKept(t *testing.T) {
	for _, c := range right {
		r := slices.Clone(c.r)
		sorted, err := rank.Sorted(r)
		if err != nil {
			t.Fatal(c.name, err)
		}
		filled(r, f(8, 1))
		told(t, r, slices.Repeat(w(8), len(r)), "others than", c.name)
		if !slices.Equal(sorted, c.want) {
			t.Errorf("%s: got %v, once the argument is another", c.name, sorted)
		}
		filled(sorted, f(-7, -7))
		told(t, c.r, c.want, c.name, "once more")
	}
}

// TestErrorsAreNumbers: an error can be asked by errors.Is and is never OK, and none is a plain nil.
func TestErrorsAreNumbers(t *testing.T) {
	if r, err := rank.Sorted(make([]api.Frac, maxFlows+1)); r != nil || !errors.Is(err, api.ErrFull) || errors.Is(err, api.OK) {
		t.Errorf("got %v, %v; want ErrFull", r, err)
	}
	if k, err := rank.Compare(w(1), w(1, 2)); k != 0 || !errors.Is(err, api.ErrShape) || errors.Is(err, api.OK) {
		t.Errorf("got %v, %v; want ErrShape", k, err)
	}
	if a, err := rank.Least(nil); a != f(0, 0) || !errors.Is(err, api.ErrNone) || errors.Is(err, api.OK) {
		t.Errorf("got %v, %v; want ErrNone", a, err)
	}
	if _, err := rank.Least(w(1)); err != nil {
		t.Errorf("got %v, want nil", err)
	}
}

func rat(a api.Frac) *big.Rat { return big.NewRat(int64(a.Top), int64(a.Bottom)) }

// asked sorts by exact numbers, each rate to the place that so many lesser ones, and like ones ahead of it, leave it.
func asked(r []api.Frac) []api.Frac {
	out := make([]api.Frac, len(r))
	for i, a := range r {
		place := 0
		for j, b := range r {
			if order := rat(b).Cmp(rat(a)); order < 0 || order == 0 && j < i {
				place++
			}
		}
		out[place] = a
	}
	return out
}

// askedOrder compares two lists that are sorted, by exact numbers.
func askedOrder(a, b []api.Frac) int {
	for i := range a {
		if order := rat(a[i]).Cmp(rat(b[i])); order != 0 {
			return order
		}
	}
	return 0
}

// everyList hands on all lists of so many of the things.
func everyList[T any](things []T, many int, to func([]T)) {
	if many == 0 {
		to(nil)
		return
	}
	everyList(things, many-1, func(list []T) {
		for _, a := range things {
			to(append(slices.Clone(list), a))
		}
	})
}

// TestAllSmallLists holds all lists of up to three such rates, and all pairs of them, against exact numbers.
func TestAllSmallLists(t *testing.T) {
	rates := fs(f(-1, 1), f(0, 1), f(1, 3), f(1, 2), f(2, 3), f(1, 1), f(maxTop, 1))
	for many := range 4 {
		everyList(rates, many, func(a []api.Frac) {
			ours := asked(a)
			told(t, a, ours)
			everyList(rates, many, func(b []api.Frac) {
				compared(t, a, b, askedOrder(ours, asked(b)), api.OK)
			})
		})
	}
}

// TestSixRates holds lists of six, many of which are alike or all but alike, against exact numbers.
func TestSixRates(t *testing.T) {
	seen := map[int]int{}
	for seed := range 20_000 {
		a, b := sixRates(seed), sixRates(seed+2)
		if seed%3 == 0 {
			copy(b, a[:seed/3%maxFlows+1])
			slices.Reverse(b)
		}
		told(t, a, asked(a))
		want := askedOrder(asked(a), asked(b))
		compared(t, a, b, want, api.OK)
		compared(t, b, a, -want, api.OK)
		seen[want]++
	}
	if seen[-1] == 0 || seen[0] == 0 || seen[1] == 0 {
		t.Errorf("not all answers are there: %v", seen)
	}
}

// sixRates makes rates by a short rule: small parts, or, of every other list, great ones close by each other.
func sixRates(seed int) (r []api.Frac) {
	for i := range maxFlows {
		x := (seed*7919 + i*104_729) * 2_654_435_761 >> 7 & math.MaxInt
		a := big.NewRat(int64(x%7-2), int64(1+x>>10%4))
		if seed%2 == 1 {
			a = big.NewRat(int64(maxTop-x%5), int64(maxBottom-x>>10%5))
		}
		r = append(r, f(int(a.Num().Int64()), int(a.Denom().Int64())))
	}
	return r
}

// TestNoneHelpsTheWeakestMore: of all rates that fit a net, none ranks above those to which all rise, and as high only the same.
func TestNoneHelpsTheWeakestMore(t *testing.T) {
	rates := fs(f(0, 1), f(1, 3), f(1, 2), f(2, 3), f(1, 1), f(3, 2), f(2, 1), f(5, 2), f(3, 1))
	paths := [][]int{l(0), l(1), l(0, 1)}
	everyList(l(1, 2, 3), 2, func(caps []int) {
		everyList(paths, 3, func(list [][]int) {
			n := api.Net{Caps: caps, Paths: list}
			risen, err := fill.Rates(n)
			if err != nil {
				t.Fatal(n, err)
			}
			everyList(rates, 3, func(r []api.Frac) {
				fits, err := load.Fits(n, r)
				if err != nil {
					t.Fatal(n, r, err)
				}
				want := -1
				if slices.Equal(r, risen) {
					want = 0
				}
				if fits {
					compared(t, r, risen, want, api.OK, n)
				}
			})
		})
	})
}
