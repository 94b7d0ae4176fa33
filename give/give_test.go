package give_test

import (
	"errors"
	"math"
	"slices"
	"testing"

	"fairsluice/api"
	"fairsluice/give"
	"fairsluice/plain"
)

const (
	maxFlows = 6
	maxCap   = 1_000
	maxRate  = 10_000
)

func l(list ...int) []int { return list }

// alike gives so many weights of one size.
func alike(weight, many int) []int { return slices.Repeat(l(weight), many) }

// negative gives the negative of each.
func negative(list []int) (out []int) {
	for _, n := range list {
		out = append(out, -n)
	}
	return out
}

// wrong tells if an error is another than is wanted; OK is a plain nil.
func wrong(err error, no api.Errno) bool {
	return plain.Told(err) != no || no == api.OK && err != nil
}

// beyond: numbers far from all bounds.
var beyond = l(math.MinInt, math.MinInt+1, -1<<62, -1<<32, -1<<31, 1<<31, 1<<32, 1<<62, math.MaxInt-1, math.MaxInt)

// faulty: weights that may not be.
var faulty = append(l(-1, -2, -maxCap, maxCap+1, maxCap+2, 1_000_000_001), beyond...)

// tooMuch: numbers that are not split.
var tooMuch = append(l(-maxRate-1, -maxRate-2, -2*maxRate, maxRate+1, maxRate+2, 2*maxRate), beyond...)

// outside gives places that are not there, of so many.
func outside(many int) []int {
	return append(l(-1, -2, -many, many, many+1, many+maxFlows, 2*many), beyond...)
}

// memory copies a list with what lies behind its length.
func memory(list []int) []int { return slices.Clone(list[:cap(list)]) }

// kept checks that the weights are as they were, behind their length, too.
func kept(t *testing.T, weights, was []int, name ...any) {
	t.Helper()
	if !slices.Equal(weights[:cap(weights)], was) {
		t.Errorf("%v: it was %v, and is %v", name, was, weights[:cap(weights)])
	}
}

// parted checks what Part answers; with an error the part is 0.
func parted(t *testing.T, many int, weights []int, i, want int, no api.Errno, name ...any) {
	t.Helper()
	was := memory(weights)
	part, err := give.Part(many, weights, i)
	if part != want || wrong(err, no) {
		t.Errorf("Part, %v: of %d, %v, %d got %d, %v; want %d, %v", name, many, weights, i, part, err, want, no)
	}
	kept(t, weights, was, "Part", name)
}

// told checks what Split answers where nothing is wrong, and Part of each place, and beside the first and the last one.
func told(t *testing.T, many int, weights, want []int, name ...any) {
	t.Helper()
	was := memory(weights)
	parts, err := give.Split(many, weights)
	if !slices.Equal(parts, want) || err != nil {
		t.Errorf("Split, %v: of %d, %v got %v, %v; want %v", name, many, weights, parts, err, want)
	}
	kept(t, weights, was, "Split", name)
	for i, part := range want {
		parted(t, many, weights, i, part, api.OK, name...)
	}
	parted(t, many, weights, -1, 0, api.ErrRange, name...)
	parted(t, many, weights, len(weights), 0, api.ErrRange, name...)
}

// toldBoth checks it of many and of its negative.
func toldBoth(t *testing.T, many int, weights, want []int, name ...any) {
	t.Helper()
	told(t, many, weights, want, name...)
	told(t, -many, weights, negative(want), name...)
}

// refused checks that both calls tell an error, and nothing with it; of Part wherever the part would be.
func refused(t *testing.T, many int, weights []int, no api.Errno, name ...any) {
	t.Helper()
	was := memory(weights)
	parts, err := give.Split(many, weights)
	if len(parts) != 0 || wrong(err, no) {
		t.Errorf("Split, %v: of %d, %v got %v, %v; want %v", name, many, weights, parts, err, no)
	}
	kept(t, weights, was, "Split", name)
	for _, i := range l(0, len(weights)-1, len(weights), -1, math.MinInt, math.MaxInt) {
		parted(t, many, weights, i, 0, no, name...)
	}
}

func TestBoundsAreTheDocuments(t *testing.T) {
	if api.MaxFlows != maxFlows || api.MaxCap != maxCap || api.MaxRate != maxRate {
		t.Error("a bound of package api is not the document's")
	}
}

// right: what is split, and the parts.
var right = []struct {
	name    string
	many    int
	weights []int
	want    []int
}{
	{"evenly, alike", 10, l(5, 5), l(5, 5)},
	{"evenly, of 1 each", 6, alike(1, maxFlows), alike(1, maxFlows)},
	{"evenly, as many as the weights", 6, l(1, 2, 3), l(1, 2, 3)},
	{"evenly, twice the weights", 12, l(1, 2, 3), l(2, 4, 6)},
	{"evenly, the half of the weights", 60, l(20, 40, 60), l(10, 20, 30)},
	{"evenly, the greatest", 6_000, alike(maxCap, maxFlows), alike(maxCap, maxFlows)},

	{"one left over, alike", 10, l(1, 1, 1), l(4, 3, 3)},
	{"two left over, alike", 11, l(1, 1, 1), l(4, 4, 3)},
	{"one left over of two alike", 7, l(9, 9), l(4, 3)},
	{"one left over of as many as may be, alike", 7, alike(3, maxFlows), l(2, 1, 1, 1, 1, 1)},
	{"all but one left over of as many as may be, alike", 11, alike(3, maxFlows), l(2, 2, 2, 2, 2, 1)},
	{"all but one left over, none ahead", 5, alike(7, maxFlows), l(1, 1, 1, 1, 1, 0)},
	{"all but one left over, of others than alike", 5, l(1, 2, 3), l(1, 2, 2)},
	{"all but one left over, the least rest is the first", 5, l(3, 2, 1), l(2, 2, 1)},

	{"the greatest rest is the last", 8, l(1, 2, 4), l(1, 2, 5)},
	{"the greatest rest is in the middle", 9, l(1, 2, 4), l(1, 3, 5)},
	{"the greatest rest is the first", 11, l(1, 2, 4), l(2, 3, 6)},
	{"the two greatest rests are the last ones", 10, l(1, 2, 4), l(1, 3, 6)},
	{"the greatest rest, not the greatest weight", 10_000, l(1, maxCap), l(10, 9_990)},
	{"rests that hardly differ", 5, l(500, 501, 499), l(2, 2, 1)},

	{"alike rests behind a lesser one", 1, l(1, 2, 2, 1), l(0, 1, 0, 0)},
	{"alike rests, both get one", 2, l(1, 2, 2, 1), l(0, 1, 1, 0)},
	{"alike rests, the first and the last, one left over", 3, l(1, 2, 2, 1), l(1, 1, 1, 0)},
	{"two greater rests, then the first of two alike", 5, l(1, 2, 2, 1), l(1, 2, 1, 1)},
	{"alike rests ahead of a greater one", 1, l(3, 3, 6), l(0, 0, 1)},
	{"alike rests of other weights, the lesser ahead", 2, l(1, 3), l(1, 1)},
	{"alike rests of other weights, the greater ahead", 2, l(3, 1), l(2, 0)},

	{"one weight", 17, l(5), l(17)},
	{"one weight of 1", 17, l(1), l(17)},
	{"one weight, the greatest", maxRate, l(maxCap), l(maxRate)},
	{"one weight, 1", 1, l(maxCap), l(1)},
	{"one weight, 0", 0, l(5), l(0)},

	{"a weight of 0 ahead", 7, l(0, 3, 3), l(0, 4, 3)},
	{"a weight of 0 between", 7, l(3, 0, 3), l(4, 0, 3)},
	{"a weight of 0 behind", 7, l(3, 3, 0), l(4, 3, 0)},
	{"more weights of 0 than others", 7, l(0, 3, 0, 3, 0, 0), l(0, 4, 0, 3, 0, 0)},
	{"all but the last are 0", 9, l(0, 0, 0, 0, 0, 2), l(0, 0, 0, 0, 0, 9)},
	{"all but the first are 0", maxRate, l(1, 0, 0, 0, 0, 0), l(maxRate, 0, 0, 0, 0, 0)},
	{"1, and one weight is not 0", 1, l(0, maxCap, 0), l(0, 1, 0)},

	{"0, alike", 0, alike(4, maxFlows), alike(0, maxFlows)},
	{"0, of which some are 0", 0, l(0, 7, 0, 1), alike(0, 4)},
	{"1, alike", 1, alike(4, maxFlows), l(1, 0, 0, 0, 0, 0)},
	{"1, the greatest weight is the last", 1, l(1, 2, 3), l(0, 0, 1)},
	{"1, the greatest weight is the first", 1, l(3, 2, 1), l(1, 0, 0)},
	{"1, the least and the greatest weight", 1, l(1, maxCap), l(0, 1)},
	{"fewer than the weights, alike", 2, alike(4, 4), l(1, 1, 0, 0)},
	{"fewer than the weights, of others than alike", 3, l(1, 5, 1, 5, 1, 5), l(0, 1, 0, 1, 0, 1)},
	{"the greatest, alike", maxRate, alike(maxCap, maxFlows), l(1_667, 1_667, 1_667, 1_667, 1_666, 1_666)},
	{"the greatest, of two", maxRate, l(1, 2), l(3_333, 6_667)},
	{"the greatest, evenly", maxRate, l(1, 2, 3, 4), l(1_000, 2_000, 3_000, 4_000)},
}

func TestSplit(t *testing.T) {
	for _, c := range right {
		toldBoth(t, c.many, c.weights, c.want, c.name)
	}
}

// TestBelowZero: nothing is rounded down there, nor are other rests the greatest ones.
func TestBelowZero(t *testing.T) {
	told(t, -10, l(1, 1, 1), l(-4, -3, -3), "one left over")
	told(t, -8, l(1, 2, 4), l(-1, -2, -5), "the greatest rest of the negative")
	told(t, -2, l(3, 1), l(-2, 0), "alike rests")
	told(t, -1, l(0, 1, 1), l(0, -1, 0), "a weight of 0")
	told(t, -maxRate, l(1, maxCap), l(-10, -9_990), "the least")
}

// TestPlaces: each that is there, of so many weights, and none beside.
func TestPlaces(t *testing.T) {
	for many := 1; many <= maxFlows; many++ {
		weights := l(1, 2, 3, 4, 5, 6)[:many:many]
		all := many * (many + 1) / 2
		for i := range many {
			parted(t, all, weights, i, i+1, api.OK, many)
			parted(t, -7*all, weights, i, -7*(i+1), api.OK, many)
		}
		for _, i := range outside(many) {
			for _, n := range l(0, 1, all, -all, maxRate, -maxRate) {
				parted(t, n, weights, i, 0, api.ErrRange, many)
			}
		}
	}
}

func TestNone(t *testing.T) {
	for _, many := range append(l(0, 1, -1, maxRate, -maxRate), tooMuch...) {
		refused(t, many, nil, api.ErrNone, "nil")
		refused(t, many, l(), api.ErrNone, "empty")
		refused(t, many, make([]int, 0, 9), api.ErrNone, "empty, with room")
		refused(t, many, l(1, 2, -3)[:0], api.ErrNone, "empty, and some behind it")
		refused(t, many, l(1, 2, -3)[3:], api.ErrNone, "empty, and some ahead of it")
	}
}

// TestTooMany: it is told ahead of what is wrong with one of them, wherever that lies, of all being 0, and of many.
func TestTooMany(t *testing.T) {
	told(t, 12, alike(2, maxFlows), alike(2, maxFlows), "as many as may be")
	for many := maxFlows + 1; many <= maxFlows+3; many++ {
		for _, weight := range l(0, 3, maxCap) {
			weights := alike(weight, many)
			for _, n := range append(l(0, 1, -maxRate), tooMuch...) {
				refused(t, n, weights, api.ErrFull, many)
			}
			for at := range many {
				for _, x := range faulty {
					one := slices.Clone(weights)
					one[at] = x
					refused(t, 5, one, api.ErrFull, many, at, x)
					refused(t, maxRate+1, one, api.ErrFull, many, at, x)
				}
			}
		}
	}
	refused(t, 5, alike(1, 100_000), api.ErrFull, "far too many")
	refused(t, 5, alike(math.MinInt, 100_000), api.ErrFull, "far too many that may not be")
}

// TestWeightsAreChecked: one that may not be is told wherever it lies, beside some that are 0, too, and whatever is split.
func TestWeightsAreChecked(t *testing.T) {
	for many := 1; many <= maxFlows; many++ {
		for at := range many {
			for _, weight := range l(0, 3, maxCap) {
				for _, x := range faulty {
					one := alike(weight, many)
					one[at] = x
					refused(t, 5, one, api.ErrRange, many, at, x)
					refused(t, math.MinInt, one, api.ErrRange, many, at, x)
					for later := at + 1; later < many; later++ {
						// Two that are together 0: that does not make them weights that are all 0.
						two := slices.Clone(one)
						two[later] = -x
						refused(t, 5, two, api.ErrRange, many, at, later, x)
					}
				}
			}
			greatest := alike(0, many)
			greatest[at] = maxCap
			want := alike(0, many)
			want[at] = 7
			toldBoth(t, 7, greatest, want, many, at)
		}
	}
}

// TestAllZero: it is told ahead of what is wrong with many, and of there being no such place.
func TestAllZero(t *testing.T) {
	for many := 1; many <= maxFlows; many++ {
		for _, n := range append(l(0, 1, -1, 5, maxRate, -maxRate), tooMuch...) {
			refused(t, n, alike(0, many), api.ErrNone, many)
		}
	}
}

// TestHowMany: at the edges it is right, one beyond it is not, whatever the weights are.
func TestHowMany(t *testing.T) {
	for _, weights := range [][]int{l(1), l(maxCap), l(1, 0), l(2, 3), alike(1, maxFlows), alike(maxCap, maxFlows)} {
		for _, many := range tooMuch {
			refused(t, many, weights, api.ErrRange, many)
		}
		for _, many := range l(0, 1, maxRate-1, maxRate) {
			rightly(t, many, weights)
			rightly(t, -many, weights)
		}
	}
}

// roomy gives a copy with something hidden behind its length, so that an append there would be seen.
func roomy(list []int, hidden int) []int {
	return append(slices.Clone(list), hidden, hidden, hidden)[:len(list)]
}

// TestBehindTheLength: what lies there, faulty or not, makes no difference to an answer, and is not written into, also with
// an error; nor is there a place.
func TestBehindTheLength(t *testing.T) {
	for _, hidden := range l(0, 1, maxCap, -1, maxCap+1, math.MinInt, math.MaxInt) {
		for _, c := range right {
			toldBoth(t, c.many, roomy(c.weights, hidden), c.want, c.name, hidden)
		}
		refused(t, 5, roomy(nil, hidden), api.ErrNone, hidden)
		refused(t, 5, roomy(l(0, 0), hidden), api.ErrNone, hidden)
		refused(t, 5, roomy(l(3, -1, 4), hidden), api.ErrRange, hidden)
		refused(t, 5, roomy(alike(3, maxFlows+1), hidden), api.ErrFull, hidden)
		refused(t, maxRate+1, roomy(l(3, 4), hidden), api.ErrRange, hidden)
	}
}

// filled gives every place of a list that value, up to its capacity.
func filled(list []int, value int) {
	for i := range list[:cap(list)] {
		list[:cap(list)][i] = value
	}
}

// TestAnswersAreFresh: no two lists share memory, of those that come out of several calls and those handed in, also where
// the parts are the weights.
func TestAnswersAreFresh(t *testing.T) {
	for _, c := range right {
		for _, weights := range [][]int{slices.Clone(c.weights), roomy(c.weights, 7)} {
			lists := [][]int{weights}
			for _, many := range l(c.many, -c.many, c.many, 0, 0, -c.many) {
				out, err := give.Split(many, weights)
				if err != nil {
					t.Fatal(c.name, err)
				}
				lists = append(lists, out)
			}
			for i, one := range lists {
				filled(one, 100+i)
			}
			for i, one := range lists {
				if slices.ContainsFunc(one[:cap(one)], func(x int) bool { return x != 100+i }) {
					t.Errorf("%s: list %d shares memory with another", c.name, i)
				}
			}
		}
	}
}

// TestNothingIsKept: an answer hangs on its arguments alone, whatever became of earlier ones.
func TestNothingIsKept(t *testing.T) {
	for _, c := range right {
		weights := slices.Clone(c.weights)
		out, err := give.Split(c.many, weights)
		if err != nil {
			t.Fatal(c.name, err)
		}
		filled(weights, 8)
		toldBoth(t, 3*len(weights), weights, alike(3, len(weights)), "others than", c.name)
		if !slices.Equal(out, c.want) {
			t.Errorf("%s: got %v, once the weights are others", c.name, out)
		}
		filled(out, -7)
		refused(t, 5, l(-1), api.ErrRange, "between")
		toldBoth(t, c.many, c.weights, c.want, c.name, "once more")
	}
}

// TestErrorsAreNumbers: an error can be asked by errors.Is and is never OK.
func TestErrorsAreNumbers(t *testing.T) {
	for _, c := range []struct {
		many    int
		weights []int
		want    api.Errno
	}{
		{5, nil, api.ErrNone}, {5, l(0), api.ErrNone}, {5, alike(1, maxFlows+1), api.ErrFull},
		{5, l(-1), api.ErrRange}, {maxRate + 1, l(1), api.ErrRange},
	} {
		if _, err := give.Split(c.many, c.weights); !errors.Is(err, c.want) || errors.Is(err, api.OK) {
			t.Errorf("Split of %d, %v: got %v, want %v", c.many, c.weights, err, c.want)
		}
		if _, err := give.Part(c.many, c.weights, 0); !errors.Is(err, c.want) || errors.Is(err, api.OK) {
			t.Errorf("Part of %d, %v: got %v, want %v", c.many, c.weights, err, c.want)
		}
	}
	if _, err := give.Part(5, l(1), 1); !errors.Is(err, api.ErrRange) || errors.Is(err, api.OK) {
		t.Errorf("Part: got %v, want ErrRange", err)
	}
}

// rightly checks, of what is right to split, what the document's words ask, which lets just one list be: the parts together
// are so many; each is rounded down or one more; and who got one more has a greater rest than who did not, or as great a one
// and is ahead. Of many below 0 it asks this of the negative.
func rightly(t *testing.T, many int, weights []int) {
	t.Helper()
	parts, err := give.Split(many, weights)
	if err != nil || len(parts) != len(weights) {
		t.Fatalf("of %d, %v got %v, %v", many, weights, parts, err)
	}
	for i, part := range parts {
		parted(t, many, weights, i, part, api.OK)
	}
	if many < 0 {
		many, parts = -many, negative(parts)
	}
	all, given := 0, 0
	for i, weight := range weights {
		all += weight
		given += parts[i]
	}
	if given != many {
		t.Errorf("of %d, %v got %v: together %d", many, weights, parts, given)
	}
	var more, fewer []int
	rests := make([]int, len(weights))
	for i, weight := range weights {
		// What a part is short of its own, in parts of all: one that was rounded down is short, or just right.
		short := many*weight - parts[i]*all
		switch {
		case short >= 0 && short < all:
			rests[i], fewer = short, append(fewer, i)
		case short < 0 && short > -all:
			rests[i], more = short+all, append(more, i)
		default:
			t.Errorf("of %d, %v got %v: part %d is neither rounded down nor one more", many, weights, parts, i)
		}
	}
	for _, i := range more {
		for _, k := range fewer {
			if rests[i] < rests[k] || rests[i] == rests[k] && i > k {
				t.Errorf("of %d, %v got %v: of %d and %d the other one should have one more", many, weights, parts, i, k)
			}
		}
	}
}

// everyList hands on all lists of so many of the things.
func everyList(things []int, many int, to func([]int)) {
	if many == 0 {
		to(nil)
		return
	}
	everyList(things, many-1, func(list []int) {
		for _, a := range things {
			to(append(slices.Clone(list), a))
		}
	})
}

// TestAllSmall holds all lists of up to four small weights, and small numbers either way, against what the words ask.
func TestAllSmall(t *testing.T) {
	for many := 1; many <= 4; many++ {
		everyList(l(0, 1, 2, 3, 5), many, func(weights []int) {
			if slices.Max(weights) == 0 {
				refused(t, 5, weights, api.ErrNone)
				return
			}
			for n := -13; n <= 13; n++ {
				rightly(t, n, weights)
			}
		})
	}
}

// TestAllLong holds all lists of as many weights as may be, of those sizes, against what the words ask.
func TestAllLong(t *testing.T) {
	everyList(l(0, 1, 499, maxCap), maxFlows, func(weights []int) {
		if slices.Max(weights) == 0 {
			return
		}
		for _, n := range l(0, 1, 5, 7, 143, maxRate-1, maxRate) {
			rightly(t, n, weights)
			rightly(t, -n, weights)
		}
	})
}

// TestEveryNumber holds every number that may be split against what the words ask, of some weights.
func TestEveryNumber(t *testing.T) {
	for _, weights := range [][]int{l(7), l(1, 1), l(1, 2, 4), l(997, 0, 991, 3), alike(maxCap, maxFlows), l(1, 10, 100, maxCap, 0, 333)} {
		for many := -maxRate; many <= maxRate; many++ {
			rightly(t, many, weights)
		}
	}
}
