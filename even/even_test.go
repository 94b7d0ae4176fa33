package even_test

import (
	"errors"
	"math"
	"math/big"
	"slices"
	"testing"

	"fairsluice/api"
	"fairsluice/even"
	"fairsluice/plain"
)

const (
	maxFlows = 6
	maxCap   = 1_000
)

func f(top, bottom int) api.Frac { return api.Frac{Top: top, Bottom: bottom} }

func l(list ...int) []int { return list }

// alike gives so many shares of one size.
func alike(share, many int) []int { return slices.Repeat(l(share), many) }

// memory copies a list with what lies behind its length.
func memory(list []int) []int { return slices.Clone(list[:cap(list)]) }

// kept checks that a list that was handed in is as it was, behind its length, too.
func kept(t *testing.T, list, was []int, name ...any) {
	t.Helper()
	if !slices.Equal(list[:cap(list)], was) {
		t.Errorf("%v: it was %v, and is %v", name, was, list[:cap(list)])
	}
}

// indexed checks what Index answers; an index of {0 0} goes with an error.
func indexed(t *testing.T, list []int, want api.Frac, no api.Errno, name ...any) {
	t.Helper()
	was := memory(list)
	index, err := even.Index(list)
	if index != want || plain.Told(err) != no || no == api.OK && err != nil {
		t.Errorf("Index, %v: of %v got %v, %v; want %v, %v", name, list, index, err, want, no)
	}
	kept(t, list, was, "Index", name)
}

// gapped checks what Gap answers.
func gapped(t *testing.T, list []int, want int, no api.Errno, name ...any) {
	t.Helper()
	was := memory(list)
	gap, err := even.Gap(list)
	if gap != want || plain.Told(err) != no || no == api.OK && err != nil {
		t.Errorf("Gap, %v: of %v got %v, %v; want %v, %v", name, list, gap, err, want, no)
	}
	kept(t, list, was, "Gap", name)
}

// given checks what Give answers; with an error there is no list at all.
func given(t *testing.T, list []int, from, to, many int, want []int, no api.Errno, name ...any) {
	t.Helper()
	was := memory(list)
	out, err := even.Give(list, from, to, many)
	if !slices.Equal(out, want) || plain.Told(err) != no || no == api.OK && err != nil || no != api.OK && out != nil {
		t.Errorf("Give, %v: of %v, %d, %d, %d got %v, %v; want %v, %v", name, list, from, to, many, out, err, want, no)
	}
	kept(t, list, was, "Give", name)
}

// told checks what Index and Gap answer of shares that are right; of shares that are all 0 the index is {0 0}.
func told(t *testing.T, list []int, index api.Frac, gap int, name ...any) {
	t.Helper()
	no := api.OK
	if index == f(0, 0) {
		no = api.ErrNone
	}
	indexed(t, list, index, no, name...)
	gapped(t, list, gap, api.OK, name...)
}

// refused checks that all three calls tell an error, and nothing with it, whatever is to be given.
func refused(t *testing.T, list []int, no api.Errno, name ...any) {
	t.Helper()
	indexed(t, list, f(0, 0), no, name...)
	gapped(t, list, 0, no, name...)
	for _, c := range [][3]int{
		{0, 0, 0}, {0, 1, 1}, {1, 0, maxCap}, {len(list) - 1, 0, 1},
		{-1, 0, 0}, {0, -1, 0}, {len(list), 0, 0}, {0, len(list), 0}, {math.MinInt, math.MaxInt, 0},
		{0, 0, -1}, {0, 0, maxCap + 1}, {0, 0, math.MinInt}, {0, 0, math.MaxInt}, {-1, -1, -1},
	} {
		given(t, list, c[0], c[1], c[2], nil, no, name...)
	}
}

func TestBoundsAreTheDocuments(t *testing.T) {
	if api.MaxFlows != maxFlows || api.MaxCap != maxCap {
		t.Error("a bound of package api is not the document's")
	}
}

// right: shares that Gap refuses none of, and what is told of them; {0 0} where Index tells ErrNone.
var right = []struct {
	name  string
	list  []int
	index api.Frac
	gap   int
}{
	{"one", l(7), f(1, 1), 0},
	{"one of 1", l(1), f(1, 1), 0},
	{"one, the greatest", l(maxCap), f(1, 1), 0},
	{"two alike", l(5, 5), f(1, 1), 0},
	{"three alike", l(4, 4, 4), f(1, 1), 0},
	{"as many as may be, all 1", alike(1, maxFlows), f(1, 1), 0},
	{"as many as may be, all alike", alike(77, maxFlows), f(1, 1), 0},
	{"as many as may be, all the greatest", alike(maxCap, maxFlows), f(1, 1), 0},

	{"all for the first of two", l(9, 0), f(1, 2), 9},
	{"all for the last of two", l(0, 9), f(1, 2), 9},
	{"all for the middle one", l(0, 9, 0), f(1, 3), 9},
	{"all for one of four", l(0, 0, 1, 0), f(1, 4), 1},
	{"all for one of five", l(0, 123, 0, 0, 0), f(1, 5), 123},
	{"all for the first of as many as may be", l(8, 0, 0, 0, 0, 0), f(1, 6), 8},
	{"all for the last of as many as may be", l(0, 0, 0, 0, 0, 8), f(1, 6), 8},
	{"all for one, the least", l(0, 0, 0, 1, 0, 0), f(1, 6), 1},
	{"all for one, the greatest", l(0, 0, maxCap, 0, 0, 0), f(1, 6), maxCap},

	{"one is 0, others alike", l(3, 0, 3), f(2, 3), 3},
	{"half are 0, others alike", l(0, 2, 0, 2, 0, 2), f(1, 2), 2},
	{"one of six is 0, others alike", l(4, 4, 4, 0, 4, 4), f(5, 6), 4},
	{"some are 0, others differ", l(0, 1, 2), f(3, 5), 2},
	{"some are 0, at both ends", l(0, 3, 1, 0), f(2, 5), 3},
	{"just one is not the greatest", l(maxCap, maxCap, maxCap, maxCap, maxCap, 0), f(5, 6), maxCap},

	{"in lowest terms as it is", l(1, 2), f(9, 10), 1},
	{"not in lowest terms, by 2", l(1, 3), f(4, 5), 2},
	{"not in lowest terms, by 9", l(3, 6), f(9, 10), 3},
	{"not in lowest terms, by how many there are", l(1, 2, 3), f(6, 7), 2},
	{"not in lowest terms, of great ones", l(500, 1000), f(9, 10), 500},
	{"not in lowest terms, of as many as may be", l(1, 2, 3, 4, 5, 6), f(21, 26), 5},
	{"the same, in another order", l(4, 6, 1, 5, 3, 2), f(21, 26), 5},
	{"the same, a hundredfold", l(600, 500, 400, 300, 200, 100), f(21, 26), 500},

	{"all but alike", l(maxCap, maxCap-1), f(3_996_001, 3_996_002), 1},
	{"all but alike, of as many as may be", l(maxCap, maxCap, maxCap-1, maxCap, maxCap, maxCap), f(35_988_001, 35_988_006), 1},
	{"all but all for one", l(1, maxCap), f(1_002_001, 2_000_002), 999},
	{"all but all for one, of as many as may be", l(1, 0, 0, maxCap, 0, 0), f(1_002_001, 6_000_006), maxCap},

	{"the greatest is first, the least last", l(9, 5, 4, 2), f(50, 63), 7},
	{"the least is first, the greatest last", l(2, 4, 5, 9), f(50, 63), 7},
	{"the least is ahead of the greatest, between others", l(4, 2, 9, 5), f(50, 63), 7},
	{"the greatest is ahead of the least, between others", l(4, 9, 2, 5), f(50, 63), 7},
	{"the greatest is there twice", l(9, 2, 9), f(200, 249), 7},
	{"the least is there twice", l(2, 9, 2), f(169, 267), 7},

	{"one of 0", l(0), f(0, 0), 0},
	{"two of 0", l(0, 0), f(0, 0), 0},
	{"as many as may be, all 0", alike(0, maxFlows), f(0, 0), 0},
}

func TestRight(t *testing.T) {
	for _, c := range right {
		told(t, c.list, c.index, c.gap, c.name)
	}
}

// TestAllAlike: at each size and each number of them the index is 1, and there is no gap.
func TestAllAlike(t *testing.T) {
	for many := 1; many <= maxFlows; many++ {
		for share := 1; share <= maxCap; share++ {
			told(t, alike(share, many), f(1, 1), 0, many, share)
		}
	}
}

// TestAllForOne: wherever that one lies, and whatever it has, the index is 1 by how many there are.
func TestAllForOne(t *testing.T) {
	for many := 1; many <= maxFlows; many++ {
		for at := range many {
			for share := 1; share <= maxCap; share++ {
				list := alike(0, many)
				list[at] = share
				gap := share
				if many == 1 {
					gap = 0
				}
				told(t, list, f(1, many), gap, many, at, share)
			}
		}
	}
}

// TestGapAtEveryPlace: the greatest and the least may lie at any two places.
func TestGapAtEveryPlace(t *testing.T) {
	for many := 2; many <= maxFlows; many++ {
		for high := range many {
			for low := range many {
				if low == high {
					continue
				}
				list := alike(500, many)
				list[high], list[low] = 501, 499
				gapped(t, list, 2, api.OK, many, high, low)
				list[high], list[low] = maxCap, 0
				gapped(t, list, maxCap, api.OK, many, high, low)
				list[low] = 500
				gapped(t, list, 500, api.OK, many, high, "high alone")
				list[high], list[low] = 500, 0
				gapped(t, list, 500, api.OK, many, low, "low alone")
			}
		}
	}
}

func TestGive(t *testing.T) {
	for _, c := range []struct {
		name           string
		list           []int
		from, to, many int
		want           []int
	}{
		{"some", l(5, 3), 0, 1, 2, l(3, 5)},
		{"some, the other way", l(5, 3), 1, 0, 2, l(7, 1)},
		{"1", l(5, 3), 0, 1, 1, l(4, 4)},
		{"0", l(5, 3), 0, 1, 0, l(5, 3)},
		{"0, the other way", l(5, 3), 1, 0, 0, l(5, 3)},
		{"0 of 0", l(0, 0), 0, 1, 0, l(0, 0)},
		{"0 of 0 to the greatest", l(0, maxCap), 0, 1, 0, l(0, maxCap)},
		{"0 of the greatest", l(maxCap, 0), 0, 1, 0, l(maxCap, 0)},
		{"all that one has", l(5, 3), 0, 1, 5, l(0, 8)},
		{"all that one has, the other way", l(5, 3), 1, 0, 3, l(8, 0)},
		{"all but 1", l(5, 3), 0, 1, 4, l(1, 7)},
		{"all that one has, to none", l(5, 0), 0, 1, 5, l(0, 5)},
		{"the only one that it has", l(1, 0), 0, 1, 1, l(0, 1)},
		{"as many as may be", l(maxCap, 0), 0, 1, maxCap, l(0, maxCap)},
		{"as many as may be, the other way", l(0, maxCap), 1, 0, maxCap, l(maxCap, 0)},
		{"just till it is full", l(500, 500), 0, 1, 500, l(0, maxCap)},
		{"just till it is full, and some stay", l(700, 600), 0, 1, 400, l(300, maxCap)},
		{"1, just till it is full", l(1, maxCap-1), 0, 1, 1, l(0, maxCap)},
		{"1, and it is not yet full", l(1, maxCap-2), 0, 1, 1, l(0, maxCap-1)},

		{"from the first to the last", l(6, 5, 4, 3, 2, 1), 0, 5, 4, l(2, 5, 4, 3, 2, 5)},
		{"from the last to the first", l(6, 5, 4, 3, 2, 1), 5, 0, 1, l(7, 5, 4, 3, 2, 0)},
		{"between others", l(6, 5, 4, 3, 2, 1), 2, 3, 3, l(6, 5, 1, 6, 2, 1)},
		{"between others, the other way", l(6, 5, 4, 3, 2, 1), 3, 2, 3, l(6, 5, 7, 0, 2, 1)},
		{"others are full", l(5, maxCap, 3, maxCap), 0, 2, 2, l(3, maxCap, 5, maxCap)},
		{"others have none", l(0, 5, 0, 3), 1, 3, 2, l(0, 3, 0, 5)},

		{"one alone, to itself, 0", l(5), 0, 0, 0, l(5)},
		{"one alone, to itself, some", l(5), 0, 0, 2, l(5)},
		{"one alone, to itself, all", l(5), 0, 0, 5, l(5)},
		{"one alone that has none, to itself", l(0), 0, 0, 0, l(0)},
		{"to itself, some", l(5, 3, 4), 1, 1, 2, l(5, 3, 4)},
		{"to itself, all", l(5, 3, 4), 1, 1, 3, l(5, 3, 4)},
		{"to itself, the first", l(5, 3, 4), 0, 0, 5, l(5, 3, 4)},
		{"to itself, the last", l(5, 3, 4), 2, 2, 4, l(5, 3, 4)},
		{"to itself, more than half of what may be", l(600, 3), 0, 0, 500, l(600, 3)},
		{"to itself, and it is full, 0", l(3, maxCap), 1, 1, 0, l(3, maxCap)},
		{"to itself, and it is full, 1", l(3, maxCap), 1, 1, 1, l(3, maxCap)},
		{"to itself, and it is full, all", l(3, maxCap), 1, 1, maxCap, l(3, maxCap)},
	} {
		given(t, c.list, c.from, c.to, c.many, c.want, api.OK, c.name)
	}
}

// TestErrorsOfGive: what is wrong with what is to be given, of shares that are right, at and around each edge, and in order.
func TestErrorsOfGive(t *testing.T) {
	for _, c := range []struct {
		name           string
		list           []int
		from, to, many int
		want           api.Errno
	}{
		{"1 more than one has", l(5, 3), 0, 1, 6, api.ErrLow},
		{"1 more than one has, the other way", l(5, 3), 1, 0, 4, api.ErrLow},
		{"1 of none", l(5, 0), 1, 0, 1, api.ErrLow},
		{"1 of none, of all 0", l(0, 0), 0, 1, 1, api.ErrLow},
		{"as many as may be of 1 less", l(maxCap-1, 0), 0, 1, maxCap, api.ErrLow},
		{"as many as may be of none", l(0, 0), 0, 1, maxCap, api.ErrLow},
		{"others have so many, it has not", l(maxCap, 3, maxCap), 1, 0, 4, api.ErrLow},
		{"the one that gets them has so many, it has not", l(3, 9), 0, 1, 5, api.ErrLow},
		{"together they have so many", l(3, 3), 0, 1, 6, api.ErrLow},
		{"1 more than one has, to itself", l(5, 3), 0, 0, 6, api.ErrLow},
		{"1 of none, to itself", l(5, 0), 1, 1, 1, api.ErrLow},
		{"one alone, 1 more, to itself", l(5), 0, 0, 6, api.ErrLow},
		{"one alone, as many as may be, to itself", l(maxCap - 1), 0, 0, maxCap, api.ErrLow},

		{"1 above what may be", l(1, maxCap), 0, 1, 1, api.ErrFull},
		{"1 above what may be, the other way", l(maxCap, 1), 1, 0, 1, api.ErrFull},
		{"1 above what may be, of some", l(501, 500), 0, 1, 501, api.ErrFull},
		{"1 above what may be, and some stay", l(700, 600), 0, 1, 401, api.ErrFull},
		{"twice what may be", l(maxCap, maxCap), 0, 1, maxCap, api.ErrFull},
		{"twice what may be, the other way", l(maxCap, maxCap), 1, 0, maxCap, api.ErrFull},
		{"1 of the greatest to the greatest", l(maxCap, maxCap), 0, 1, 1, api.ErrFull},
		{"as many as may be, to 1", l(maxCap, 1), 0, 1, maxCap, api.ErrFull},
		{"from the last to the first of as many as may be", l(maxCap, 0, 0, 0, 0, 2), 5, 0, 1, api.ErrFull},

		{"so many are not there, nor would there be room", l(3, maxCap), 0, 1, 4, api.ErrLow},
		{"none is there, nor would there be room", l(0, maxCap), 0, 1, 1, api.ErrLow},
		{"as many as may be are not there, nor would there be room", l(999, 1), 0, 1, maxCap, api.ErrLow},
		{"it is there just so, and there is no room", l(4, maxCap), 0, 1, 4, api.ErrFull},
	} {
		given(t, c.list, c.from, c.to, c.many, nil, c.want, c.name)
	}
}

// beyond: numbers far from all bounds.
var beyond = l(math.MinInt, math.MinInt+1, -1<<62, -1<<32, -1<<31, 1<<31, 1<<32, 1<<62, math.MaxInt-1, math.MaxInt)

// TestPlaces: one that is not there is told, for from and for to, whatever is to be given.
func TestPlaces(t *testing.T) {
	for many := 1; many <= maxFlows; many++ {
		for _, share := range l(0, 5, maxCap) {
			list := alike(share, many)
			for _, place := range append(l(-1, -2, -many, many, many+1, maxFlows+1, 2*many), beyond...) {
				for _, other := range append(l(0, many-1, -1, many), beyond...) {
					for _, part := range append(l(0, 5, 6, maxCap, maxCap+1, -1), beyond...) {
						given(t, list, place, other, part, nil, api.ErrRange, "from", place)
						given(t, list, other, place, part, nil, api.ErrRange, "to", place)
					}
				}
			}
			for from := range many {
				for to := range many {
					given(t, list, from, to, 0, list, api.OK, "each place is there")
				}
			}
		}
	}
}

// TestHowMany: a number that none may give is told ahead of there being not so many, and no room.
func TestHowMany(t *testing.T) {
	for _, list := range [][]int{l(0, 0), l(5, 3), l(0, maxCap), l(maxCap, 0), l(maxCap, maxCap), l(999, 1, 7), alike(3, maxFlows)} {
		for from := range list {
			for to := range list {
				for _, part := range append(l(-1, -2, -5, -maxCap, maxCap+1, maxCap+2, 2*maxCap), beyond...) {
					given(t, list, from, to, part, nil, api.ErrRange, "so many", part)
				}
			}
		}
	}
}

func TestNone(t *testing.T) {
	refused(t, nil, api.ErrNone, "nil")
	refused(t, l(), api.ErrNone, "empty")
	refused(t, make([]int, 0, 9), api.ErrNone, "empty, with room")
	refused(t, l(1, 2, 3)[:0], api.ErrNone, "empty, and some behind it")
	refused(t, l(1, 2, 3)[3:], api.ErrNone, "empty, and some ahead of it")
}

// faulty: shares that may not be.
var faulty = append(l(-1, -2, -maxCap, maxCap+1, maxCap+2, 1_000_000_001), beyond...)

// TestTooMany: it is told ahead of what is wrong with one of them, wherever that lies, and of all being 0.
func TestTooMany(t *testing.T) {
	for many := maxFlows + 1; many <= maxFlows+3; many++ {
		for _, share := range l(0, 3, maxCap) {
			list := alike(share, many)
			refused(t, list, api.ErrFull, many)
			for at := range many {
				for _, x := range faulty {
					one := slices.Clone(list)
					one[at] = x
					refused(t, one, api.ErrFull, many, at, x)
				}
			}
		}
	}
	refused(t, alike(0, 100_000), api.ErrFull, "far too many of 0")
	refused(t, alike(1, 100_000), api.ErrFull, "far too many")
	refused(t, alike(math.MinInt, 100_000), api.ErrFull, "far too many that may not be")
}

// TestSharesAreChecked: one that may not be is told wherever it lies, and ahead of all others being 0.
func TestSharesAreChecked(t *testing.T) {
	for many := 1; many <= maxFlows; many++ {
		for at := range many {
			for _, share := range l(0, 3, maxCap) {
				for _, x := range faulty {
					one := alike(share, many)
					one[at] = x
					refused(t, one, api.ErrRange, many, at, x)
					for later := at + 1; later < many; later++ {
						// Two that would, taken together, be within the bounds again.
						two := slices.Clone(one)
						two[later] = -x
						refused(t, two, api.ErrRange, many, at, later, x)
					}
				}
			}
		}
	}
}

// TestAllZero: it is a fault of Index alone.
func TestAllZero(t *testing.T) {
	for many := 1; many <= maxFlows; many++ {
		list := alike(0, many)
		indexed(t, list, f(0, 0), api.ErrNone, many)
		gapped(t, list, 0, api.OK, many)
		for from := range many {
			for to := range many {
				given(t, list, from, to, 0, list, api.OK, many)
				given(t, list, from, to, 1, nil, api.ErrLow, many)
			}
		}
	}
}

// roomy gives a copy with something hidden behind its length, so that an append there would be seen.
func roomy(list []int, hidden int) []int {
	return append(slices.Clone(list), hidden, hidden, hidden)[:len(list)]
}

// TestBehindTheLength: what lies there, greater or less than all others, or faulty, makes no difference to an answer,
// and is not written into, also with an error; nor is there a place.
func TestBehindTheLength(t *testing.T) {
	for _, hidden := range l(0, 1, maxCap, -1, maxCap+1, math.MinInt, math.MaxInt) {
		for _, c := range right {
			list := roomy(c.list, hidden)
			told(t, list, c.index, c.gap, c.name, hidden)
			last := len(list) - 1
			for _, part := range l(0, 1, list[last], maxCap) {
				want, no := askedGive(c.list, last, 0, part)
				given(t, list, last, 0, part, want, no, c.name, hidden)
			}
			given(t, list, len(list), 0, 0, nil, api.ErrRange, c.name, hidden)
			given(t, list, 0, len(list), 0, nil, api.ErrRange, c.name, hidden)
		}
		refused(t, roomy(nil, hidden), api.ErrNone, hidden)
		refused(t, roomy(l(3, -1, 4), hidden), api.ErrRange, hidden)
		refused(t, roomy(l(maxCap+1), hidden), api.ErrRange, hidden)
		refused(t, roomy(alike(3, maxFlows+1), hidden), api.ErrFull, hidden)
	}
}

// filled gives every place of a list that value, up to its capacity.
func filled(list []int, value int) {
	for i := range list[:cap(list)] {
		list[:cap(list)][i] = value
	}
}

// TestAnswersAreFresh: no two lists share memory, of those that come out of several calls and those handed in,
// also where nothing has changed.
func TestAnswersAreFresh(t *testing.T) {
	for _, c := range right {
		last := len(c.list) - 1
		for _, list := range [][]int{slices.Clone(c.list), roomy(c.list, 7)} {
			lists := [][]int{list}
			for _, call := range [][3]int{{0, last, 0}, {0, 0, list[0]}, {last, last, 0}, {last, 0, 0}, {last, 0, 0}} {
				out, err := even.Give(list, call[0], call[1], call[2])
				if err != nil {
					t.Fatal(c.name, err)
				}
				lists = append(lists, out)
			}
			for i, one := range lists {
				filled(one, 100+i)
			}
			for i, one := range lists {
				if slices.ContainsFunc(one[:cap(one)], func(x int) bool { return x != 100+i }) {
					t.Errorf("%s: list %d shares memory with another", c.name, i)
				}
			}
		}
	}
}

// TestNothingIsKept: an answer hangs on its arguments alone, whatever became of earlier ones.
func TestNothingIsKept(t *testing.T) {
	for _, c := range right {
		list := slices.Clone(c.list)
		out, err := even.Give(list, 0, 0, 0)
		if err != nil {
			t.Fatal(c.name, err)
		}
		filled(list, 8)
		told(t, list, f(1, 1), 0, "others than", c.name)
		if !slices.Equal(out, c.list) {
			t.Errorf("%s: got %v, once the argument is another", c.name, out)
		}
		filled(out, -7)
		told(t, c.list, c.index, c.gap, c.name, "once more")
		given(t, c.list, 0, 0, 0, c.list, api.OK, c.name, "once more")
	}
}

// TestErrorsAreNumbers: an error can be asked by errors.Is and is never OK, and none is a plain nil.
func TestErrorsAreNumbers(t *testing.T) {
	if a, err := even.Index(l(0)); a != f(0, 0) || !errors.Is(err, api.ErrNone) || errors.Is(err, api.OK) {
		t.Errorf("got %v, %v; want ErrNone", a, err)
	}
	if k, err := even.Gap(alike(1, maxFlows+1)); k != 0 || !errors.Is(err, api.ErrFull) || errors.Is(err, api.OK) {
		t.Errorf("got %v, %v; want ErrFull", k, err)
	}
	if out, err := even.Give(l(1, 2), 0, 1, 2); out != nil || !errors.Is(err, api.ErrLow) || errors.Is(err, api.OK) {
		t.Errorf("got %v, %v; want ErrLow", out, err)
	}
	if _, err := even.Give(l(1, 2), 0, 1, 1); err != nil {
		t.Errorf("got %v, want nil", err)
	}
}

// askedIndex is what the document's words ask of Index, of shares of which each may be, by exact numbers.
func askedIndex(list []int) api.Frac {
	all, squares := new(big.Rat), new(big.Rat)
	for _, share := range list {
		x := big.NewRat(int64(share), 1)
		all.Add(all, x)
		squares.Add(squares, new(big.Rat).Mul(x, x))
	}
	if squares.Sign() == 0 {
		return f(0, 0)
	}
	index := new(big.Rat).Mul(all, all)
	index.Quo(index, big.NewRat(int64(len(list)), 1))
	index.Quo(index, squares)
	return f(int(index.Num().Int64()), int(index.Denom().Int64()))
}

// askedGap holds each share against each other one.
func askedGap(list []int) (gap int) {
	for _, a := range list {
		for _, b := range list {
			gap = max(gap, a-b)
		}
	}
	return gap
}

// askedGive is what the document's words ask of Give, of shares, places and a number that are right: one by one they are
// taken away, and then one by one laid down.
func askedGive(list []int, from, to, many int) ([]int, api.Errno) {
	out := slices.Clone(list)
	for range many {
		if out[from] == 0 {
			return nil, api.ErrLow
		}
		out[from]--
	}
	for range many {
		if out[to] == maxCap {
			return nil, api.ErrFull
		}
		out[to]++
	}
	return out, api.OK
}

// everyList hands on all lists of so many of the things.
func everyList[T any](things []T, many int, to func([]T)) {
	if many == 0 {
		to(nil)
		return
	}
	everyList(things, many-1, func(list []T) {
		for _, a := range things {
			to(append(slices.Clone(list), a))
		}
	})
}

// TestAllSmallLists holds all lists of up to six such shares against exact numbers.
func TestAllSmallLists(t *testing.T) {
	for many := 1; many <= maxFlows; many++ {
		everyList(l(0, 1, 2, 499, maxCap-1, maxCap), many, func(list []int) {
			told(t, list, askedIndex(list), askedGap(list))
		})
	}
}

// TestAllPairs holds shares of two, of many sizes, against exact numbers.
func TestAllPairs(t *testing.T) {
	for a := 0; a <= maxCap; a += 3 {
		for b := 0; b <= maxCap; b += 7 {
			told(t, l(a, b), askedIndex(l(a, b)), askedGap(l(a, b)))
			told(t, l(b, a, 0), askedIndex(l(b, a, 0)), askedGap(l(b, a, 0)))
		}
	}
}

// TestEveryGift holds what comes of giving, of all lists of up to three such shares, from each to each, against what the words ask.
func TestEveryGift(t *testing.T) {
	seen := map[api.Errno]int{}
	sizes := l(0, 1, 2, 499, 500, 501, maxCap-1, maxCap)
	for many := 1; many <= 3; many++ {
		everyList(sizes, many, func(list []int) {
			for from := range many {
				for to := range many {
					for _, part := range sizes {
						want, no := askedGive(list, from, to, part)
						given(t, list, from, to, part, want, no)
						seen[no]++
					}
				}
			}
		})
	}
	if seen[api.OK] == 0 || seen[api.ErrLow] == 0 || seen[api.ErrFull] == 0 {
		t.Errorf("not all answers are there: %v", seen)
	}
}

func rat(a api.Frac) *big.Rat { return big.NewRat(int64(a.Top), int64(a.Bottom)) }

// TestFromAllForOneToAllAlike: no index is less than that of all for one, nor more than that of all alike, and only these
// have theirs; who gives to one that has less, no more than they are apart, makes it no less even, and between these more.
func TestFromAllForOneToAllAlike(t *testing.T) {
	for many := 2; many <= 4; many++ {
		everyList(l(0, 1, 2, 3, 5, 9), many, func(list []int) {
			index, err := even.Index(list)
			if err != nil {
				return
			}
			some := len(slices.DeleteFunc(slices.Clone(list), func(x int) bool { return x == 0 }))
			if low := rat(index).Cmp(big.NewRat(1, int64(many))); low < 0 || (low == 0) != (some == 1) {
				t.Errorf("of %v the index is %v", list, index)
			}
			gap, err := even.Gap(list)
			if high := rat(index).Cmp(big.NewRat(1, 1)); err != nil || high > 0 || (high == 0) != (gap == 0) {
				t.Errorf("of %v the index is %v, the gap %v, %v", list, index, gap, err)
			}
			for from, a := range list {
				for to, b := range list {
					for part := 0; part <= a-b; part++ {
						evener(t, list, from, to, part, index)
					}
				}
			}
		})
	}
}

// evener checks that a gift brings the index up, if any comes to be elsewhere by it than it was, and that none is lost.
func evener(t *testing.T, list []int, from, to, part int, index api.Frac) {
	t.Helper()
	out, err := even.Give(list, from, to, part)
	if err != nil {
		t.Fatal(list, from, to, part, err)
	}
	all := 0
	for i := range list {
		all += out[i] - list[i]
	}
	now, err := even.Index(out)
	moved := part > 0 && part < list[from]-list[to]
	if up := rat(now).Cmp(rat(index)); err != nil || all != 0 || up < 0 || (up > 0) != moved {
		t.Errorf("of %v, %d from %d to %d: the index was %v, and is %v, %v; %d more in all", list, part, from, to, index, now, err, all)
	}
}
