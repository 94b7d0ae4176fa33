package shuffle_test

import (
	"errors"
	"math"
	"slices"
	"testing"

	"fairsluice/api"
	"fairsluice/plain"
	"fairsluice/shuffle"
)

const (
	maxFlows = 6
	maxRate  = 10_000
	maxMarks = 1_000
)

func l(list ...int) []int { return list }

// alike gives so many shares of one size.
func alike(share, many int) []int { return slices.Repeat(l(share), many) }

// wrong tells if an error is another than is wanted; OK is a plain nil.
func wrong(err error, no api.Errno) bool {
	return plain.Told(err) != no || no == api.OK && err != nil
}

// beyond: numbers far from all bounds.
var beyond = l(math.MinInt, math.MinInt+1, -1<<62, -1<<32, -1<<31, 1<<31, 1<<32, 1<<62, math.MaxInt-1, math.MaxInt)

// faulty: shares that may not be.
var faulty = append(l(-1, -2, -maxRate, maxRate+1, maxRate+2, 2*maxRate), beyond...)

// noPart: parts that may not be.
var noPart = append(l(-1, -2, -maxMarks, maxMarks+1, maxMarks+2, 2*maxMarks), beyond...)

// somePart: parts that may be.
var somePart = l(0, 1, 2, 333, 499, 500, 501, 998, maxMarks-1, maxMarks)

// memory copies a list with what lies behind its length.
func memory(list []int) []int { return slices.Clone(list[:cap(list)]) }

// kept checks that the shares are as they were, behind their length, too.
func kept(t *testing.T, shares, was []int, name ...any) {
	t.Helper()
	if !slices.Equal(shares[:cap(shares)], was) {
		t.Errorf("%v: it was %v, and is %v", name, was, shares[:cap(shares)])
	}
}

// taken checks what Taken answers; with an error the number is 0.
func taken(t *testing.T, shares []int, part, want int, no api.Errno, name ...any) {
	t.Helper()
	was := memory(shares)
	all, err := shuffle.Taken(shares, part)
	if all != want || wrong(err, no) {
		t.Errorf("Taken, %v: of %v, %d got %d, %v; want %d, %v", name, shares, part, all, err, want, no)
	}
	kept(t, shares, was, "Taken", name)
}

// told checks what both calls answer where nothing is wrong.
func told(t *testing.T, shares []int, part int, want []int, all int, name ...any) {
	t.Helper()
	was := memory(shares)
	next, err := shuffle.Step(shares, part)
	if !slices.Equal(next, want) || err != nil {
		t.Errorf("Step, %v: of %v, %d got %v, %v; want %v", name, shares, part, next, err, want)
	}
	kept(t, shares, was, "Step", name)
	taken(t, shares, part, all, api.OK, name...)
}

// refused checks that both calls tell an error, and nothing with it.
func refused(t *testing.T, shares []int, part int, no api.Errno, name ...any) {
	t.Helper()
	was := memory(shares)
	next, err := shuffle.Step(shares, part)
	if len(next) != 0 || wrong(err, no) {
		t.Errorf("Step, %v: of %v, %d got %v, %v; want %v", name, shares, part, next, err, no)
	}
	kept(t, shares, was, "Step", name)
	taken(t, shares, part, 0, no, name...)
}

func TestBoundsAreTheDocuments(t *testing.T) {
	if api.MaxFlows != maxFlows || api.MaxRate != maxRate || api.MaxMarks != maxMarks {
		t.Error("a bound of package api is not the document's")
	}
}

// right: shares, the part that is taken of each, the shares then, and how much was taken of all.
var right = []struct {
	name   string
	shares []int
	part   int
	want   []int
	all    int
}{
	{"evenly, of two", l(10, 2), 500, l(8, 4), 6},
	{"evenly, of three", l(30, 20, 10), 100, l(29, 20, 11), 6},
	{"evenly, though parts are rounded", l(10, 10, 1), 333, l(9, 9, 3), 6},
	{"evenly, of as many as may be", l(60, 0, 0, 0, 0, 0), 500, l(35, 5, 5, 5, 5, 5), 30},
	{"evenly, of as many as may be, all others", l(8, 8, 7, 6, 5, 4), 500, l(7, 7, 7, 6, 6, 5), 18},

	{"one left over, of two", l(10, 4), 500, l(8, 6), 7},
	{"one left over, of three", l(14, 0, 1), 500, l(9, 3, 3), 7},
	{"one left over, none for all", l(2, 0, 0, 0, 0, 0), 500, l(1, 1, 0, 0, 0, 0), 1},
	{"two left over, of four", l(7, 6, 5, 4), 500, l(6, 5, 6, 5), 10},
	{"all but one left over, of three", l(10, 0, 1), 500, l(6, 2, 3), 5},
	{"all but one left over, of as many as may be", l(9, 8, 7, 6, 5, 2), 500, l(7, 7, 7, 6, 6, 4), 17},
	{"all but one left over, the greatest is not the last", l(0, 2, 4, 6, 8, 2), 500, l(2, 3, 4, 5, 5, 3), 11},
	{"all but one left over, none for all", l(10, 0, 0, 0, 0, 0), 500, l(5, 1, 1, 1, 1, 1), 5},

	{"the greatest, that gets none of what is left over, is in the middle", l(0, 9, 6), 200, l(1, 8, 6), 2},
	{"the greatest, that gets none of what is left over, is the first", l(9, 6, 0), 200, l(8, 6, 1), 2},

	{"alike behind the taking: the one that was less", l(2, 1), 500, l(1, 2), 1},
	{"alike behind the taking: the one that was less, though it is ahead", l(1, 2), 999, l(2, 1), 1},
	{"alike behind the taking: the lesser and the first", l(3, 2, 3), 999, l(3, 3, 2), 5},
	{"alike behind the taking, for all goes", l(5, 0), maxMarks, l(2, 3), 5},
	{"alike behind the taking, great ones", l(maxRate, 9_999, maxRate, 9_999, maxRate, 9_999), 999,
		l(9_999, maxRate, 9_999, maxRate, 9_999, maxRate), 59_937},

	{"as little: the first of two", l(14, 1, 1), 500, l(9, 4, 3), 7},
	{"as little: the first two of three", l(9, 4, 7, 4, 4), 300, l(8, 5, 6, 5, 4), 7},
	{"as little: the first and the last alike, one of them", l(1, 6, 1), 700, l(3, 3, 2), 4},
	{"less, then the first of those as little", l(maxRate, maxRate, maxRate, maxRate, maxRate, 0), maxMarks,
		l(8_334, 8_333, 8_333, 8_333, 8_333, 8_334), 50_000},

	{"rounded by itself: nothing of two", l(1, 1), 500, l(1, 1), 0},
	{"rounded by itself: nothing of as many as may be", alike(1, maxFlows), 999, alike(1, maxFlows), 0},
	{"rounded by itself: all together would give one", l(999, 998, 3), 1, l(999, 998, 3), 0},
	{"rounded by itself: some give one less", l(3, 5), 500, l(4, 4), 3},

	{"part 0", l(7, 0, 3), 0, l(7, 0, 3), 0},
	{"part 0, of one", l(7), 0, l(7), 0},
	{"part 0, the greatest", alike(maxRate, maxFlows), 0, alike(maxRate, maxFlows), 0},
	{"part 1", l(1_000, 999, maxRate), 1, l(1_003, 1_003, 9_993), 11},
	{"part 1, just less than one", l(1_999, 999, 1), 1, l(1_998, 999, 2), 1},
	{"part 1, all of one", l(maxRate, 0, 0, 0, 0, 0), 1, l(9_991, 2, 2, 2, 2, 1), 10},
	{"all but one of a thousand", l(1_000, 999, maxRate), maxMarks - 1, l(3_997, 3_997, 4_005), 11_987},
	{"all but one of a thousand, small", l(9, 4, 2), maxMarks - 1, l(5, 5, 5), 12},
	{"all goes", l(1_000, 999, maxRate), maxMarks, l(4_000, 4_000, 3_999), 11_999},
	{"all goes, evenly", l(9, 4, 2), maxMarks, l(5, 5, 5), 15},
	{"all goes, to all but the greatest one more", l(7, 0, 3, 1), maxMarks, l(2, 3, 3, 3), 11},

	{"one share", l(7), 500, l(7), 3},
	{"one share, all goes", l(7), maxMarks, l(7), 7},
	{"one share, too little to give", l(1), maxMarks - 1, l(1), 0},
	{"one share of 0", l(0), maxMarks, l(0), 0},
	{"one share, the greatest", l(maxRate), 500, l(maxRate), 5_000},
	{"one share, all of the greatest goes", l(maxRate), maxMarks, l(maxRate), maxRate},

	{"all alike", l(3, 3), 500, l(3, 3), 2},
	{"all alike, as many as may be", alike(5, maxFlows), 777, alike(5, maxFlows), 18},
	{"all alike, the greatest", alike(maxRate, maxFlows), 1, alike(maxRate, maxFlows), 60},
	{"all alike, the half of the greatest", alike(maxRate, maxFlows), 500, alike(maxRate, maxFlows), 30_000},
	{"all alike, all goes of the greatest", alike(maxRate, maxFlows), maxMarks, alike(maxRate, maxFlows), 60_000},
	{"all 0", l(0, 0), 1, l(0, 0), 0},
	{"all 0, as many as may be", alike(0, maxFlows), maxMarks, alike(0, maxFlows), 0},

	{"some are 0", l(0, 7, 0, 1), 500, l(1, 4, 1, 2), 3},
	{"all but the last are 0", l(0, 0, 9), 999, l(3, 3, 3), 8},
	{"each other one is 0", l(3, 0, 3, 0, 3, 0), 700, l(2, 1, 2, 1, 2, 1), 6},
	{"the greatest, and 0", l(maxRate, 0), 500, l(7_500, 2_500), 5_000},
	{"the greatest, and 0, all goes", l(maxRate, 0, 0), maxMarks, l(3_333, 3_334, 3_333), maxRate},
	{"the greatest and 0 by turns", l(0, maxRate, 0, maxRate, 0, maxRate), maxMarks, alike(5_000, maxFlows), 30_000},
}

func TestStep(t *testing.T) {
	for _, c := range right {
		told(t, c.shares, c.part, c.want, c.all, c.name)
	}
}

// TestNone: it is told ahead of what is wrong with the part.
func TestNone(t *testing.T) {
	for _, part := range slices.Concat(somePart, noPart) {
		refused(t, nil, part, api.ErrNone, "nil")
		refused(t, l(), part, api.ErrNone, "empty")
		refused(t, make([]int, 0, 9), part, api.ErrNone, "empty, with room")
		refused(t, l(1, 2, -3)[:0], part, api.ErrNone, "empty, and some behind it")
		refused(t, l(1, 2, -3)[3:], part, api.ErrNone, "empty, and some ahead of it")
	}
}

// TestTooMany: it is told ahead of what is wrong with one of them, wherever that lies, and with the part.
func TestTooMany(t *testing.T) {
	told(t, l(6, 5, 4, 3, 2, 1), maxMarks, l(3, 3, 3, 4, 4, 4), 21, "as many as may be")
	for many := maxFlows + 1; many <= maxFlows+3; many++ {
		for _, share := range l(0, 3, maxRate) {
			shares := alike(share, many)
			for _, part := range slices.Concat(somePart, noPart) {
				refused(t, shares, part, api.ErrFull, many)
			}
			for at := range many {
				for _, x := range faulty {
					one := slices.Clone(shares)
					one[at] = x
					refused(t, one, 500, api.ErrFull, many, at, x)
					refused(t, one, maxMarks+1, api.ErrFull, many, at, x)
				}
			}
		}
	}
	refused(t, alike(1, 100_000), 500, api.ErrFull, "far too many")
	refused(t, alike(math.MinInt, 100_000), -1, api.ErrFull, "far too many that may not be")
}

// TestSharesAreChecked: one that may not be is told wherever it lies, whatever the part is, also 0; the edges are right.
func TestSharesAreChecked(t *testing.T) {
	for many := 1; many <= maxFlows; many++ {
		for at := range many {
			for _, share := range l(0, 3, maxRate) {
				for _, x := range faulty {
					one := alike(share, many)
					one[at] = x
					for _, part := range slices.Concat(somePart, noPart) {
						refused(t, one, part, api.ErrRange, many, at, x)
					}
				}
				for _, x := range l(0, 1, maxRate-1, maxRate) {
					one := alike(share, many)
					one[at] = x
					for _, part := range somePart {
						rightly(t, one, part)
					}
				}
			}
		}
	}
}

// TestPartIsChecked: at the edges it is right, one beyond it is not, whatever the shares are, also where none has any to give.
func TestPartIsChecked(t *testing.T) {
	for _, shares := range [][]int{l(0), l(1), l(maxRate), l(0, 0), l(2, 3), alike(0, maxFlows), alike(maxRate, maxFlows)} {
		for _, part := range noPart {
			refused(t, shares, part, api.ErrRange)
		}
		for _, part := range somePart {
			rightly(t, shares, part)
		}
	}
}

// roomy gives a copy with something hidden behind its length, so that an append there would be seen.
func roomy(list []int, hidden int) []int {
	return append(slices.Clone(list), hidden, hidden, hidden)[:len(list)]
}

// TestBehindTheLength: what lies there, faulty or not, makes no difference to an answer, and is not written into, also with
// an error.
func TestBehindTheLength(t *testing.T) {
	for _, hidden := range l(0, 1, maxRate, -1, maxRate+1, math.MinInt, math.MaxInt) {
		for _, c := range right {
			told(t, roomy(c.shares, hidden), c.part, c.want, c.all, c.name, hidden)
		}
		refused(t, roomy(nil, hidden), 500, api.ErrNone, hidden)
		refused(t, roomy(l(3, -1, 4), hidden), 500, api.ErrRange, hidden)
		refused(t, roomy(alike(3, maxFlows+1), hidden), 500, api.ErrFull, hidden)
		refused(t, roomy(l(3, 4), hidden), maxMarks+1, api.ErrRange, hidden)
	}
}

// filled gives every place of a list that value, up to its capacity.
func filled(list []int, value int) {
	for i := range list[:cap(list)] {
		list[:cap(list)][i] = value
	}
}

// TestAnswersAreFresh: no two lists share memory, of those that come out of several calls and those handed in, also where
// the shares stay as they were.
func TestAnswersAreFresh(t *testing.T) {
	for _, c := range right {
		for _, shares := range [][]int{slices.Clone(c.shares), roomy(c.shares, 7)} {
			lists := [][]int{shares}
			for _, part := range l(c.part, 0, c.part, 0, maxMarks, c.part) {
				out, err := shuffle.Step(shares, part)
				if err != nil {
					t.Fatal(c.name, err)
				}
				lists = append(lists, out)
			}
			for i, one := range lists {
				filled(one, 100+i)
			}
			for i, one := range lists {
				if slices.ContainsFunc(one[:cap(one)], func(x int) bool { return x != 100+i }) {
					t.Errorf("%s: list %d shares memory with another", c.name, i)
				}
			}
		}
	}
}

// TestNothingIsKept: an answer hangs on its arguments alone, whatever became of earlier ones.
func TestNothingIsKept(t *testing.T) {
	for _, c := range right {
		shares := slices.Clone(c.shares)
		out, err := shuffle.Step(shares, c.part)
		if err != nil {
			t.Fatal(c.name, err)
		}
		filled(shares, 8)
		told(t, shares, 500, alike(8, len(shares)), 4*len(shares), "others than", c.name)
		if !slices.Equal(out, c.want) {
			t.Errorf("%s: got %v, once the shares are others", c.name, out)
		}
		filled(out, -7)
		refused(t, l(-1), 500, api.ErrRange, "between")
		told(t, c.shares, c.part, c.want, c.all, c.name, "once more")
	}
}

// TestErrorsAreNumbers: an error can be asked by errors.Is and is never OK.
func TestErrorsAreNumbers(t *testing.T) {
	for _, c := range []struct {
		shares []int
		part   int
		want   api.Errno
	}{
		{nil, 5, api.ErrNone}, {alike(1, maxFlows+1), 5, api.ErrFull}, {l(-1), 5, api.ErrRange}, {l(1), maxMarks + 1, api.ErrRange},
	} {
		if _, err := shuffle.Step(c.shares, c.part); !errors.Is(err, c.want) || errors.Is(err, api.OK) {
			t.Errorf("Step of %v, %d: got %v, want %v", c.shares, c.part, err, c.want)
		}
		if _, err := shuffle.Taken(c.shares, c.part); !errors.Is(err, c.want) || errors.Is(err, api.OK) {
			t.Errorf("Taken of %v, %d: got %v, want %v", c.shares, c.part, err, c.want)
		}
	}
}

// rounded gives a share's part of a thousand, rounded down, by going there a share at a time: it does not divide.
func rounded(share, part int) int {
	whole, rest := 0, 0
	for range share {
		rest += part
		if rest >= maxMarks {
			whole, rest = whole+1, rest-maxMarks
		}
	}
	return whole
}

// sums gives all of a list together, and their squares together.
func sums(list []int) (all, squares int) {
	for _, n := range list {
		all += n
		squares += n * n
	}
	return all, squares
}

// rightly checks, of what is right, what the document's words ask, which lets just one list be: all together are as many as
// they were; to each is given back as much, or one more; and who got one more had less than who did not, or as little and is
// ahead. It checks that they are no less even, too, and what Taken tells.
func rightly(t *testing.T, shares []int, part int) {
	t.Helper()
	next, err := shuffle.Step(shares, part)
	if err != nil || len(next) != len(shares) {
		t.Fatalf("of %v, %d got %v, %v", shares, part, next, err)
	}
	all, back := 0, make([]int, len(shares))
	for i, share := range shares {
		gone := rounded(share, part)
		all += gone
		back[i] = next[i] - (share - gone)
	}
	taken(t, shares, part, all, api.OK)
	if given, _ := sums(back); given != all {
		t.Errorf("of %v, %d got %v: %d taken, and %d given back", shares, part, next, all, given)
	}
	for i := range back {
		for k := range back {
			switch back[i] - back[k] {
			case 0, -1:
			case 1:
				if shares[i] > shares[k] || shares[i] == shares[k] && i > k {
					t.Errorf("of %v, %d got %v: of %d and %d the other one should have one more", shares, part, next, i, k)
				}
			default:
				t.Errorf("of %v, %d got %v: to %d and %d is not given back alike, or one more", shares, part, next, i, k)
			}
		}
	}
	noLessEven(t, shares, part, next)
}

// noLessEven checks that the shares together are what they were, that none is beyond what the greatest and the least were,
// so that these are no further apart, and that all is as even by their squares; if all goes, they are alike or one apart.
func noLessEven(t *testing.T, shares []int, part int, next []int) {
	t.Helper()
	before, squaresBefore := sums(shares)
	behind, squaresBehind := sums(next)
	if behind != before {
		t.Errorf("of %v, %d got %v: together %d, not %d", shares, part, next, behind, before)
	}
	if slices.Max(next) > slices.Max(shares) || slices.Min(next) < slices.Min(shares) || squaresBehind > squaresBefore {
		t.Errorf("of %v, %d got %v: that is less even", shares, part, next)
	}
	if part == maxMarks && slices.Max(next)-slices.Min(next) > 1 {
		t.Errorf("of %v got %v: all went, and they are further apart than one", shares, next)
	}
}

// everyList hands on all lists of so many of the things.
func everyList(things []int, many int, to func([]int)) {
	if many == 0 {
		to(nil)
		return
	}
	everyList(things, many-1, func(list []int) {
		for _, a := range things {
			to(append(slices.Clone(list), a))
		}
	})
}

// TestAllSmall holds all lists of up to four small shares against what the words ask.
func TestAllSmall(t *testing.T) {
	for many := 1; many <= 4; many++ {
		everyList(l(0, 1, 2, 3, 5, 8), many, func(shares []int) {
			for _, part := range somePart {
				rightly(t, shares, part)
			}
		})
	}
}

// TestAllLong holds all lists of as many shares as may be, of those sizes, against what the words ask.
func TestAllLong(t *testing.T) {
	everyList(l(0, 1, 14, 143), maxFlows, func(shares []int) {
		for _, part := range l(1, 7, 500, maxMarks-1, maxMarks) {
			rightly(t, shares, part)
		}
	})
}

// TestEveryPart holds every part that may be against what the words ask, of some shares.
func TestEveryPart(t *testing.T) {
	for _, shares := range [][]int{l(7), l(1, 1), l(4, 2, 1), l(997, 0, 991, 3), alike(maxRate, maxFlows), l(maxRate, 10, 100, 0, 333, maxRate)} {
		for part := range maxMarks + 1 {
			rightly(t, shares, part)
		}
	}
}

// TestEveryShare holds every share that may be, by itself and beside others, against what the words ask.
func TestEveryShare(t *testing.T) {
	for share := 0; share <= maxRate; share++ {
		for _, part := range l(1, 499, maxMarks-1, maxMarks) {
			told(t, l(share), part, l(share), share*part/maxMarks)
			if share%97 == 0 || share > maxRate-5 || share < 5 {
				rightly(t, l(share, maxRate, 0, share/2), part)
			}
		}
	}
}
