package aimd_test

import (
	"errors"
	"math"
	"slices"
	"testing"

	"fairsluice/aimd"
	"fairsluice/api"
	"fairsluice/plain"
)

const (
	maxFlows = 6
	maxCap   = 1_000
	maxRate  = 10_000
	maxTicks = 60
)

func l(list ...int) []int { return list }

// alike gives so many shares of one size.
func alike(share, many int) []int { return slices.Repeat(l(share), many) }

// memory copies a list with what lies behind its length.
func memory(list []int) []int { return slices.Clone(list[:cap(list)]) }

// kept checks that a list that was handed in is as it was, behind its length, too.
func kept(t *testing.T, list, was []int, name ...any) {
	t.Helper()
	if !slices.Equal(list[:cap(list)], was) {
		t.Errorf("%v: it was %v, and is %v", name, was, list[:cap(list)])
	}
}

// wrong tells if an error is another than is wanted; OK is a plain nil.
func wrong(err error, no api.Errno) bool {
	return plain.Told(err) != no || no == api.OK && err != nil
}

// stepped checks what Step answers; with an error there is no list at all.
func stepped(t *testing.T, list []int, limit, up int, want []int, no api.Errno, name ...any) {
	t.Helper()
	was := memory(list)
	out, err := aimd.Step(list, limit, up)
	if !slices.Equal(out, want) || wrong(err, no) || no != api.OK && out != nil {
		t.Errorf("Step, %v: of %v, %d, %d got %v, %v; want %v, %v", name, list, limit, up, out, err, want, no)
	}
	kept(t, list, was, "Step", name)
}

// ran checks what Run and Cuts answer.
func ran(t *testing.T, list []int, limit, up, ticks int, want []int, cuts int, no api.Errno, name ...any) {
	t.Helper()
	was := memory(list)
	out, err := aimd.Run(list, limit, up, ticks)
	if !slices.Equal(out, want) || wrong(err, no) || no != api.OK && out != nil {
		t.Errorf("Run, %v: of %v, %d, %d, %d got %v, %v; want %v, %v", name, list, limit, up, ticks, out, err, want, no)
	}
	kept(t, list, was, "Run", name)
	many, err := aimd.Cuts(list, limit, up, ticks)
	if many != cuts || wrong(err, no) {
		t.Errorf("Cuts, %v: of %v, %d, %d, %d got %v, %v; want %v, %v", name, list, limit, up, ticks, many, err, cuts, no)
	}
	kept(t, list, was, "Cuts", name)
}

// beyond: numbers far from all bounds.
var beyond = l(math.MinInt, math.MinInt+1, -1<<62, -1<<32, -1<<31, 1<<31, 1<<32, 1<<62, math.MaxInt-1, math.MaxInt)

// noTicks, noCaps and noShares: numbers that may not be so many ticks, a cap or an up, a share.
var (
	noTicks  = append(l(-1, -2, -maxTicks, maxTicks+1, maxTicks+2, maxRate), beyond...)
	noCaps   = append(l(0, -1, -2, -maxCap, maxCap+1, maxCap+2, maxRate), beyond...)
	noShares = append(l(-1, -2, -maxRate, maxRate+1, maxRate+2, 1_000_000_001), beyond...)
)

// refused checks that all three calls tell an error, and nothing with it, of no tick, too; but what is wrong with ticks is
// told by Run and Cuts ahead of it.
func refused(t *testing.T, list []int, limit, up int, no api.Errno, name ...any) {
	t.Helper()
	stepped(t, list, limit, up, nil, no, name...)
	for _, ticks := range l(0, 1, 2, maxTicks) {
		ran(t, list, limit, up, ticks, nil, 0, no, name...)
	}
	for _, ticks := range l(-1, maxTicks+1, math.MinInt, math.MaxInt) {
		ran(t, list, limit, up, ticks, nil, 0, api.ErrRange, name...)
	}
}

// refusedOfAll checks that an error of shares is told whatever cap and up are.
func refusedOfAll(t *testing.T, list []int, no api.Errno, name ...any) {
	t.Helper()
	for _, c := range [][2]int{
		{1, 1}, {maxCap, maxCap}, {maxCap, 1}, {1, maxCap},
		{0, 1}, {maxCap + 1, 1}, {math.MinInt, 1}, {math.MaxInt, 1},
		{1, 0}, {1, maxCap + 1}, {1, math.MinInt}, {1, math.MaxInt},
		{0, 0}, {-1, maxCap + 1},
	} {
		refused(t, list, c[0], c[1], no, name...)
	}
}

func TestBoundsAreTheDocuments(t *testing.T) {
	if api.MaxFlows != maxFlows || api.MaxCap != maxCap || api.MaxRate != maxRate || api.MaxTicks != maxTicks {
		t.Error("a bound of package api is not the document's")
	}
}

// right: shares, cap and up that Step refuses none of, and what it answers.
var right = []struct {
	name      string
	list      []int
	limit, up int
	want      []int
}{
	{"one, below cap", l(5), 10, 3, l(8)},
	{"one, just at cap", l(10), 10, 3, l(13)},
	{"one, 1 above cap, odd", l(11), 10, 3, l(5)},
	{"one, 1 above cap, even", l(12), 11, 3, l(6)},
	{"one, far above cap", l(9_999), 10, 3, l(4_999)},
	{"one, up above cap", l(10), 10, 500, l(510)},
	{"one of 0", l(0), 1, 1, l(1)},
	{"one of 1, at the least cap", l(1), 1, 1, l(2)},
	{"one of 2, above the least cap", l(2), 1, 1, l(1)},
	{"one of 3, above the least cap", l(3), 1, maxCap, l(1)},
	{"one, just at the greatest cap", l(maxCap), maxCap, 1, l(maxCap + 1)},
	{"one, 1 above the greatest cap", l(maxCap + 1), maxCap, 1, l(500)},
	{"one, as great as one goes up to", l(maxCap), maxCap, maxCap, l(2 * maxCap)},

	{"two, together below cap", l(3, 4), 8, 2, l(5, 6)},
	{"two, together just at cap", l(3, 4), 7, 2, l(5, 6)},
	{"two, together 1 above cap", l(3, 4), 6, 2, l(1, 2)},
	{"two, the first alone above cap", l(9, 0), 8, 2, l(4, 0)},
	{"two, the last alone above cap", l(0, 9), 8, 2, l(0, 4)},
	{"two, each just at cap", l(8, 8), 8, 2, l(4, 4)},
	{"three, together just at cap", l(7, 7, 12), 26, 4, l(11, 11, 16)},
	{"three, together 1 above cap", l(7, 7, 12), 25, 4, l(3, 3, 6)},
	{"together just at the greatest cap", l(1, 499, 500), maxCap, 1, l(2, 500, 501)},
	{"together 1 above the greatest cap", l(2, 499, 500), maxCap, 1, l(1, 249, 250)},

	{"as many as may be, just at cap", l(1, 2, 3, 4, 5, 6), 21, 10, l(11, 12, 13, 14, 15, 16)},
	{"as many as may be, 1 above cap", l(1, 2, 3, 4, 5, 6), 20, 10, l(0, 1, 1, 2, 2, 3)},
	{"as many as may be, the other way round", l(6, 5, 4, 3, 2, 1), 20, 10, l(3, 2, 2, 1, 1, 0)},
	{"as many as may be, all odd", alike(7, maxFlows), 41, 1, alike(3, maxFlows)},
	{"as many as may be, all even", alike(8, maxFlows), 47, 1, alike(4, maxFlows)},
	{"as many as may be, all odd, just at cap", alike(7, maxFlows), 42, 1, alike(8, maxFlows)},
	{"all of 1, above cap", alike(1, maxFlows), 5, 9, alike(0, maxFlows)},
	{"all of 1, just at cap", alike(1, maxFlows), 6, 9, alike(10, maxFlows)},

	{"some are 0, below cap", l(0, 5, 0, 2), 9, 3, l(3, 8, 3, 5)},
	{"some are 0, above cap", l(0, 5, 0, 2), 6, 3, l(0, 2, 0, 1)},
	{"all are 0, the least cap", l(0, 0, 0), 1, 7, l(7, 7, 7)},
	{"all are 0, the greatest cap and up", alike(0, maxFlows), maxCap, maxCap, alike(maxCap, maxFlows)},

	{"one just at MaxRate", l(maxRate), maxCap, maxCap, l(5_000)},
	{"one just at MaxRate, the least cap", l(maxRate), 1, 1, l(5_000)},
	{"one of some just at MaxRate", l(0, maxRate, 1), maxCap, maxCap, l(0, 5_000, 0)},
	{"one below MaxRate, odd", l(maxRate-1, maxRate), maxCap, 1, l(4_999, 5_000)},
	{"all just at MaxRate", alike(maxRate, maxFlows), maxCap, maxCap, alike(5_000, maxFlows)},
}

func TestStep(t *testing.T) {
	for _, c := range right {
		stepped(t, c.list, c.limit, c.up, c.want, api.OK, c.name)
	}
}

// TestNoTickAndOne: of no tick shares are as they were, and of one as Step tells.
func TestNoTickAndOne(t *testing.T) {
	for _, c := range right {
		ran(t, c.list, c.limit, c.up, 0, c.list, 0, api.OK, c.name)
		cuts := 0
		if sum(c.list) > c.limit {
			cuts = 1
		}
		ran(t, c.list, c.limit, c.up, 1, c.want, cuts, api.OK, c.name)
	}
}

func TestRunAndCuts(t *testing.T) {
	for _, c := range []struct {
		name             string
		list             []int
		limit, up, ticks int
		want             []int
		cuts             int
	}{
		{"up to just at cap", l(0), 3, 1, 3, l(3), 0},
		{"and above it", l(0), 3, 1, 4, l(4), 0},
		{"and down", l(0), 3, 1, 5, l(2), 1},
		{"and up again", l(0), 3, 1, 7, l(4), 1},
		{"and down again", l(0), 3, 1, 8, l(2), 2},
		{"as many ticks as may be but one", l(0), 3, 1, maxTicks - 1, l(2), 19},
		{"as many ticks as may be", l(0), 3, 1, maxTicks, l(3), 19},

		{"no halving among two", l(4, 1), 9, 2, 2, l(8, 5), 0},
		{"one halving, the last of three", l(4, 1), 9, 2, 3, l(4, 2), 1},
		{"one halving, in the middle", l(4, 1), 9, 2, 4, l(6, 4), 1},
		{"two halvings", l(4, 1), 9, 2, 5, l(3, 2), 2},
		{"two halvings ahead, then up", l(20, 6), 7, 1, 3, l(6, 2), 2},
		{"and down behind it", l(20, 6), 7, 1, 4, l(3, 1), 3},

		{"none is a halving, of as many ticks as may be", l(0), maxCap, 1, maxTicks, l(60), 0},
		{"none is a halving, of as many shares as may be", alike(0, maxFlows), maxCap, 1, maxTicks, alike(60, maxFlows), 0},
		{"none is a halving, and it is just at cap ahead of the last", l(411, 471), maxCap, 1, maxTicks, l(471, 531), 0},
		{"the last one is a halving", l(412, 471), maxCap, 1, maxTicks, l(235, 265), 1},

		{"each is a halving, down to cap", l(maxRate), 1, maxCap, 13, l(1), 13},
		{"and then one is not", l(maxRate), 1, maxCap, 14, l(1_001), 13},
		{"each is a halving, down to 0", alike(maxRate, maxFlows), 1, maxCap, 14, alike(0, maxFlows), 14},
		{"and up from 0", alike(maxRate, maxFlows), 1, maxCap, 15, alike(maxCap, maxFlows), 14},
		{"most are halvings, of as many ticks as may be", alike(maxRate, maxFlows), 1, maxCap, maxTicks, alike(500, maxFlows), 55},
		{"each is a halving, of some that are 0", l(0, 8, 0), 1, 1, 3, l(0, 1, 0), 3},

		{"the greatest cap and up", l(maxCap), maxCap, maxCap, 2, l(maxCap), 1},
		{"the greatest cap and up, as often as may be", l(maxCap), maxCap, maxCap, maxTicks, l(maxCap), 30},
		{"the greatest cap and up, and one tick less", l(maxCap), maxCap, maxCap, maxTicks - 1, l(2 * maxCap), 29},
		{"the least cap and up", l(0), 1, 1, maxTicks, l(2), 29},
	} {
		ran(t, c.list, c.limit, c.up, c.ticks, c.want, c.cuts, api.OK, c.name)
	}
}

func TestNone(t *testing.T) {
	refusedOfAll(t, nil, api.ErrNone, "nil")
	refusedOfAll(t, l(), api.ErrNone, "empty")
	refusedOfAll(t, make([]int, 0, 9), api.ErrNone, "empty, with room")
	refusedOfAll(t, l(1, 2, 3)[:0], api.ErrNone, "empty, and some behind it")
	refusedOfAll(t, l(1, 2, 3)[3:], api.ErrNone, "empty, and some ahead of it")
}

// TestTooMany: it is told ahead of what is wrong with one of them, wherever that lies, and of cap and up.
func TestTooMany(t *testing.T) {
	for many := maxFlows + 1; many <= maxFlows+3; many++ {
		for _, share := range l(0, 3, maxRate) {
			list := alike(share, many)
			refusedOfAll(t, list, api.ErrFull, many)
			for at := range many {
				for _, x := range noShares {
					one := slices.Clone(list)
					one[at] = x
					refusedOfAll(t, one, api.ErrFull, many, at, x)
				}
			}
		}
	}
	refused(t, alike(0, 100_000), 1, 1, api.ErrFull, "far too many of 0")
	refused(t, alike(maxRate, 100_000), 1, 1, api.ErrFull, "far too many")
	refused(t, alike(math.MinInt, 100_000), 0, 0, api.ErrFull, "far too many that may not be")
}

// TestSharesAreChecked: one that may not be is told wherever it lies, alone and with another.
func TestSharesAreChecked(t *testing.T) {
	for many := 1; many <= maxFlows; many++ {
		for at := range many {
			for _, share := range l(0, 3, maxRate) {
				for _, x := range noShares {
					one := alike(share, many)
					one[at] = x
					refusedOfAll(t, one, api.ErrRange, many, at, x)
					for later := at + 1; later < many; later++ {
						// Two that would, taken together, be within the bounds again.
						two := slices.Clone(one)
						two[later] = -x
						refused(t, two, 1, 1, api.ErrRange, many, at, later, x)
					}
				}
			}
		}
	}
}

// TestCapAndUpAreChecked: each alone and both, also where shares are halved, so that up is not asked, or go up.
func TestCapAndUpAreChecked(t *testing.T) {
	for _, list := range [][]int{l(0), l(3, 4), l(maxRate), alike(0, maxFlows), alike(maxRate, maxFlows)} {
		for _, x := range noCaps {
			for _, fine := range l(1, 2, maxCap-1, maxCap) {
				refused(t, list, x, fine, api.ErrRange, "cap", x)
				refused(t, list, fine, x, api.ErrRange, "up", x)
			}
			for _, y := range noCaps {
				refused(t, list, x, y, api.ErrRange, "cap and up", x, y)
			}
		}
	}
}

// TestTicksAreChecked: what is wrong with them is told ahead of all else.
func TestTicksAreChecked(t *testing.T) {
	for _, ticks := range noTicks {
		for _, c := range right {
			ran(t, c.list, c.limit, c.up, ticks, nil, 0, api.ErrRange, c.name)
		}
		for _, list := range [][]int{nil, l(), l(-1), l(maxRate + 1), alike(1, maxFlows+1), l(1, 2)} {
			for _, limit := range l(1, maxCap, 0, maxCap+1) {
				for _, up := range l(1, maxCap, 0, maxCap+1) {
					ran(t, list, limit, up, ticks, nil, 0, api.ErrRange, ticks, limit, up)
				}
			}
		}
	}
}

// roomy gives a copy with something hidden behind its length, so that an append there would be seen.
func roomy(list []int, hidden int) []int {
	return append(slices.Clone(list), hidden, hidden, hidden)[:len(list)]
}

// TestBehindTheLength: what lies there makes no difference to an answer, and is not written into, also with an error.
func TestBehindTheLength(t *testing.T) {
	for _, hidden := range l(0, 1, maxRate, -1, maxRate+1, math.MinInt, math.MaxInt) {
		for _, c := range right {
			list := roomy(c.list, hidden)
			stepped(t, list, c.limit, c.up, c.want, api.OK, c.name, hidden)
			for _, ticks := range l(0, 1, 2, 7, maxTicks) {
				want, cuts := askedRun(c.list, c.limit, c.up, ticks)
				ran(t, list, c.limit, c.up, ticks, want, cuts, api.OK, c.name, hidden)
			}
		}
		refused(t, roomy(nil, hidden), 1, 1, api.ErrNone, hidden)
		refused(t, roomy(l(3, -1, 4), hidden), 1, 1, api.ErrRange, hidden)
		refused(t, roomy(l(maxRate+1), hidden), 1, 1, api.ErrRange, hidden)
		refused(t, roomy(l(3, 4), hidden), 0, 1, api.ErrRange, hidden)
		refused(t, roomy(alike(3, maxFlows+1), hidden), 1, 1, api.ErrFull, hidden)
	}
}

// filled gives every place of a list that value, up to its capacity.
func filled(list []int, value int) {
	for i := range list[:cap(list)] {
		list[:cap(list)][i] = value
	}
}

// TestAnswersAreFresh: no two lists share memory, of those that come out of several calls and those handed in,
// also of no tick.
func TestAnswersAreFresh(t *testing.T) {
	for _, c := range right {
		for _, list := range [][]int{slices.Clone(c.list), roomy(c.list, 7)} {
			lists := [][]int{list}
			for range 2 {
				out, err := aimd.Step(list, c.limit, c.up)
				if err != nil {
					t.Fatal(c.name, err)
				}
				lists = append(lists, out)
				for _, ticks := range l(0, 1, 2, maxTicks) {
					out, err := aimd.Run(list, c.limit, c.up, ticks)
					if err != nil {
						t.Fatal(c.name, ticks, err)
					}
					lists = append(lists, out)
				}
			}
			for i, one := range lists {
				filled(one, 100+i)
			}
			for i, one := range lists {
				if slices.ContainsFunc(one[:cap(one)], func(x int) bool { return x != 100+i }) {
					t.Errorf("%s: list %d shares memory with another", c.name, i)
				}
			}
		}
	}
}

// TestNothingIsKept: an answer hangs on its arguments alone, whatever became of earlier ones.
func TestNothingIsKept(t *testing.T) {
	for _, c := range right {
		list := slices.Clone(c.list)
		out, err := aimd.Step(list, c.limit, c.up)
		same, bad := aimd.Run(list, c.limit, c.up, 0)
		if err != nil || bad != nil {
			t.Fatal(c.name, err, bad)
		}
		filled(list, -8)
		refused(t, list, c.limit, c.up, api.ErrRange, "others than", c.name)
		if !slices.Equal(out, c.want) || !slices.Equal(same, c.list) {
			t.Errorf("%s: got %v and %v, once the argument is another", c.name, out, same)
		}
		filled(out, -7)
		filled(same, -7)
		stepped(t, c.list, c.limit, c.up, c.want, api.OK, c.name, "once more")
		ran(t, c.list, c.limit, c.up, 0, c.list, 0, api.OK, c.name, "once more")
	}
}

// TestErrorsAreNumbers: an error can be asked by errors.Is and is never OK, and none is a plain nil.
func TestErrorsAreNumbers(t *testing.T) {
	if out, err := aimd.Step(nil, 1, 1); out != nil || !errors.Is(err, api.ErrNone) || errors.Is(err, api.OK) {
		t.Errorf("got %v, %v; want ErrNone", out, err)
	}
	if out, err := aimd.Run(alike(1, maxFlows+1), 1, 1, 0); out != nil || !errors.Is(err, api.ErrFull) || errors.Is(err, api.OK) {
		t.Errorf("got %v, %v; want ErrFull", out, err)
	}
	if many, err := aimd.Cuts(l(9), 1, 1, -1); many != 0 || !errors.Is(err, api.ErrRange) || errors.Is(err, api.OK) {
		t.Errorf("got %v, %v; want ErrRange", many, err)
	}
	if _, err := aimd.Cuts(l(9), 1, 1, 1); err != nil {
		t.Errorf("got %v, want nil", err)
	}
}

func sum(list []int) (all int) {
	for _, share := range list {
		all += share
	}
	return all
}

// askedStep is what the document's words ask of Step, of what is right: of each pair one is taken away, and what is left
// over with it; or one by one they are laid down.
func askedStep(list []int, limit, up int) ([]int, bool) {
	room := limit
	for _, share := range list {
		room -= share
	}
	out := make([]int, len(list))
	for i, share := range list {
		if room < 0 {
			for pair := 2; pair <= share; pair += 2 {
				out[i]++
			}
		} else {
			out[i] = share
			for range up {
				out[i]++
			}
		}
	}
	return out, room < 0
}

// askedRun is so many of these, and how many of them were halvings.
func askedRun(list []int, limit, up, ticks int) ([]int, int) {
	cuts := 0
	for range ticks {
		next, cut := askedStep(list, limit, up)
		if cut {
			cuts++
		}
		list = next
	}
	return list, cuts
}

// everyList hands on all lists of so many of the things.
func everyList[T any](things []T, many int, to func([]T)) {
	if many == 0 {
		to(nil)
		return
	}
	everyList(things, many-1, func(list []T) {
		for _, a := range things {
			to(append(slices.Clone(list), a))
		}
	})
}

// TestManySteps holds all lists of up to six such shares, around each cap, against what the words ask.
func TestManySteps(t *testing.T) {
	for many := 1; many <= maxFlows; many++ {
		everyList(l(0, 1, 2, 7), many, func(list []int) {
			for _, limit := range l(sum(list)-1, sum(list), sum(list)+1, maxCap) {
				if limit < 1 {
					continue
				}
				for _, up := range l(1, 3) {
					want, _ := askedStep(list, limit, up)
					stepped(t, list, limit, up, want, api.OK)
				}
			}
		})
	}
}

// TestEveryShare: of one share, each that may be, at some caps.
func TestEveryShare(t *testing.T) {
	for share := 0; share <= maxRate; share++ {
		for _, limit := range l(1, 500, maxCap) {
			want := l(share + 9)
			if share > limit {
				want = l((share - share%2) / 2)
			}
			stepped(t, l(share), limit, 9, want, api.OK)
		}
	}
}

// TestManyRuns holds Run and Cuts, over each number of ticks, against what the words ask, and against Step again and again.
func TestManyRuns(t *testing.T) {
	for _, list := range [][]int{
		l(0), l(1), l(999), l(maxRate), l(0, 0), l(3, 4), l(maxRate, 0), l(5, 0, 700), l(1, 2, 3, 4), l(370, 5, 0, 0, 4),
		alike(0, maxFlows), alike(maxRate, maxFlows), l(maxRate, 1, 0, 77, 5_001, 4_999),
	} {
		for _, limit := range l(1, 2, 9, 54, 499, maxCap-1, maxCap) {
			for _, up := range l(1, 2, 10, 333, maxCap) {
				now := slices.Clone(list)
				for ticks := 0; ticks <= maxTicks; ticks++ {
					want, cuts := askedRun(list, limit, up, ticks)
					ran(t, list, limit, up, ticks, want, cuts, api.OK)
					if !slices.Equal(now, want) {
						t.Errorf("%d steps of %v, %d, %d: got %v, want %v", ticks, list, limit, up, now, want)
					}
					next, err := aimd.Step(now, limit, up)
					if err != nil {
						t.Fatal(list, limit, up, ticks, err)
					}
					now = next
				}
			}
		}
	}
}

func gap(list []int) int { return slices.Max(list) - slices.Min(list) }

// TestHalvingsHalveWhatIsUneven: how far any two are apart is by each halving the half of it, rounded one way or the
// other, and by going up the same; none comes to be ahead of another that was ahead of it.
func TestHalvingsHalveWhatIsUneven(t *testing.T) {
	everyList(l(0, 1, 5, 12, 333, maxRate-1, maxRate), 3, func(list []int) {
		for _, limit := range l(1, 17, 400, maxCap) {
			out, err := aimd.Step(list, limit, 4)
			if err != nil {
				t.Fatal(list, limit, err)
			}
			cuts, err := aimd.Cuts(list, limit, 4, 1)
			if err != nil {
				t.Fatal(list, limit, err)
			}
			was, is := gap(list), gap(out)
			if cuts == 0 && is != was || cuts == 1 && is != was/2 && is != (was+1)/2 {
				t.Errorf("of %v, %d, %d halvings: they were %d apart, and are %d", list, limit, cuts, was, is)
			}
			for i, a := range list {
				for j, b := range list {
					if a <= b && out[i] > out[j] {
						t.Errorf("of %v, %d got %v: %d is ahead of %d", list, limit, out, i, j)
					}
				}
			}
		}
	})
}

// TestNoneGoesAboveWhatMayBe: what goes up is no more than cap ahead of it, so all runs come to an end without a fault,
// and each share is at last no more than the greater one of what it was and of cap and up together.
func TestNoneGoesAboveWhatMayBe(t *testing.T) {
	sizes := l(1, 2, 500, maxCap-1, maxCap)
	for _, share := range l(0, 1, 999, maxCap, maxRate-maxCap, maxRate-maxCap+1, maxRate-1, maxRate) {
		for many := 1; many <= maxFlows; many++ {
			for _, limit := range sizes {
				for _, up := range sizes {
					for ticks := range maxTicks + 1 {
						out, err := aimd.Run(alike(share, many), limit, up, ticks)
						if err != nil || slices.Max(out) > max(share, limit+up) {
							t.Errorf("of %d times %d, %d, %d, %d got %v, %v", many, share, limit, up, ticks, out, err)
						}
					}
				}
			}
		}
	}
}
