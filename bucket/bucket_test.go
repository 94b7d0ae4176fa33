package bucket_test

import (
	"errors"
	"math"
	"slices"
	"testing"

	"fairsluice/api"
	"fairsluice/bucket"
	"fairsluice/plain"
)

const (
	maxRate  = 10_000
	maxTicks = 60
)

func l(list ...int) []int { return list }

func b(size, rate, has int) api.Bucket { return api.Bucket{Size: size, Rate: rate, Has: has} }

// alike gives so many ticks of which at each as much wants to go.
func alike(comes, many int) []int { return slices.Repeat(l(comes), many) }

// after gives one list with the others behind it.
func after(lists ...[]int) []int { return slices.Concat(lists...) }

// memory copies a list with what lies behind its length.
func memory(list []int) []int { return slices.Clone(list[:cap(list)]) }

// kept checks that a list that was handed in is as it was, behind its length, too.
func kept(t *testing.T, list, was []int, name ...any) {
	t.Helper()
	if !slices.Equal(list[:cap(list)], was) {
		t.Errorf("%v: it was %v, and is %v", name, was, list[:cap(list)])
	}
}

// wrong tells if an error is another than is wanted; OK is a plain nil.
func wrong(err error, no api.Errno) bool {
	return plain.Told(err) != no || no == api.OK && err != nil
}

func checked(t *testing.T, of api.Bucket, no api.Errno, name ...any) {
	t.Helper()
	if err := bucket.Check(of); wrong(err, no) {
		t.Errorf("Check, %v: of %v got %v, want %v", name, of, err, no)
	}
}

// ticked checks what Tick answers; with an error want is the bucket of zeros.
func ticked(t *testing.T, of, want api.Bucket, no api.Errno, name ...any) {
	t.Helper()
	if out, err := bucket.Tick(of); out != want || wrong(err, no) {
		t.Errorf("Tick, %v: of %v got %v, %v; want %v, %v", name, of, out, err, want, no)
	}
}

// took checks what Take answers; with an error want is the bucket of zeros.
func took(t *testing.T, of api.Bucket, many int, want api.Bucket, no api.Errno, name ...any) {
	t.Helper()
	if out, err := bucket.Take(of, many); out != want || wrong(err, no) {
		t.Errorf("Take, %v: of %v, %d got %v, %v; want %v, %v", name, of, many, out, err, want, no)
	}
}

// sent checks what Send answers; with an error there is no list at all.
func sent(t *testing.T, of api.Bucket, list, want []int, no api.Errno, name ...any) {
	t.Helper()
	was := memory(list)
	out, err := bucket.Send(of, list)
	if !slices.Equal(out, want) || wrong(err, no) || no != api.OK && out != nil {
		t.Errorf("Send, %v: of %v, %v got %v, %v; want %v, %v", name, of, list, out, err, want, no)
	}
	kept(t, list, was, "Send", name)
}

// beyond: numbers far from all bounds.
var beyond = l(math.MinInt, math.MinInt+1, -1<<62, -1<<32, -1<<31, 1<<31, 1<<32, 1<<62, math.MaxInt-1, math.MaxInt)

// noMany: numbers that may not be taken, nor want to go.
var noMany = append(l(-1, -2, -maxRate, maxRate+1, maxRate+2, 1_000_000_001), beyond...)

func TestBoundsAreTheDocuments(t *testing.T) {
	if api.MaxRate != maxRate || api.MaxTicks != maxTicks {
		t.Error("a bound of package api is not the document's")
	}
}

// right: buckets that may be, and what they are one tick on.
var right = []struct {
	name     string
	of, next api.Bucket
}{
	{"the least, empty, none comes", b(1, 0, 0), b(1, 0, 0)},
	{"the least, full, none comes", b(1, 0, 1), b(1, 0, 1)},
	{"the least, empty", b(1, 1, 0), b(1, 1, 1)},
	{"the least, full", b(1, 1, 1), b(1, 1, 1)},
	{"the greatest, empty, none comes", b(maxRate, 0, 0), b(maxRate, 0, 0)},
	{"the greatest, full, none comes", b(maxRate, 0, maxRate), b(maxRate, 0, maxRate)},
	{"the greatest, empty", b(maxRate, maxRate, 0), b(maxRate, maxRate, maxRate)},
	{"the greatest, full", b(maxRate, maxRate, maxRate), b(maxRate, maxRate, maxRate)},
	{"the greatest, empty, one comes", b(maxRate, 1, 0), b(maxRate, 1, 1)},
	{"the greatest, one below full", b(maxRate, 1, maxRate-1), b(maxRate, 1, maxRate)},
	{"the greatest, full, one comes", b(maxRate, 1, maxRate), b(maxRate, 1, maxRate)},
	{"empty", b(10, 3, 0), b(10, 3, 3)},
	{"some", b(10, 3, 4), b(10, 3, 7)},
	{"one below just full", b(10, 3, 6), b(10, 3, 9)},
	{"just full", b(10, 3, 7), b(10, 3, 10)},
	{"one above just full", b(10, 3, 8), b(10, 3, 10)},
	{"two above just full", b(10, 3, 9), b(10, 3, 10)},
	{"full", b(10, 3, 10), b(10, 3, 10)},
	{"none comes, empty", b(10, 0, 0), b(10, 0, 0)},
	{"none comes, some", b(10, 0, 4), b(10, 0, 4)},
	{"none comes, full", b(10, 0, 10), b(10, 0, 10)},
	{"as many come as it holds, empty", b(10, 10, 0), b(10, 10, 10)},
	{"as many come as it holds, one", b(10, 10, 1), b(10, 10, 10)},
	{"as many come as it holds, full", b(10, 10, 10), b(10, 10, 10)},
	{"all come but one, empty", b(10, 9, 0), b(10, 9, 9)},
	{"all come but one, one", b(10, 9, 1), b(10, 9, 10)},
	{"all come but one, two", b(10, 9, 2), b(10, 9, 10)},
}

// faulty: buckets that may not be.
var faulty = []struct {
	name string
	of   api.Bucket
}{
	{"no bucket at all", b(0, 0, 0)},
	{"size below 1, with some", b(0, 0, 1)},
	{"size below 1, some come", b(0, 1, 0)},
	{"size below 0", b(-1, 0, 0)},
	{"all below 0", b(-1, -1, -1)},
	{"size above MaxRate", b(maxRate+1, 0, 0)},
	{"size above MaxRate, all as great", b(maxRate+1, maxRate+1, maxRate+1)},
	{"size the least int", b(math.MinInt, 0, 0)},
	{"size the greatest int", b(math.MaxInt, 0, 0)},
	{"all the least int", b(math.MinInt, math.MinInt, math.MinInt)},
	{"all the greatest int", b(math.MaxInt, math.MaxInt, math.MaxInt)},
	{"rate below 0", b(5, -1, 0)},
	{"rate above the size", b(5, 6, 0)},
	{"rate above the size, within MaxRate", b(5, maxRate, 0)},
	{"rate above the greatest size", b(maxRate, maxRate+1, 0)},
	{"rate the least int", b(5, math.MinInt, 0)},
	{"rate the greatest int", b(5, math.MaxInt, 0)},
	{"rate the greatest int, full", b(5, math.MaxInt, 5)},
	{"has below 0", b(5, 0, -1)},
	{"has below 0, and no more than rate", b(5, 1, -1)},
	{"has above the size", b(5, 0, 6)},
	{"has above the size, within MaxRate", b(5, 5, maxRate)},
	{"has above the greatest size", b(maxRate, 0, maxRate+1)},
	{"has the least int", b(5, 0, math.MinInt)},
	{"has the greatest int", b(5, 5, math.MaxInt)},
	{"rate below 0, has above the size", b(5, -1, 6)},
	{"rate above the size, has below 0", b(5, 6, -1)},
	{"rate and has above the size", b(5, 6, 6)},
	{"rate and has below 0", b(5, -1, -1)},
	{"size 0, rate above, has below", b(0, 1, -1)},
	{"size above, rate below", b(maxRate+1, -1, 0)},
	{"size above, has below", b(maxRate+1, 0, -1)},
}

func TestCheck(t *testing.T) {
	for _, c := range right {
		checked(t, c.of, api.OK, c.name)
		checked(t, c.next, api.OK, c.name, "one tick on")
	}
	for _, c := range faulty {
		checked(t, c.of, api.ErrRange, c.name)
	}
}

// TestCheckAtTheEdges: each field at its edges, beside them and far from them, with each other one so.
func TestCheckAtTheEdges(t *testing.T) {
	for _, size := range append(l(-1, 0, 1, 2, 7, maxRate-1, maxRate, maxRate+1), beyond...) {
		around := append(l(-1, 0, 1, 6, 7, 8, maxRate-1, maxRate, maxRate+1), beyond...)
		if size > 0 && size <= maxRate {
			around = append(around, size-1, size, size+1)
		}
		for _, rate := range around {
			for _, has := range around {
				no := api.ErrRange
				if size >= 1 && maxRate >= size && rate >= 0 && size >= rate && has >= 0 && size >= has {
					no = api.OK
				}
				checked(t, b(size, rate, has), no)
			}
		}
	}
}

func TestTick(t *testing.T) {
	for _, c := range right {
		ticked(t, c.of, c.next, api.OK, c.name)
	}
	for _, c := range faulty {
		ticked(t, c.of, api.Bucket{}, api.ErrRange, c.name)
	}
}

func TestTake(t *testing.T) {
	for _, c := range []struct {
		name string
		of   api.Bucket
		many int
		want api.Bucket
		no   api.Errno
	}{
		{"none of an empty one", b(10, 3, 0), 0, b(10, 3, 0), api.OK},
		{"one of an empty one", b(10, 3, 0), 1, api.Bucket{}, api.ErrLow},
		{"as many of an empty one as come", b(10, 3, 0), 3, api.Bucket{}, api.ErrLow},
		{"none", b(10, 3, 6), 0, b(10, 3, 6), api.OK},
		{"one", b(10, 3, 6), 1, b(10, 3, 5), api.OK},
		{"all but one", b(10, 3, 6), 5, b(10, 3, 1), api.OK},
		{"all", b(10, 3, 6), 6, b(10, 3, 0), api.OK},
		{"one more than all", b(10, 3, 6), 7, api.Bucket{}, api.ErrLow},
		{"as many as will be at the next tick", b(10, 3, 6), 9, api.Bucket{}, api.ErrLow},
		{"as many as it holds", b(10, 3, 6), 10, api.Bucket{}, api.ErrLow},
		{"more than it holds", b(10, 3, 6), 11, api.Bucket{}, api.ErrLow},
		{"MaxRate where there are not so many", b(10, 3, 6), maxRate, api.Bucket{}, api.ErrLow},
		{"none of a full one", b(10, 3, 10), 0, b(10, 3, 10), api.OK},
		{"one of a full one", b(10, 3, 10), 1, b(10, 3, 9), api.OK},
		{"all of a full one", b(10, 3, 10), 10, b(10, 3, 0), api.OK},
		{"one more than a full one holds", b(10, 3, 10), 11, api.Bucket{}, api.ErrLow},
		{"none of one of which none comes", b(4, 0, 2), 0, b(4, 0, 2), api.OK},
		{"all of one of which none comes", b(4, 0, 2), 2, b(4, 0, 0), api.OK},
		{"one of the least", b(1, 1, 1), 1, b(1, 1, 0), api.OK},
		{"two of the least", b(1, 1, 1), 2, api.Bucket{}, api.ErrLow},
		{"MaxRate where there are so many", b(maxRate, 9, maxRate), maxRate, b(maxRate, 9, 0), api.OK},
		{"MaxRate where there is one fewer", b(maxRate, 9, maxRate-1), maxRate, api.Bucket{}, api.ErrLow},
		{"one fewer than MaxRate", b(maxRate, 9, maxRate), maxRate - 1, b(maxRate, 9, 1), api.OK},
	} {
		took(t, c.of, c.many, c.want, c.no, c.name)
	}
}

// TestTakeIsChecked: how many they are is asked ahead of how many there are, and the bucket ahead of both.
func TestTakeIsChecked(t *testing.T) {
	for _, many := range noMany {
		for _, c := range right {
			took(t, c.of, many, api.Bucket{}, api.ErrRange, c.name)
		}
		for _, c := range faulty {
			took(t, c.of, many, api.Bucket{}, api.ErrRange, c.name)
		}
	}
	for _, c := range faulty {
		for _, many := range l(0, 1, 2, 5, 6, 7, maxRate-1, maxRate) {
			took(t, c.of, many, api.Bucket{}, api.ErrRange, c.name)
		}
	}
}

// sends: what wants to go at each tick, and what goes.
var sends = []struct {
	name       string
	of         api.Bucket
	list, want []int
}{
	{"no tick", b(10, 3, 6), l(), l()},
	{"no tick, of an empty one", b(1, 0, 0), l(), l()},
	{"one, none wants to go", b(10, 3, 6), l(0), l(0)},
	{"one, fewer than there are", b(10, 3, 6), l(5), l(5)},
	{"one, as many as there are", b(10, 3, 6), l(6), l(6)},
	{"one, one more than there are", b(10, 3, 6), l(7), l(6)},
	{"one, as many as there are behind the tick", b(10, 3, 6), l(9), l(6)},
	{"one, MaxRate", b(10, 3, 6), l(maxRate), l(6)},
	{"one, MaxRate where there are so many", b(maxRate, 0, maxRate), l(maxRate), l(maxRate)},
	{"one of an empty one", b(10, 10, 0), l(7), l(0)},
	{"one of an empty one, and one more tick", b(10, 10, 0), l(7, 0), l(0, 7)},

	{"what did not go goes later", b(10, 3, 6), l(8, 0), l(6, 2)},
	{"it goes ahead of what comes then", b(10, 3, 6), l(8, 5), l(6, 3)},
	{"and all of it at last", b(10, 3, 6), l(8, 5, 0, 0), l(6, 3, 3, 1)},
	{"it goes bit by bit", b(10, 3, 6), l(14, 0, 0, 0, 0), l(6, 3, 3, 2, 0)},
	{"it waits over ticks of which none goes", b(10, 1, 0), l(3, 0, 0, 0, 0), l(0, 1, 1, 1, 0)},
	{"some is left, and is more then", b(10, 3, 6), l(4, 9, 9), l(4, 5, 3)},
	{"what never all goes", b(10, 3, 6), l(100, 0, 0, 0), l(6, 3, 3, 3)},
	{"what never all goes, and more each time", b(5, 2, 5), l(9, 9, 9, 9), l(5, 2, 2, 2)},
	{"more than it ever holds goes at no tick", b(4, 4, 4), l(9, 0, 0), l(4, 4, 1)},
	{"as much as comes, each time", b(10, 3, 3), l(3, 3, 3, 3), l(3, 3, 3, 3)},

	{"it fills up while none wants to go", b(10, 3, 0), l(0, 0, 9), l(0, 0, 6)},
	{"one below full", b(10, 3, 0), l(0, 0, 0, 11), l(0, 0, 0, 9)},
	{"but no more than it holds", b(10, 3, 0), l(0, 0, 0, 0, 11, 0), l(0, 0, 0, 0, 10, 1)},
	{"and stays so", b(10, 3, 0), l(0, 0, 0, 0, 0, 0, 0, 99, 0), l(0, 0, 0, 0, 0, 0, 0, 10, 3)},
	{"full at first, and no more", b(10, 3, 10), l(0, 99, 0), l(0, 10, 3)},
	{"full at first, some go", b(10, 3, 10), l(2, 99, 0), l(2, 10, 3)},
	{"full at first, as many go as come", b(10, 3, 10), l(3, 99, 0), l(3, 10, 3)},
	{"full at first, one more goes than comes", b(10, 3, 10), l(4, 99, 0), l(4, 9, 3)},
	{"none wants to go at all", b(10, 3, 6), l(0, 0, 0), l(0, 0, 0)},

	{"none comes", b(10, 0, 6), l(4, 4, 4, 0), l(4, 2, 0, 0)},
	{"none comes, and none wants to go at first", b(10, 0, 6), l(0, 0, 9, 0), l(0, 0, 6, 0)},
	{"none comes, just as many", b(10, 0, 6), l(1, 2, 3, 0), l(1, 2, 3, 0)},
	{"none comes to an empty one", b(10, 0, 0), l(4, 0, 9), l(0, 0, 0)},
	{"as many come as it holds", b(5, 5, 0), l(7, 7, 7, 0, 0), l(0, 5, 5, 5, 5)},
	{"as many come as it holds, full", b(5, 5, 5), l(7, 3, 1, 5, 6, 0), l(5, 5, 1, 5, 5, 1)},
	{"the least", b(1, 1, 1), l(2, 0, 0, 1), l(1, 1, 0, 1)},
	{"the greatest", b(maxRate, maxRate, 0), l(maxRate, maxRate, 0, 0), l(0, maxRate, maxRate, 0)},

	{"as many ticks as may be, none wants to go", b(10, 3, 6), alike(0, maxTicks), alike(0, maxTicks)},
	{"as many ticks as may be, one at each", b(10, 1, 0), alike(1, maxTicks), after(l(0), alike(1, maxTicks-1))},
	{"as many ticks as may be, MaxRate at each", b(maxRate, maxRate, maxRate), alike(maxRate, maxTicks), alike(maxRate, maxTicks)},
	{"as many ticks as may be, far more at each than goes", b(maxRate, 1, maxRate), alike(maxRate, maxTicks), after(l(maxRate), alike(1, maxTicks-1))},
	{"as many ticks as may be, MaxRate at each, none goes", b(1, 0, 0), alike(maxRate, maxTicks), alike(0, maxTicks)},
	{"as many ticks as may be, all that comes at the first", b(9, 2, 1), after(l(maxRate), alike(0, maxTicks-1)), after(l(1), alike(2, maxTicks-1))},
	{"as many ticks as may be, all that comes at the last", b(maxRate, 2, 1), after(alike(0, maxTicks-1), l(maxRate)), after(alike(0, maxTicks-1), l(119))},
	{"one tick fewer than may be", b(9, 2, 1), after(l(maxRate), alike(0, maxTicks-2)), after(l(1), alike(2, maxTicks-2))},
}

func TestSend(t *testing.T) {
	for _, c := range sends {
		sent(t, c.of, c.list, c.want, api.OK, c.name)
	}
	for _, c := range right {
		sent(t, c.of, nil, nil, api.OK, c.name)
		sent(t, c.of, make([]int, 0, 9), nil, api.OK, c.name)
		// The second tick has what Tick tells of the first, of which none went.
		sent(t, c.of, l(0, maxRate), l(0, c.next.Has), api.OK, c.name)
	}
}

// TestFaultyBucketsSendNothing: what is wrong with the bucket is told of any list, and ahead of what is wrong there.
func TestFaultyBucketsSendNothing(t *testing.T) {
	for _, c := range faulty {
		for _, list := range [][]int{
			nil, l(), l(0), l(1, 2), l(maxRate), alike(1, maxTicks), l(-1), l(maxRate + 1), l(math.MinInt), l(math.MaxInt),
			alike(0, maxTicks+1), alike(-1, maxTicks+1), alike(0, 1_000),
		} {
			sent(t, c.of, list, nil, api.ErrRange, c.name)
		}
	}
}

// TestTooManyTicks: it is told ahead of what is wrong with one of them, wherever that lies.
func TestTooManyTicks(t *testing.T) {
	of := b(10, 3, 6)
	for many := maxTicks + 1; many <= maxTicks+3; many++ {
		for _, comes := range l(0, 3, maxRate) {
			list := alike(comes, many)
			sent(t, of, list, nil, api.ErrFull, many)
			for at := range many {
				for _, x := range noMany {
					one := slices.Clone(list)
					one[at] = x
					sent(t, of, one, nil, api.ErrFull, many, at, x)
				}
			}
		}
	}
	for _, c := range right {
		sent(t, c.of, alike(0, maxTicks+1), nil, api.ErrFull, c.name)
	}
	sent(t, of, alike(0, 100_000), nil, api.ErrFull, "far too many of 0")
	sent(t, of, alike(maxRate, 100_000), nil, api.ErrFull, "far too many")
	sent(t, of, alike(math.MinInt, 100_000), nil, api.ErrFull, "far too many that may not be")
}

// TestTicksAreChecked: one that may not be is told wherever it lies, alone and with another, whatever goes ahead of it.
func TestTicksAreChecked(t *testing.T) {
	for _, of := range []api.Bucket{b(1, 0, 0), b(10, 3, 6), b(maxRate, maxRate, maxRate)} {
		for _, many := range l(1, 2, 3, 7, maxTicks-1, maxTicks) {
			for at := range many {
				for _, comes := range l(0, 3, maxRate) {
					for _, x := range noMany {
						one := alike(comes, many)
						one[at] = x
						sent(t, of, one, nil, api.ErrRange, many, at, x)
						if many == 1 {
							continue
						}
						// Two that would, taken together, be within the bounds again.
						two := slices.Clone(one)
						two[(at+1)%many] = -x
						sent(t, of, two, nil, api.ErrRange, many, at, x, "and the other way")
					}
				}
			}
		}
	}
}

// roomy gives a copy with something hidden behind its length, so that an append there would be seen.
func roomy(list []int, hidden int) []int {
	return append(slices.Clone(list), hidden, hidden, hidden)[:len(list)]
}

// TestBehindTheLength: what lies there makes no difference to an answer, and is not written into, also with an error.
func TestBehindTheLength(t *testing.T) {
	of := b(10, 3, 6)
	for _, hidden := range l(0, 1, maxRate, -1, maxRate+1, math.MinInt, math.MaxInt) {
		for _, c := range sends {
			sent(t, c.of, roomy(c.list, hidden), c.want, api.OK, c.name, hidden)
		}
		sent(t, api.Bucket{}, roomy(l(3, 4), hidden), nil, api.ErrRange, hidden)
		sent(t, of, roomy(l(3, -1, 4), hidden), nil, api.ErrRange, hidden)
		sent(t, of, roomy(l(maxRate+1), hidden), nil, api.ErrRange, hidden)
		sent(t, of, roomy(alike(3, maxTicks+1), hidden), nil, api.ErrFull, hidden)
	}
}

// filled gives every place of a list that value, up to its capacity.
func filled(list []int, value int) {
	for i := range list[:cap(list)] {
		list[:cap(list)][i] = value
	}
}

// TestAnswersAreFresh: no two lists share memory, of those that come out of several calls and those handed in, also
// where all goes at once, so that what goes is what was handed in.
func TestAnswersAreFresh(t *testing.T) {
	for _, c := range sends {
		for _, list := range [][]int{slices.Clone(c.list), roomy(c.list, 7)} {
			lists := [][]int{list}
			for range 3 {
				out, err := bucket.Send(c.of, list)
				if err != nil {
					t.Fatal(c.name, err)
				}
				lists = append(lists, out)
			}
			for i, one := range lists {
				filled(one, 100+i)
			}
			for i, one := range lists {
				if slices.ContainsFunc(one[:cap(one)], func(x int) bool { return x != 100+i }) {
					t.Errorf("%s: list %d shares memory with another", c.name, i)
				}
			}
		}
	}
}

// TestNothingIsKept: an answer hangs on its arguments alone, whatever became of earlier ones.
func TestNothingIsKept(t *testing.T) {
	for _, c := range sends {
		list := slices.Clone(c.list)
		out, err := bucket.Send(c.of, list)
		if err != nil {
			t.Fatal(c.name, err)
		}
		filled(list, -8)
		if len(list) > 0 {
			sent(t, c.of, list, nil, api.ErrRange, "others than", c.name)
		}
		if !slices.Equal(out, c.want) {
			t.Errorf("%s: got %v, once the argument is another", c.name, out)
		}
		filled(out, -7)
		sent(t, c.of, c.list, c.want, api.OK, c.name, "once more")
	}
	for _, c := range right {
		for range 3 {
			ticked(t, c.of, c.next, api.OK, c.name, "once more")
			took(t, c.of, c.of.Has, b(c.of.Size, c.of.Rate, 0), api.OK, c.name, "once more")
		}
	}
}

// TestErrorsAreNumbers: an error can be asked by errors.Is and is never OK, and none is a plain nil.
func TestErrorsAreNumbers(t *testing.T) {
	if err := bucket.Check(b(0, 0, 0)); !errors.Is(err, api.ErrRange) || errors.Is(err, api.OK) {
		t.Errorf("got %v, want ErrRange", err)
	}
	if out, err := bucket.Tick(b(5, 6, 5)); out != (api.Bucket{}) || !errors.Is(err, api.ErrRange) || errors.Is(err, api.OK) {
		t.Errorf("got %v, %v; want ErrRange", out, err)
	}
	if out, err := bucket.Take(b(5, 2, 3), 4); out != (api.Bucket{}) || !errors.Is(err, api.ErrLow) || errors.Is(err, api.OK) {
		t.Errorf("got %v, %v; want ErrLow", out, err)
	}
	if out, err := bucket.Send(b(5, 2, 3), alike(-1, maxTicks+1)); out != nil || !errors.Is(err, api.ErrFull) || errors.Is(err, api.OK) {
		t.Errorf("got %v, %v; want ErrFull", out, err)
	}
	if err := bucket.Check(b(5, 2, 3)); err != nil {
		t.Errorf("got %v, want nil", err)
	}
}

// askedTick is what the document's words ask of Tick, of what is right: one by one they come, while there is room.
func askedTick(of api.Bucket) api.Bucket {
	for range of.Rate {
		if of.Has < of.Size {
			of.Has++
		}
	}
	return of
}

// askedSend is what they ask of Send: one by one goes, of all that waits, while there is a token for it.
func askedSend(of api.Bucket, list []int) []int {
	out, waits := []int{}, 0
	for _, comes := range list {
		many := 0
		for waits += comes; waits > 0 && of.Has > 0; waits-- {
			of.Has--
			many++
		}
		out = append(out, many)
		of = askedTick(of)
	}
	return out
}

// everyBucket hands on all buckets up to that size.
func everyBucket(size int, to func(api.Bucket)) {
	for s := 1; s <= size; s++ {
		for rate := 0; rate <= s; rate++ {
			for has := 0; has <= s; has++ {
				to(b(s, rate, has))
			}
		}
	}
}

// everyList hands on all lists of so many of the numbers.
func everyList(numbers []int, many int, to func([]int)) {
	if many == 0 {
		to(nil)
		return
	}
	everyList(numbers, many-1, func(list []int) {
		for _, a := range numbers {
			to(append(slices.Clone(list), a))
		}
	})
}

func TestManyTicksAndTakes(t *testing.T) {
	everyBucket(12, func(of api.Bucket) {
		checked(t, of, api.OK)
		ticked(t, of, askedTick(of), api.OK)
		for many := range of.Size + 3 {
			if many > of.Has {
				took(t, of, many, api.Bucket{}, api.ErrLow)
			} else {
				took(t, of, many, b(of.Size, of.Rate, of.Has-many), api.OK)
			}
		}
	})
}

func TestManySends(t *testing.T) {
	everyBucket(5, func(of api.Bucket) {
		for many := range 5 {
			everyList(l(0, 1, 2, 4, 9), many, func(list []int) { sent(t, of, list, askedSend(of, list), api.OK) })
		}
	})
}

// some gives so many numbers below a bound, others for each seed, always the same.
func some(seed, many, bound int) []int {
	out := make([]int, many)
	for i := range out {
		seed = (seed*1_103_515_245 + 12_345) % (1 << 31)
		out[i] = (seed >> 8) % bound
	}
	return out
}

// TestLongSends holds Send, of each number of ticks, against what the words ask, and against Take and Tick by turns.
func TestLongSends(t *testing.T) {
	for i, of := range []api.Bucket{
		b(1, 0, 0), b(1, 0, 1), b(1, 1, 0), b(1, 1, 1), b(7, 2, 0), b(7, 3, 7), b(40, 40, 3), b(500, 20, 500),
		b(maxRate, 0, maxRate), b(maxRate, 300, 0), b(maxRate, 4_999, 9_999), b(maxRate, maxRate, maxRate),
	} {
		for many := range maxTicks + 1 {
			for _, bound := range l(2, 2*of.Rate+2, of.Size+1, maxRate+1) {
				list := some(100*i+many, many, min(bound, maxRate+1))
				want := askedSend(of, list)
				sent(t, of, list, want, api.OK)
				byTurns(t, of, list, want)
			}
		}
	}
}

// byTurns takes what goes at each tick, and lets it tick, so that Send cannot let go what Take would not.
func byTurns(t *testing.T, of api.Bucket, list, went []int) {
	t.Helper()
	waits, first := 0, of
	for i, comes := range list {
		waits += comes - went[i]
		left, err := bucket.Take(of, went[i])
		if err != nil || waits < 0 || waits > 0 && left.Has > 0 {
			t.Fatalf("of %v, %v went %v: at %d %v waits, and there is %v, %v", first, list, went, i, waits, left, err)
		}
		if of, err = bucket.Tick(left); err != nil {
			t.Fatal(first, list, i, err)
		}
	}
}

// TestNeverMoreThanItHoldsAndWhatComes: over any ticks in a row no more goes than it holds and what comes between them;
// and from the first on no more than there was, nor than wanted to go.
func TestNeverMoreThanItHoldsAndWhatComes(t *testing.T) {
	for i, of := range []api.Bucket{b(1, 1, 0), b(7, 2, 0), b(9, 0, 4), b(30, 5, 12), b(500, 20, 500), b(maxRate, 4_999, 1)} {
		for seed := range 40 {
			list := some(1_000*i+seed, maxTicks, min(3*of.Rate+2, maxRate+1))
			out, err := bucket.Send(of, list)
			if err != nil {
				t.Fatal(of, list, err)
			}
			for from := range list {
				went, wanted := 0, 0
				for to := from; to < len(list); to++ {
					went, wanted = went+out[to], wanted+list[to]
					tokens := of.Size + (to-from)*of.Rate
					if from == 0 {
						tokens = of.Has + to*of.Rate
					}
					if went > tokens || from == 0 && went > wanted {
						t.Errorf("of %v, %v went %v: %d from %d to %d, of %d", of, list, out, went, from, to, tokens)
					}
				}
			}
		}
	}
}
