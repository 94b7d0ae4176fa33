package mark_test

import (
	"errors"
	"math"
	"slices"
	"testing"

	"fairsluice/api"
	"fairsluice/mark"
	"fairsluice/plain"
)

const (
	maxMarks = 1_000
	maxTop   = 1_000_000_000
	maxRate  = 10_000
	maxTicks = 60
)

func l(list ...int) []int { return list }

// wrong tells if an error is another than is wanted; OK is a plain nil.
func wrong(err error, no api.Errno) bool {
	return plain.Told(err) != no || no == api.OK && err != nil
}

// beyond: numbers far from all bounds.
var beyond = l(math.MinInt, math.MinInt+1, -1<<62, -1<<32, -1<<31, 1<<31, 1<<32, 1<<62, math.MaxInt-1, math.MaxInt)

// outside gives numbers that are not from 0 to the greatest one: just beside, and far away.
func outside(most int) []int { return append(l(-1, -2, -most, most+1, most+2, 2*most+1), beyond...) }

// told checks what Is answers where nothing is wrong.
func told(t *testing.T, f, i int, want bool, name ...any) {
	t.Helper()
	if is, err := mark.Is(f, i); is != want || err != nil {
		t.Errorf("Is, %v: of %d, %d got %v, %v; want %v", name, f, i, is, err, want)
	}
}

// untold checks that Is answers ErrRange, and false beside it.
func untold(t *testing.T, f, i int) {
	t.Helper()
	if is, err := mark.Is(f, i); is || wrong(err, api.ErrRange) {
		t.Errorf("Is: of %d, %d got %v, %v; want ErrRange", f, i, is, err)
	}
}

// counted checks what Count answers where nothing is wrong.
func counted(t *testing.T, f, from, many, want int, name ...any) {
	t.Helper()
	if count, err := mark.Count(f, from, many); count != want || err != nil {
		t.Errorf("Count, %v: of %d, %d, %d got %d, %v; want %d", name, f, from, many, count, err, want)
	}
}

// uncounted checks that Count answers ErrRange, and 0 beside it.
func uncounted(t *testing.T, f, from, many int) {
	t.Helper()
	if count, err := mark.Count(f, from, many); count != 0 || wrong(err, api.ErrRange) {
		t.Errorf("Count: of %d, %d, %d got %d, %v; want ErrRange", f, from, many, count, err)
	}
}

// listed checks what List answers where nothing is wrong.
func listed(t *testing.T, f, many int, want []bool, name ...any) {
	t.Helper()
	if list, err := mark.List(f, many); !slices.Equal(list, want) || err != nil {
		t.Errorf("List, %v: of %d, %d got %v, %v; want %v", name, f, many, list, err, want)
	}
}

// unlisted checks that List answers ErrRange, and none beside it.
func unlisted(t *testing.T, f, many int) {
	t.Helper()
	if list, err := mark.List(f, many); len(list) != 0 || wrong(err, api.ErrRange) {
		t.Errorf("List: of %d, %d got %v, %v; want ErrRange", f, many, list, err)
	}
}

// rounds gives, one by one from a place that a thousand goes into, which are marked: each adds f, and whenever a thousand
// is full, one is marked and the thousand is taken away. Unlike the program it multiplies nothing.
func rounds(f, many int) []bool {
	out, full := make([]bool, many), 0
	for i := range out {
		full += f
		if full >= 1_000 {
			out[i] = true
			full -= 1_000
		}
	}
	return out
}

func countTrue(list []bool) (count int) {
	for _, is := range list {
		if is {
			count++
		}
	}
	return count
}

func TestBoundsAreTheDocuments(t *testing.T) {
	if api.MaxMarks != maxMarks || api.MaxTop != maxTop || api.MaxRate != maxRate || api.MaxTicks != maxTicks {
		t.Error("a bound of package api is not the document's")
	}
}

func TestIs(t *testing.T) {
	for _, c := range []struct {
		name string
		f, i int
		want bool
	}{
		{"none of a thousand, the first", 0, 0, false},
		{"none of a thousand, the thousandth", 0, 999, false},
		{"none of a thousand, the last of all", 0, maxTop, false},
		{"each of a thousand, the first", maxMarks, 0, true},
		{"each of a thousand, the second", maxMarks, 1, true},
		{"each of a thousand, the last of all", maxMarks, maxTop, true},

		{"one of a thousand, the first", 1, 0, false},
		{"one of a thousand, the one ahead of the thousandth", 1, 998, false},
		{"one of a thousand, the thousandth", 1, 999, true},
		{"one of a thousand, the one behind the thousandth", 1, 1_000, false},
		{"one of a thousand, the last of the second thousand", 1, 1_999, true},
		{"one of a thousand, the one ahead of the last of all", 1, maxTop - 1, true},
		{"one of a thousand, the last of all", 1, maxTop, false},

		{"all but one of a thousand, the first", 999, 0, false},
		{"all but one of a thousand, the second", 999, 1, true},
		{"all but one of a thousand, the thousandth", 999, 999, true},
		{"all but one of a thousand, the first of the second thousand", 999, 1_000, false},
		{"all but one of a thousand, the next", 999, 1_001, true},
		{"all but one of a thousand, the one ahead of the last of all", 999, maxTop - 1, true},
		{"all but one of a thousand, the last of all", 999, maxTop, false},

		{"every second one, the first", 500, 0, false},
		{"every second one, the second", 500, 1, true},
		{"every second one, the third", 500, 2, false},
		{"every second one, the fourth", 500, 3, true},
		{"every second one, the last of all", 500, maxTop, false},
		{"one below a half, the second", 499, 1, false},
		{"one below a half, the third", 499, 2, true},
		{"one above a half, the second", 501, 1, true},
		{"one above a half, the third", 501, 2, false},

		{"a third, not quite, the third", 333, 2, false},
		{"a third, not quite, the fourth", 333, 3, true},
		{"a third, a little more, the third", 334, 2, true},
		{"seven of a thousand, the one ahead", 7, 141, false},
		{"seven of a thousand, where the first is full", 7, 142, true},
		{"seven of a thousand, the next", 7, 143, false},
		{"seven of a thousand, where the second is full", 7, 285, true},
		{"two thirds, the first", 667, 0, false},
		{"two thirds, the second", 667, 1, true},
		{"two thirds, the third", 667, 2, true},
		{"two thirds, the fourth", 667, 3, false},
		{"every fourth one, the fourth", 250, 3, true},
		{"every fourth one, the fifth", 250, 4, false},
		{"three of four, the last of all", 750, maxTop, false},
		{"three of four, the three ahead of the last of all", 750, maxTop - 3, true},
		{"three of four, the four ahead of the last of all", 750, maxTop - 4, false},
	} {
		told(t, c.f, c.i, c.want, c.name)
	}
}

// TestIsIsChecked: each number just beside its edges, and far from them, with the other one right, and wrong, too.
func TestIsIsChecked(t *testing.T) {
	for _, f := range outside(maxMarks) {
		for _, i := range append(l(0, 1, 2, 999, 1_000, maxTop-1, maxTop), outside(maxTop)...) {
			untold(t, f, i)
		}
	}
	for _, i := range outside(maxTop) {
		for _, f := range l(0, 1, 2, 499, 500, 999, maxMarks) {
			untold(t, f, i)
		}
	}
}

// TestEachIs holds Is of each f, and of the first two thousand and one, against the adding up; and of the last of all, too:
// a thousand goes into MaxTop, so that those ahead of it are as those ahead of a thousand.
func TestEachIs(t *testing.T) {
	for f := range maxMarks + 1 {
		asked := rounds(f, 2_001)
		for i, want := range asked {
			told(t, f, i, want)
		}
		for i := range 1_001 {
			told(t, f, maxTop-1_000+i, asked[i])
			told(t, f, 123_456_000+i, asked[i])
		}
	}
}

// TestMarksBecomeMore: what is marked of fewer is no fewer of more, up to each place.
func TestMarksBecomeMore(t *testing.T) {
	for _, many := range l(1, 2, 7, 60, 999, 1_000) {
		least := 0
		for f := range maxMarks + 1 {
			count, err := mark.Count(f, 0, many)
			if err != nil || count < least {
				t.Fatalf("of %d of %d got %d, %v; of one fewer %d", f, many, count, err, least)
			}
			least = count
		}
	}
}

func TestCount(t *testing.T) {
	for _, c := range []struct {
		name                string
		f, from, many, want int
	}{
		{"of none", 500, 0, 0, 0},
		{"of none, each marked", maxMarks, 0, 0, 0},
		{"of none, from the last on", maxMarks, maxRate, 0, 0},
		{"of one, unmarked", 500, 0, 1, 0},
		{"of one, marked", 500, 1, 1, 1},
		{"of one, the thousandth", 1, 999, 1, 1},
		{"of one, the next", 1, 1_000, 1, 0},
		{"of one, the last that may be first", 999, maxRate, 1, 0},
		{"of two from the last on", 999, maxRate, 2, 1},
		{"none marked, of all that may be", 0, 0, maxRate, 0},
		{"none marked, from the last on", 0, maxRate, maxRate, 0},
		{"each marked, of all that may be", maxMarks, 0, maxRate, maxRate},
		{"each marked, from the last on", maxMarks, maxRate, maxRate, maxRate},
		{"each marked, of some", maxMarks, 17, 23, 23},
		{"one of a thousand, of all that may be", 1, 0, maxRate, 10},
		{"one of a thousand, from the last on", 1, maxRate, maxRate, 10},
		{"one of a thousand, of all but one", 1, 0, maxRate - 1, 9},
		{"one of a thousand, of 999", 1, 0, 999, 0},
		{"one of a thousand, from the second on", 1, 1, 999, 1},
		{"all but one, of all that may be", 999, 0, maxRate, 9_990},
		{"all but one, of all but one that may be", 999, 1, maxRate - 1, 9_990},
		{"a half, of five from the first on", 500, 0, 5, 2},
		{"a half, of five from the second on", 500, 1, 5, 3},
		{"a third, not quite, of ten", 333, 0, 10, 3},
		{"a third, not quite, of ten from the fourth on", 333, 3, 10, 4},
		{"a third, not quite, of all that may be", 333, maxRate, maxRate, 3_330},
		{"seven of a thousand, of 142", 7, 0, 142, 0},
		{"seven of a thousand, of 143", 7, 0, 143, 1},
		{"seven of a thousand, of 143 behind these", 7, 143, 143, 1},
		{"seven of a thousand, of 142 behind these", 7, 143, 142, 0},
	} {
		counted(t, c.f, c.from, c.many, c.want, c.name)
	}
}

// TestCountIsChecked: each number just beside its edges, and far from them, with the others right, and wrong, too.
func TestCountIsChecked(t *testing.T) {
	right := l(0, 1, 999, 1_000)
	for _, f := range append(right, outside(maxMarks)...) {
		for _, from := range append(l(0, 1, maxRate-1, maxRate), outside(maxRate)...) {
			for _, many := range outside(maxRate) {
				uncounted(t, f, from, many)
				uncounted(t, f, many, from)
			}
		}
	}
	for _, f := range outside(maxMarks) {
		for _, from := range l(0, 1, maxRate-1, maxRate) {
			for _, many := range l(0, 1, maxRate-1, maxRate) {
				uncounted(t, f, from, many)
			}
		}
	}
}

// oneByOne is how many of them Is tells to be marked.
func oneByOne(t *testing.T, f, from, many int) (count int) {
	t.Helper()
	for i := from; i < from+many; i++ {
		is, err := mark.Is(f, i)
		if err != nil {
			t.Fatalf("Is: of %d, %d got %v", f, i, err)
		}
		if is {
			count++
		}
	}
	return count
}

func TestCountIsAsManyAsIsTells(t *testing.T) {
	for f := 0; f <= maxMarks; f++ {
		for _, from := range l(0, 1, 998, 999, 1_000, maxRate-1, maxRate) {
			for _, many := range l(0, 1, 2, 3, 17, 61) {
				counted(t, f, from, many, oneByOne(t, f, from, many))
			}
		}
	}
	for _, f := range l(0, 1, 7, 333, 499, 500, 501, 999, maxMarks) {
		for _, from := range l(0, 1, 4_321, maxRate-1, maxRate) {
			for _, many := range l(999, 1_000, 1_001, maxRate-1, maxRate) {
				counted(t, f, from, many, oneByOne(t, f, from, many))
			}
		}
	}
}

// TestOfAThousandInARow: just f of them are marked, wherever the row begins, for Count and for Is.
func TestOfAThousandInARow(t *testing.T) {
	for f := range maxMarks + 1 {
		for _, from := range l(0, 1, 2, 357, 500, 999, 1_000, 4_321, maxRate-1, maxRate) {
			counted(t, f, from, 1_000, f)
		}
	}
	for _, f := range l(0, 1, 2, 7, 333, 500, 667, 999, maxMarks) {
		for from := 0; from <= maxRate; from += 7 {
			counted(t, f, from, 1_000, f)
		}
		for _, from := range l(0, 1, 999, 123_456_789, maxTop-1_000, maxTop-999) {
			if count := oneByOne(t, f, from, 1_000); count != f {
				t.Errorf("of a thousand from %d on %d are marked, not %d", from, count, f)
			}
		}
	}
}

// TestAsEvenlyAsMayBe: of as many in a row, wherever they begin, no two counts are more than one apart.
func TestAsEvenlyAsMayBe(t *testing.T) {
	for _, f := range l(0, 1, 2, 7, 333, 499, 500, 667, 998, 999, maxMarks) {
		for _, many := range l(1, 2, 3, 10, 143, 500, 999) {
			for from := 0; from < 1_000; from += 3 {
				count, err := mark.Count(f, from, many)
				if low := f * many / 1_000; err != nil || count < low || count > low+1 {
					t.Errorf("of %d, %d, %d got %d, %v, not %d or one more", f, from, many, count, err, low)
				}
			}
		}
	}
}

func TestList(t *testing.T) {
	for _, c := range []struct {
		name    string
		f, many int
		want    []bool
	}{
		{"of none", 500, 0, nil},
		{"of none, each marked", maxMarks, 0, nil},
		{"of one, none marked", 0, 1, []bool{false}},
		{"of one, each marked", maxMarks, 1, []bool{true}},
		{"of one, all but one", 999, 1, []bool{false}},
		{"of two, all but one", 999, 2, []bool{false, true}},
		{"of as many as may be, none marked", 0, maxTicks, make([]bool, maxTicks)},
		{"of as many as may be, one of a thousand", 1, maxTicks, make([]bool, maxTicks)},
		{"of as many as may be, each marked", maxMarks, maxTicks, slices.Repeat([]bool{true}, maxTicks)},
		{"of as many as may be, every second one", 500, maxTicks, slices.Repeat([]bool{false, true}, maxTicks/2)},
		{"of as many as may be, every fourth one", 250, maxTicks, slices.Repeat([]bool{false, false, false, true}, maxTicks/4)},
		{"a third, not quite", 333, 8, []bool{false, false, false, true, false, false, true, false}},
		{"two thirds", 667, 7, []bool{false, true, true, false, true, true, false}},
		{"seven of ten", 700, 10, []bool{false, true, true, false, true, true, false, true, true, true}},
	} {
		listed(t, c.f, c.many, c.want, c.name)
	}
}

// TestEachList: of each f and each length it is as Is tells, as the adding up asks, and as many as Count.
func TestEachList(t *testing.T) {
	for f := range maxMarks + 1 {
		asked := rounds(f, maxTicks)
		for many := range maxTicks + 1 {
			listed(t, f, many, asked[:many])
			counted(t, f, 0, many, countTrue(asked[:many]))
		}
		for i, want := range asked {
			told(t, f, i, want)
		}
	}
}

// TestListIsChecked: each number just beside its edges, and far from them, with the other one right, and wrong, too.
func TestListIsChecked(t *testing.T) {
	for _, f := range outside(maxMarks) {
		for _, many := range append(l(0, 1, maxTicks-1, maxTicks), outside(maxTicks)...) {
			unlisted(t, f, many)
		}
	}
	for _, many := range append(outside(maxTicks), maxMarks, maxRate, maxTop) {
		for _, f := range l(0, 1, 499, 500, 999, maxMarks) {
			unlisted(t, f, many)
		}
	}
}

// TestListsAreTheCallers: two answers share nothing, behind their lengths neither, and none is kept.
func TestListsAreTheCallers(t *testing.T) {
	for _, many := range l(1, 2, 7, maxTicks-1, maxTicks) {
		want := rounds(700, many)
		one, err := mark.List(700, many)
		other, bad := mark.List(700, many)
		if err != nil || bad != nil {
			t.Fatal(err, bad)
		}
		for i := range one[:cap(one)] {
			one[:cap(one)][i] = i >= many || !want[i]
		}
		_ = append(one, true, true)
		if !slices.Equal(other, want) {
			t.Errorf("of %d: another list was %v, and is %v", many, want, other)
		}
		listed(t, 700, many, want, "once one was written into")
	}
}

// TestErrorsAreNumbers: what is wrong is, or wraps, a number of package api.
func TestErrorsAreNumbers(t *testing.T) {
	_, is := mark.Is(-1, 0)
	_, count := mark.Count(0, 0, -1)
	_, list := mark.List(0, maxTicks+1)
	for _, err := range []error{is, count, list} {
		if !errors.Is(err, api.ErrRange) {
			t.Errorf("got %v, which is not ErrRange", err)
		}
	}
}

// TestNothingIsKept: what a call answers hangs on no call ahead of it, be it right or wrong.
func TestNothingIsKept(t *testing.T) {
	for range 3 {
		told(t, 999, 1, true)
		untold(t, 999, -1)
		told(t, 500, 0, false)
		counted(t, 1, 999, 1, 1)
		uncounted(t, maxMarks+1, 0, 1)
		counted(t, 1, 0, 1, 0)
		listed(t, 500, 2, []bool{false, true})
		unlisted(t, 500, maxTicks+1)
		listed(t, maxMarks, 2, []bool{true, true})
	}
}
