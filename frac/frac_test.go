package frac_test

import (
	"errors"
	"math"
	"math/big"
	"slices"
	"testing"

	"fairsluice/api"
	"fairsluice/frac"
	"fairsluice/plain"
)

const (
	maxTop    = 1_000_000_000
	maxBottom = 100_000_000
	maxCap    = 1_000
)

func f(top, bottom int) api.Frac { return api.Frac{Top: top, Bottom: bottom} }

// faulty: fractions that Check refuses, and by which error.
var faulty = []struct {
	name string
	a    api.Frac
	want api.Errno
}{
	{"the zero value", f(0, 0), api.ErrRange},
	{"a bottom of 0", f(1, 0), api.ErrRange},
	{"a bottom below 0", f(1, -1), api.ErrRange},
	{"both below 0", f(-1, -2), api.ErrRange},
	{"a bottom above the greatest", f(1, maxBottom+1), api.ErrRange},
	{"a top above the greatest", f(maxTop+1, 1), api.ErrRange},
	{"a top below the least", f(-maxTop-1, 1), api.ErrRange},
	{"the least ints", f(math.MinInt, math.MinInt), api.ErrRange},
	{"the greatest ints", f(math.MaxInt, math.MaxInt), api.ErrRange},
	{"the least int as top", f(math.MinInt, 1), api.ErrRange},
	{"the greatest int as top", f(math.MaxInt, 1), api.ErrRange},
	{"the least int as bottom", f(1, math.MinInt), api.ErrRange},
	{"the greatest int as bottom", f(1, math.MaxInt), api.ErrRange},
	{"a bottom beyond, and not lowest", f(2, maxBottom+2), api.ErrRange},
	{"a top beyond, and not lowest", f(maxTop+2, 2), api.ErrRange},
	{"0 by 2", f(0, 2), api.ErrShape},
	{"0 by the greatest bottom", f(0, maxBottom), api.ErrShape},
	{"2 by 4", f(2, 4), api.ErrShape},
	{"-6 by 4", f(-6, 4), api.ErrShape},
	{"the greatest top by the greatest bottom", f(maxTop, maxBottom), api.ErrShape},
	{"the least top by 2", f(-maxTop, 2), api.ErrShape},
}

// sound: fractions that Check lets pass.
var sound = []api.Frac{
	f(0, 1), f(1, 1), f(-1, 1), f(1, 2), f(-3, 4), f(7, 1),
	f(maxTop, 1), f(-maxTop, 1), f(maxTop-1, 1), f(1, maxBottom), f(-1, maxBottom), f(1, maxBottom-1),
	f(maxTop-1, maxBottom), f(-maxTop+1, maxBottom), f(maxTop, maxBottom-1), f(999_999_937, 99_999_989),
}

// told checks what a call answered: with an error the fraction must be zero, whatever want is.
func told(t *testing.T, got api.Frac, err error, want api.Frac, no api.Errno, call ...any) {
	t.Helper()
	if no != api.OK {
		want = api.Frac{}
	}
	if got != want || plain.Told(err) != no {
		t.Errorf("%v: got %v, %v; want %v, %v", call, got, err, want, no)
	}
}

func TestBoundsAreTheDocuments(t *testing.T) {
	if api.MaxTop != maxTop || api.MaxBottom != maxBottom || api.MaxCap != maxCap {
		t.Error("a bound of package api is not the document's")
	}
}

func TestOf(t *testing.T) {
	for _, c := range []struct {
		name        string
		top, bottom int
		want        api.Frac
		no          api.Errno
	}{
		{"lowest already", 3, 4, f(3, 4), api.OK},
		{"not lowest", 6, 8, f(3, 4), api.OK},
		{"whole", 12, 4, f(3, 1), api.OK},
		{"below 0", -6, 8, f(-3, 4), api.OK},
		{"0", 0, 1, f(0, 1), api.OK},
		{"0 by more", 0, 7, f(0, 1), api.OK},
		{"0 by the greatest", 0, maxBottom, f(0, 1), api.OK},
		{"greatest by 1", maxTop, 1, f(maxTop, 1), api.OK},
		{"least by 1", -maxTop, 1, f(-maxTop, 1), api.OK},
		{"greatest by greatest", maxTop, maxBottom, f(10, 1), api.OK},
		{"least by greatest", -maxTop, maxBottom, f(-10, 1), api.OK},
		{"1 by greatest", 1, maxBottom, f(1, maxBottom), api.OK},
		{"top above", maxTop + 1, 1, f(0, 0), api.ErrRange},
		{"top below", -maxTop - 1, 1, f(0, 0), api.ErrRange},
		{"top above, though not lowest", maxTop + 2, 2, f(0, 0), api.ErrRange},
		{"bottom above", 1, maxBottom + 1, f(0, 0), api.ErrRange},
		{"bottom above, though not lowest", 2, maxBottom + 2, f(0, 0), api.ErrRange},
		{"bottom 0", 1, 0, f(0, 0), api.ErrRange},
		{"0 by 0", 0, 0, f(0, 0), api.ErrRange},
		{"bottom below 0", 1, -1, f(0, 0), api.ErrRange},
		{"least ints", math.MinInt, math.MinInt, f(0, 0), api.ErrRange},
		{"greatest ints", math.MaxInt, math.MaxInt, f(0, 0), api.ErrRange},
		{"least int by -1", math.MinInt, -1, f(0, 0), api.ErrRange},
		{"least int by 1", math.MinInt, 1, f(0, 0), api.ErrRange},
		{"1 by least int", 1, math.MinInt, f(0, 0), api.ErrRange},
	} {
		got, err := frac.Of(c.top, c.bottom)
		told(t, got, err, c.want, c.no, "Of", c.name)
	}
}

func TestCheck(t *testing.T) {
	for _, c := range faulty {
		if got := plain.Told(frac.Check(c.a)); got != c.want {
			t.Errorf("%s: got %v, want %v", c.name, got, c.want)
		}
	}
	for _, a := range sound {
		if err := frac.Check(a); err != nil {
			t.Errorf("%v: got %v, want none", a, err)
		}
	}
}

func TestAdd(t *testing.T) {
	for _, c := range []struct {
		a, b, want api.Frac
		no         api.Errno
	}{
		{f(1, 2), f(1, 3), f(5, 6), api.OK},
		{f(1, 6), f(1, 3), f(1, 2), api.OK},
		{f(1, 2), f(-1, 2), f(0, 1), api.OK},
		{f(0, 1), f(0, 1), f(0, 1), api.OK},
		{f(0, 1), f(-7, 9), f(-7, 9), api.OK},
		{f(-3, 4), f(1, 4), f(-1, 2), api.OK},
		{f(maxTop-1, 1), f(1, 1), f(maxTop, 1), api.OK},
		{f(maxTop, 1), f(1, 1), f(0, 0), api.ErrFull},
		{f(maxTop, 1), f(-maxTop, 1), f(0, 1), api.OK},
		{f(-maxTop, 1), f(-1, 1), f(0, 0), api.ErrFull},
		{f(-maxTop+1, 1), f(-1, 1), f(-maxTop, 1), api.OK},
		{f(maxTop, 1), f(1, 2), f(0, 0), api.ErrFull},
		{f(1, 10_000), f(1, 9_999), f(19_999, 99_990_000), api.OK},
		{f(1, 10_000), f(1, 10_001), f(0, 0), api.ErrFull},
		{f(1, maxBottom), f(1, maxBottom), f(1, maxBottom/2), api.OK},
		{f(1, maxBottom), f(1, 3), f(0, 0), api.ErrFull},
		{f(999_999_937, 99_999_989), f(-999_999_937, 99_999_989), f(0, 1), api.OK},
	} {
		got, err := frac.Add(c.a, c.b)
		told(t, got, err, c.want, c.no, "Add", c.a, c.b)
		got, err = frac.Add(c.b, c.a)
		told(t, got, err, c.want, c.no, "Add", c.b, c.a)
	}
}

func TestTimes(t *testing.T) {
	for _, c := range []struct {
		a    api.Frac
		n    int
		want api.Frac
		no   api.Errno
	}{
		{f(2, 3), 5, f(10, 3), api.OK},
		{f(2, 3), 6, f(4, 1), api.OK},
		{f(2, 3), -3, f(-2, 1), api.OK},
		{f(2, 3), 0, f(0, 1), api.OK},
		{f(2, 3), 1, f(2, 3), api.OK},
		{f(0, 1), maxCap, f(0, 1), api.OK},
		{f(1, 3), maxCap, f(maxCap, 3), api.OK},
		{f(1, 3), -maxCap, f(-maxCap, 3), api.OK},
		{f(1, maxCap), maxCap, f(1, 1), api.OK},
		{f(1, 3), maxCap + 1, f(0, 0), api.ErrRange},
		{f(1, 3), -maxCap - 1, f(0, 0), api.ErrRange},
		{f(0, 1), math.MinInt, f(0, 0), api.ErrRange},
		{f(0, 1), math.MaxInt, f(0, 0), api.ErrRange},
		{f(maxTop/maxCap, 1), maxCap, f(maxTop, 1), api.OK},
		{f(maxTop/maxCap, 1), -maxCap, f(-maxTop, 1), api.OK},
		{f(maxTop/maxCap+1, 1), maxCap, f(0, 0), api.ErrFull},
		{f(maxTop/maxCap+1, 1), -maxCap, f(0, 0), api.ErrFull},
		{f(maxTop, 1), 2, f(0, 0), api.ErrFull},
		{f(maxTop, 3), 3, f(maxTop, 1), api.OK},
		{f(maxTop, 1), maxCap + 1, f(0, 0), api.ErrRange},
	} {
		got, err := frac.Times(c.a, c.n)
		told(t, got, err, c.want, c.no, "Times", c.a, c.n)
	}
}

func TestBy(t *testing.T) {
	for _, c := range []struct {
		a    api.Frac
		n    int
		want api.Frac
		no   api.Errno
	}{
		{f(2, 3), 5, f(2, 15), api.OK},
		{f(2, 3), 4, f(1, 6), api.OK},
		{f(-6, 1), 3, f(-2, 1), api.OK},
		{f(2, 3), 1, f(2, 3), api.OK},
		{f(0, 1), maxCap, f(0, 1), api.OK},
		{f(1, 3), maxCap, f(1, 3*maxCap), api.OK},
		{f(1, 3), 0, f(0, 0), api.ErrRange},
		{f(1, 3), -1, f(0, 0), api.ErrRange},
		{f(1, 3), -maxCap, f(0, 0), api.ErrRange},
		{f(1, 3), maxCap + 1, f(0, 0), api.ErrRange},
		{f(0, 1), math.MinInt, f(0, 0), api.ErrRange},
		{f(0, 1), math.MaxInt, f(0, 0), api.ErrRange},
		{f(1, maxBottom/maxCap), maxCap, f(1, maxBottom), api.OK},
		{f(1, maxBottom/maxCap+1), maxCap, f(0, 0), api.ErrFull},
		{f(1, maxBottom), 2, f(0, 0), api.ErrFull},
		{f(3, maxBottom), 3, f(1, maxBottom), api.OK},
		{f(1, maxBottom), 0, f(0, 0), api.ErrRange},
		{f(1, maxBottom), maxCap + 1, f(0, 0), api.ErrRange},
	} {
		got, err := frac.By(c.a, c.n)
		told(t, got, err, c.want, c.no, "By", c.a, c.n)
	}
}

func TestCompare(t *testing.T) {
	rising := []api.Frac{
		f(-maxTop, 1), f(-maxTop+1, 1), f(-2, 1), f(-1, 2), f(-1, 3), f(-1, maxBottom), f(0, 1),
		f(1, maxBottom), f(1, maxBottom-1), f(1, 3), f(1, 2), f(maxBottom-1, maxBottom), f(1, 1), f(4, 3), f(maxTop, 1),
	}
	for i, a := range rising {
		for j, b := range rising {
			want := 0
			if i < j {
				want = -1
			} else if i > j {
				want = 1
			}
			if got, err := frac.Compare(a, b); got != want || err != nil {
				t.Errorf("Compare(%v, %v): got %d, %v; want %d", a, b, got, err, want)
			}
		}
	}
}

// TestFirstFaultIsTold: a fault of a comes ahead of one of b, or of n.
func TestFirstFaultIsTold(t *testing.T) {
	for _, c := range faulty {
		for _, b := range slices.Concat(sound, []api.Frac{f(0, 0), f(2, 4)}) {
			got, err := frac.Add(c.a, b)
			told(t, got, err, f(0, 0), c.want, "Add", c.a, b)
			if k, err := frac.Compare(c.a, b); k != 0 || plain.Told(err) != c.want {
				t.Errorf("Compare, a is %s: got %d, %v; want %v", c.name, k, err, c.want)
			}
		}
		for _, a := range sound {
			got, err := frac.Add(a, c.a)
			told(t, got, err, f(0, 0), c.want, "Add", a, c.a)
			if k, err := frac.Compare(a, c.a); k != 0 || plain.Told(err) != c.want {
				t.Errorf("Compare, b is %s: got %d, %v; want %v", c.name, k, err, c.want)
			}
		}
		for _, n := range []int{math.MinInt, -maxCap - 1, -1, 0, 1, maxCap, maxCap + 1, math.MaxInt} {
			got, err := frac.Times(c.a, n)
			told(t, got, err, f(0, 0), c.want, "Times", c.a, n)
			got, err = frac.By(c.a, n)
			told(t, got, err, f(0, 0), c.want, "By", c.a, n)
		}
	}
}

// numbers at and around every bound, and some between that have divisors in common.
var numbers = []int{
	math.MinInt, math.MinInt + 1, -maxTop - 1, -maxTop, -maxTop + 1, -maxBottom, -maxCap - 1, -maxCap, -12, -1, 0,
	1, 2, 3, 12, 35, 999, maxCap, maxCap + 1, 10_000, 99_999_989, maxBottom - 1, maxBottom, maxBottom + 1,
	maxTop - 1, maxTop, maxTop + 1, 1 << 31, 1 << 32, 1 << 62, math.MaxInt - 1, math.MaxInt,
}

func within(n, least, greatest int) bool { return n >= least && n <= greatest }

// fault of a fraction, as the document's words have it.
func fault(a api.Frac) api.Errno {
	if !within(a.Bottom, 1, maxBottom) || !within(a.Top, -maxTop, maxTop) {
		return api.ErrRange
	}
	if big.NewRat(int64(a.Top), int64(a.Bottom)).Denom().Int64() != int64(a.Bottom) {
		return api.ErrShape
	}
	return api.OK
}

// asked is what a sum or product is answered: itself, or ErrFull.
func asked(r *big.Rat) (api.Frac, api.Errno) {
	if r.Num().CmpAbs(big.NewInt(maxTop)) > 0 || r.Denom().Cmp(big.NewInt(maxBottom)) > 0 {
		return api.Frac{}, api.ErrFull
	}
	return f(int(r.Num().Int64()), int(r.Denom().Int64())), api.OK
}

func rat(a api.Frac) *big.Rat { return big.NewRat(int64(a.Top), int64(a.Bottom)) }

// all fractions of numbers, whether they may be or not; what Of makes of them is among them, too.
func all() (list []api.Frac) {
	seen := map[api.Frac]bool{}
	for _, top := range numbers {
		for _, bottom := range numbers {
			a := f(top, bottom)
			b, _ := frac.Of(top, bottom)
			for _, x := range []api.Frac{a, b} {
				if !seen[x] {
					seen[x] = true
					list = append(list, x)
				}
			}
		}
	}
	return list
}

// TestOneAgainstExact holds the calls of one fraction against exact numbers.
func TestOneAgainstExact(t *testing.T) {
	for _, a := range all() {
		no := fault(a)
		if got := plain.Told(frac.Check(a)); got != no {
			t.Errorf("Check(%v): got %v, want %v", a, got, no)
		}
		got, err := frac.Of(a.Top, a.Bottom)
		if no == api.ErrRange {
			told(t, got, err, f(0, 0), no, "Of", a)
		} else {
			want, _ := asked(rat(a))
			told(t, got, err, want, api.OK, "Of", a)
		}
		for _, n := range numbers {
			againstExact(t, a, n, no)
		}
	}
}

func againstExact(t *testing.T, a api.Frac, n int, no api.Errno) {
	t.Helper()
	times, by := no, no
	var product, part api.Frac
	if no == api.OK {
		times, by = api.ErrRange, api.ErrRange
		if within(n, -maxCap, maxCap) {
			product, times = asked(new(big.Rat).Mul(rat(a), rat(f(n, 1))))
		}
		if within(n, 1, maxCap) {
			part, by = asked(new(big.Rat).Quo(rat(a), rat(f(n, 1))))
		}
	}
	got, err := frac.Times(a, n)
	told(t, got, err, product, times, "Times", a, n)
	got, err = frac.By(a, n)
	told(t, got, err, part, by, "By", a, n)
}

// TestTwoAgainstExact holds the calls of two fractions against exact numbers.
func TestTwoAgainstExact(t *testing.T) {
	list := all()
	for _, a := range list {
		for _, b := range list {
			no := fault(a)
			if no == api.OK {
				no = fault(b)
			}
			full, order := no, 0
			var sum api.Frac
			if no == api.OK {
				sum, full = asked(new(big.Rat).Add(rat(a), rat(b)))
				order = rat(a).Cmp(rat(b))
			}
			got, err := frac.Add(a, b)
			told(t, got, err, sum, full, "Add", a, b)
			if k, err := frac.Compare(a, b); k != order || plain.Told(err) != no {
				t.Errorf("Compare(%v, %v): got %d, %v; want %d, %v", a, b, k, err, order, no)
			}
		}
	}
}

// TestErrorsAreNumbers: an error can be asked by errors.Is and is never OK, and none is a plain nil.
func TestErrorsAreNumbers(t *testing.T) {
	if err := frac.Check(f(1, 0)); !errors.Is(err, api.ErrRange) || errors.Is(err, api.OK) {
		t.Errorf("got %v, want ErrRange", err)
	}
	if err := frac.Check(f(1, 2)); err != nil {
		t.Errorf("got %v, want nil", err)
	}
}
