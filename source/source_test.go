package source_test

import (
	"errors"
	"math"
	"slices"
	"testing"

	"fairsluice/api"
	"fairsluice/plain"
	"fairsluice/source"
)

const (
	maxCap  = 1_000
	maxRate = 10_000
)

func l(list ...int) []int { return list }

func s(window, way, left, came int) api.Source {
	return api.Source{Window: window, Way: way, Left: left, Came: came}
}

// wrong tells if an error is another than is wanted; OK is a plain nil.
func wrong(err error, no api.Errno) bool {
	return plain.Told(err) != no || no == api.OK && err != nil
}

// beyond: numbers far from all bounds.
var beyond = l(math.MinInt, math.MinInt+1, -1<<62, -1<<32, -1<<31, 1<<31, 1<<32, 1<<62, math.MaxInt-1, math.MaxInt)

func checked(t *testing.T, of api.Source, no api.Errno, name ...any) {
	t.Helper()
	if err := source.Check(of); wrong(err, no) {
		t.Errorf("Check, %v: of %v got %v, want %v", name, of, err, no)
	}
}

// sent checks what Send answers: with an error no source, and 0.
func sent(t *testing.T, of, want api.Source, went int, no api.Errno, name ...any) {
	t.Helper()
	if then, many, err := source.Send(of); then != want || many != went || wrong(err, no) {
		t.Errorf("Send, %v: of %v got %v, %d, %v; want %v, %d, %v", name, of, then, many, err, want, went, no)
	}
}

// acked checks what Ack answers: with an error no source.
func acked(t *testing.T, of api.Source, faster bool, want api.Source, no api.Errno, name ...any) {
	t.Helper()
	if then, err := source.Ack(of, faster); then != want || wrong(err, no) {
		t.Errorf("Ack, %v: of %v, %v got %v, %v; want %v, %v", name, of, faster, then, err, want, no)
	}
}

// lost checks what Lost answers: with an error no source.
func lost(t *testing.T, of, want api.Source, no api.Errno, name ...any) {
	t.Helper()
	if then, err := source.Lost(of); then != want || wrong(err, no) {
		t.Errorf("Lost, %v: of %v got %v, %v; want %v, %v", name, of, then, err, want, no)
	}
}

// none: the source beside an error.
var none = api.Source{}

func TestBoundsAreTheDocuments(t *testing.T) {
	if api.MaxCap != maxCap || api.MaxRate != maxRate {
		t.Error("a bound of package api is not the document's")
	}
}

// right: sources that may be.
var right = []struct {
	name string
	of   api.Source
}{
	{"the least of each", s(1, 0, 0, 0)},
	{"the greatest of each", s(maxCap, maxRate, maxRate, maxRate)},
	{"the greatest window alone", s(maxCap, 0, 0, 0)},
	{"the least window, the rest the greatest", s(1, maxRate, maxRate, maxRate)},
	{"the greatest way", s(1, maxRate, 0, 0)},
	{"the greatest left", s(1, 0, maxRate, 0)},
	{"the greatest came", s(1, 0, 0, maxRate)},
	{"one below each greatest", s(maxCap-1, maxRate-1, maxRate-1, maxRate-1)},
	{"fewer under way than may be", s(5, 2, 3, 4)},
	{"as many under way as may be", s(5, 5, 3, 4)},
	{"more under way than may be", s(5, 6, 3, 4)},
	{"more under way than the greatest window", s(maxCap, maxCap+1, 0, 0)},
}

// faulty: sources that may not be.
var faulty = []struct {
	name string
	of   api.Source
}{
	{"no source at all", s(0, 0, 0, 0)},
	{"window 0", s(0, 1, 2, 3)},
	{"window below 0", s(-1, 1, 2, 3)},
	{"window above MaxCap", s(maxCap+1, 1, 2, 3)},
	{"window above MaxCap, within MaxRate", s(maxRate, 1, 2, 3)},
	{"window the least int", s(math.MinInt, 1, 2, 3)},
	{"window the greatest int", s(math.MaxInt, 1, 2, 3)},
	{"way below 0", s(5, -1, 2, 3)},
	{"way above MaxRate", s(5, maxRate+1, 2, 3)},
	{"way the least int", s(5, math.MinInt, 2, 3)},
	{"way the greatest int", s(5, math.MaxInt, 2, 3)},
	{"left below 0", s(5, 1, -1, 3)},
	{"left above MaxRate", s(5, 1, maxRate+1, 3)},
	{"left the least int", s(5, 1, math.MinInt, 3)},
	{"left the greatest int", s(5, 1, math.MaxInt, 3)},
	{"came below 0", s(5, 1, 2, -1)},
	{"came above MaxRate", s(5, 1, 2, maxRate+1)},
	{"came the least int", s(5, 1, 2, math.MinInt)},
	{"came the greatest int", s(5, 1, 2, math.MaxInt)},
	{"window 0, none under way", s(0, 0, 2, 3)},
	{"window above MaxCap, none under way", s(maxCap+1, 0, 2, 3)},
	{"left below 0, none under way", s(5, 0, -1, 3)},
	{"left above MaxRate, none under way", s(5, 0, maxRate+1, 3)},
	{"came below 0, none under way", s(5, 0, 2, -1)},
	{"came above MaxRate, none under way", s(5, 0, 2, maxRate+1)},
	{"window 0, MaxRate left and came", s(0, 1, maxRate, maxRate)},
	{"way below 0, MaxRate left and came", s(5, -1, maxRate, maxRate)},
	{"left below 0, MaxRate came", s(5, 1, -1, maxRate)},
	{"came below 0, MaxRate left", s(5, 1, maxRate, -1)},
	{"window 0, none under way, MaxRate left and came", s(0, 0, maxRate, maxRate)},
	{"all below", s(0, -1, -1, -1)},
	{"all above", s(maxCap+1, maxRate+1, maxRate+1, maxRate+1)},
	{"all the least int", s(math.MinInt, math.MinInt, math.MinInt, math.MinInt)},
	{"all the greatest int", s(math.MaxInt, math.MaxInt, math.MaxInt, math.MaxInt)},
}

func TestCheck(t *testing.T) {
	for _, c := range right {
		checked(t, c.of, api.OK, c.name)
	}
	for _, c := range faulty {
		checked(t, c.of, api.ErrRange, c.name)
	}
}

// TestFaultySources: what is wrong with a source is told ahead of all else, and nothing is told beside it.
func TestFaultySources(t *testing.T) {
	for _, c := range faulty {
		sent(t, c.of, none, 0, api.ErrRange, c.name)
		acked(t, c.of, true, none, api.ErrRange, c.name)
		acked(t, c.of, false, none, api.ErrRange, c.name)
		lost(t, c.of, none, api.ErrRange, c.name)
	}
}

func TestSend(t *testing.T) {
	for _, c := range []struct {
		name     string
		of, then api.Source
		went     int
	}{
		{"none left, none under way", s(5, 0, 0, 0), s(5, 0, 0, 0), 0},
		{"none left, some under way", s(5, 2, 0, 4), s(5, 2, 0, 4), 0},
		{"none left, as many under way as may be", s(5, 5, 0, 4), s(5, 5, 0, 4), 0},
		{"none left, more under way than may be", s(5, 9, 0, 4), s(5, 9, 0, 4), 0},

		{"fewer left", s(5, 0, 2, 4), s(5, 2, 0, 4), 2},
		{"one fewer left", s(5, 2, 2, 4), s(5, 4, 0, 4), 2},
		{"just as many left", s(5, 2, 3, 4), s(5, 5, 0, 4), 3},
		{"one more left", s(5, 2, 4, 4), s(5, 5, 1, 4), 3},
		{"far more left", s(5, 2, maxRate, 4), s(5, 5, 9_997, 4), 3},
		{"none under way, just as many left", s(5, 0, 5, 4), s(5, 5, 0, 4), 5},
		{"none under way, one more left", s(5, 0, 6, 4), s(5, 5, 1, 4), 5},
		{"one more may be, one left", s(5, 4, 1, 4), s(5, 5, 0, 4), 1},
		{"one more may be, two left", s(5, 4, 2, 4), s(5, 5, 1, 4), 1},

		{"as many under way as may be", s(5, 5, 3, 4), s(5, 5, 3, 4), 0},
		{"one more under way than may be", s(5, 6, 3, 4), s(5, 6, 3, 4), 0},
		{"far more under way than may be", s(5, maxRate, 3, 4), s(5, maxRate, 3, 4), 0},
		{"the most under way and left", s(1, maxRate, maxRate, 4), s(1, maxRate, maxRate, 4), 0},

		{"the least window, none under way", s(1, 0, 3, 4), s(1, 1, 2, 4), 1},
		{"the least window, one under way", s(1, 1, 3, 4), s(1, 1, 3, 4), 0},
		{"the greatest window, all go", s(maxCap, 0, maxCap, 4), s(maxCap, maxCap, 0, 4), maxCap},
		{"the greatest window, the most left", s(maxCap, 0, maxRate, 4), s(maxCap, maxCap, 9_000, 4), maxCap},
		{"the greatest window, one below it under way", s(maxCap, maxCap-1, maxRate, 4), s(maxCap, maxCap, 9_999, 4), 1},
		{"the greatest window, one above it under way", s(maxCap, maxCap+1, maxRate, 4), s(maxCap, maxCap+1, maxRate, 4), 0},
		{"the most came", s(5, 2, 4, maxRate), s(5, 5, 1, maxRate), 3},
		{"none came", s(5, 2, 4, 0), s(5, 5, 1, 0), 3},
		{"the greatest of each", s(maxCap, maxRate, maxRate, maxRate), s(maxCap, maxRate, maxRate, maxRate), 0},
	} {
		sent(t, c.of, c.then, c.went, api.OK, c.name)
		// What may go went: of the source then, none goes.
		sent(t, c.then, c.then, 0, api.OK, "once more", c.name)
	}
}

func TestAck(t *testing.T) {
	for _, c := range []struct {
		name   string
		of     api.Source
		faster bool
		then   api.Source
	}{
		{"faster", s(5, 3, 2, 4), true, s(6, 2, 2, 5)},
		{"not faster", s(5, 3, 2, 4), false, s(4, 2, 2, 5)},
		{"faster, the least window", s(1, 3, 2, 4), true, s(2, 2, 2, 5)},
		{"not faster, the least window", s(1, 3, 2, 4), false, s(1, 2, 2, 5)},
		{"faster, window 2", s(2, 3, 2, 4), true, s(3, 2, 2, 5)},
		{"not faster, window 2", s(2, 3, 2, 4), false, s(1, 2, 2, 5)},
		{"faster, the greatest window", s(maxCap, 3, 2, 4), true, s(maxCap, 2, 2, 5)},
		{"not faster, the greatest window", s(maxCap, 3, 2, 4), false, s(999, 2, 2, 5)},
		{"faster, one below the greatest window", s(999, 3, 2, 4), true, s(maxCap, 2, 2, 5)},
		{"not faster, one below the greatest window", s(999, 3, 2, 4), false, s(998, 2, 2, 5)},
		{"faster, one under way", s(5, 1, 2, 4), true, s(6, 0, 2, 5)},
		{"not faster, one under way", s(5, 1, 2, 4), false, s(4, 0, 2, 5)},
		{"faster, the most under way", s(5, maxRate, 2, 4), true, s(6, 9_999, 2, 5)},
		{"not faster, the most under way", s(5, maxRate, 2, 4), false, s(4, 9_999, 2, 5)},
		{"faster, as many under way as may be", s(5, 5, 2, 4), true, s(6, 4, 2, 5)},
		{"not faster, as many under way as may be", s(5, 5, 2, 4), false, s(4, 4, 2, 5)},
		{"faster, none left, none came", s(5, 3, 0, 0), true, s(6, 2, 0, 1)},
		{"not faster, none left, none came", s(5, 3, 0, 0), false, s(4, 2, 0, 1)},
		{"faster, one below the most came", s(5, 3, 2, 9_999), true, s(6, 2, 2, maxRate)},
		{"not faster, one below the most came", s(5, 3, 2, 9_999), false, s(4, 2, 2, maxRate)},
		{"faster, the most left", s(5, 3, maxRate, 4), true, s(6, 2, maxRate, 5)},
		{"not faster, the most left", s(5, 3, maxRate, 4), false, s(4, 2, maxRate, 5)},
	} {
		acked(t, c.of, c.faster, c.then, api.OK, c.name)
	}
}

func TestLost(t *testing.T) {
	for _, c := range []struct {
		name     string
		of, then api.Source
	}{
		{"an even window", s(6, 3, 2, 4), s(3, 2, 3, 4)},
		{"an odd window", s(7, 3, 2, 4), s(3, 2, 3, 4)},
		{"window 1", s(1, 3, 2, 4), s(1, 2, 3, 4)},
		{"window 2", s(2, 3, 2, 4), s(1, 2, 3, 4)},
		{"window 3", s(3, 3, 2, 4), s(1, 2, 3, 4)},
		{"window 4", s(4, 3, 2, 4), s(2, 2, 3, 4)},
		{"the greatest window", s(maxCap, 3, 2, 4), s(500, 2, 3, 4)},
		{"one below the greatest window", s(999, 3, 2, 4), s(499, 2, 3, 4)},
		{"one under way", s(5, 1, 2, 4), s(2, 0, 3, 4)},
		{"the most under way", s(5, maxRate, 2, 4), s(2, 9_999, 3, 4)},
		{"as many under way as may be", s(5, 5, 2, 4), s(2, 4, 3, 4)},
		{"none left, none came", s(5, 3, 0, 0), s(2, 2, 1, 0)},
		{"one below the most left", s(5, 3, 9_999, 4), s(2, 2, maxRate, 4)},
		{"the most came", s(5, 3, 2, maxRate), s(2, 2, 3, maxRate)},
	} {
		lost(t, c.of, c.then, api.OK, c.name)
	}
}

// TestNoneUnderWay: none comes, and none is lost, that is not under way; and that is told, too, where there is no place
// for one.
func TestNoneUnderWay(t *testing.T) {
	for _, of := range []api.Source{
		s(1, 0, 0, 0), s(5, 0, 2, 4), s(maxCap, 0, 2, 4),
		s(5, 0, 2, maxRate), s(5, 0, maxRate, 4), s(5, 0, maxRate, maxRate), s(maxCap, 0, maxRate, maxRate),
	} {
		acked(t, of, true, none, api.ErrLow)
		acked(t, of, false, none, api.ErrLow)
		lost(t, of, none, api.ErrLow)
	}
}

// TestNoPlace: what came, and what is left, is never above what may be; how full the other is does not matter.
func TestNoPlace(t *testing.T) {
	for _, window := range l(1, 2, 5, 999, maxCap) {
		for _, way := range l(1, 2, 5, 9_999, maxRate) {
			for _, other := range l(0, 1, 9_999, maxRate) {
				acked(t, s(window, way, other, maxRate), true, none, api.ErrFull)
				acked(t, s(window, way, other, maxRate), false, none, api.ErrFull)
				lost(t, s(window, way, maxRate, other), none, api.ErrFull)
			}
		}
	}
}

// edges of a number from the least to the greatest, beside them and far from them.
func edges(least, most int, more ...int) []int {
	return slices.Concat(l(least-2, least-1, least, least+1, most-1, most, most+1), more, beyond)
}

// fault tells what the chapter asks of one that goes from under way to where so many are.
func fault(of api.Source, there int) api.Errno {
	switch {
	case plain.Told(source.Check(of)) != api.OK:
		return api.ErrRange
	case of.Way < 1:
		return api.ErrLow
	case there+1 > maxRate:
		return api.ErrFull
	}
	return api.OK
}

// TestAtTheEdges: each field at its edges, beside them and far from them, with each other one so.
func TestAtTheEdges(t *testing.T) {
	many := edges(0, maxRate, 500, maxCap)
	for _, window := range edges(1, maxCap, 3, 500, maxRate) {
		for _, way := range many {
			for _, left := range many {
				for _, came := range many {
					atTheEdge(t, s(window, way, left, came))
				}
			}
		}
	}
}

func atTheEdge(t *testing.T, of api.Source) {
	t.Helper()
	no := api.OK
	for _, n := range l(of.Way, of.Left, of.Came) {
		if n < 0 || n > maxRate {
			no = api.ErrRange
		}
	}
	if of.Window < 1 || of.Window > maxCap {
		no = api.ErrRange
	}
	checked(t, of, no)
	if no != api.OK {
		sent(t, of, none, 0, no)
	} else {
		then, went := askedSend(of)
		sent(t, of, then, went, api.OK)
	}
	for _, faster := range []bool{false, true} {
		if no := fault(of, of.Came); no != api.OK {
			acked(t, of, faster, none, no)
		} else {
			acked(t, of, faster, askedAck(of, faster), api.OK)
		}
	}
	if no := fault(of, of.Left); no != api.OK {
		lost(t, of, none, no)
	} else {
		lost(t, of, askedLost(of), api.OK)
	}
}

// askedSend lets one after another go, while one is left and one more may be under way.
func askedSend(of api.Source) (api.Source, int) {
	went := 0
	for of.Left > 0 && of.Way < of.Window {
		of.Left--
		of.Way++
		went++
	}
	return of, went
}

func askedAck(of api.Source, faster bool) api.Source {
	window := of.Window
	switch {
	case faster && window != maxCap:
		window++
	case !faster && window != 1:
		window--
	}
	return s(window, of.Way-1, of.Left, of.Came+1)
}

// askedLost looks for the greatest window of which two are no more than the one that was.
func askedLost(of api.Source) api.Source {
	window := 1
	for 2*(window+1) <= of.Window {
		window++
	}
	return s(window, of.Way-1, of.Left+1, of.Came)
}

// TestSmall: all small sources, as the chapter's words have it, one by one.
func TestSmall(t *testing.T) {
	for window := range 9 {
		for way := range 11 {
			for left := range 11 {
				for came := range 3 {
					atTheEdge(t, s(window, way, left, came))
				}
			}
		}
	}
}

// TestEachWindow: each window there may be, with fewer under way, as many, and more.
func TestEachWindow(t *testing.T) {
	for window := 1; window <= maxCap; window++ {
		for _, way := range l(0, 1, window-1, window, window+1, maxRate) {
			for _, left := range l(0, 1, window-1, window, window+1, maxRate) {
				atTheEdge(t, s(window, way, left, 7))
			}
		}
	}
}

func all(of api.Source) int { return of.Way + of.Left + of.Came }

// TestNothingIsLostForGood: whatever comes and is lost, those under way, left and come are together as many as ever, and
// once enough come, all came.
func TestNothingIsLostForGood(t *testing.T) {
	for seed := range 50 {
		of := s(1+seed*20, 0, 40*seed, 3*seed)
		whole, turn := all(of), uint32(seed)
		for range 400 {
			turn = turn*1_664_525 + 1_013_904_223
			of = stepped(t, of, turn>>28)
			if all(of) != whole {
				t.Fatalf("of seed %d: %v are together %d, and were %d", seed, of, all(of), whole)
			}
			checked(t, of, api.OK, seed)
		}
		if of = drained(t, of); of.Way != 0 || of.Left != 0 || of.Came != whole {
			t.Errorf("of seed %d: %v is left at last; %d should have come", seed, of, whole)
		}
	}
}

// stepped takes one of the ways on; none under way is no fault of the source.
func stepped(t *testing.T, of api.Source, turn uint32) api.Source {
	t.Helper()
	then, err := of, error(nil)
	switch {
	case turn < 4:
		then, _, err = source.Send(of)
	case turn < 8:
		then, err = source.Lost(of)
	default:
		then, err = source.Ack(of, turn%2 == 0)
	}
	if of.Way == 0 && turn >= 4 {
		if wrong(err, api.ErrLow) {
			t.Errorf("of %v, none under way, got %v; want ErrLow", of, err)
		}
		return of
	}
	if err != nil {
		t.Errorf("of %v got %v", of, err)
	}
	return then
}

// drained sends and acks, ever slower: the window is never below 1, so that at each turn one comes.
func drained(t *testing.T, of api.Source) api.Source {
	t.Helper()
	for of.Way+of.Left > 0 {
		then, _, err := source.Send(of)
		if err != nil || then.Way == 0 {
			t.Fatalf("Send: of %v got %v, %v", of, then, err)
		}
		if of, err = source.Ack(then, false); err != nil {
			t.Fatalf("Ack: of %v got %v", then, err)
		}
	}
	return of
}

// TestNothingIsKept: the same call answers the same, whatever was called between.
func TestNothingIsKept(t *testing.T) {
	for range 2 {
		sent(t, s(5, 2, 4, 4), s(5, 5, 1, 4), 3, api.OK)
		acked(t, s(5, 3, 2, 4), true, s(6, 2, 2, 5), api.OK)
		lost(t, s(0, 3, 2, 4), none, api.ErrRange)
		acked(t, s(5, 3, 2, 4), false, s(4, 2, 2, 5), api.OK)
		lost(t, s(5, 3, 2, 4), s(2, 2, 3, 4), api.OK)
		sent(t, s(5, -1, 4, 4), none, 0, api.ErrRange)
		checked(t, s(5, 2, 4, 4), api.OK)
	}
}

// TestErrorsAreNumbers: an error is, or wraps, the number that the chapter names.
func TestErrorsAreNumbers(t *testing.T) {
	_, _, sendRange := source.Send(s(0, 0, 0, 0))
	_, ackRange := source.Ack(s(0, 0, 0, 0), true)
	_, ackLow := source.Ack(s(1, 0, 0, 0), true)
	_, ackFull := source.Ack(s(1, 1, 0, maxRate), true)
	_, lostRange := source.Lost(s(0, 0, 0, 0))
	_, lostLow := source.Lost(s(1, 0, 0, 0))
	_, lostFull := source.Lost(s(1, 1, maxRate, 0))
	for i, c := range []struct {
		err error
		no  api.Errno
	}{
		{source.Check(s(0, 0, 0, 0)), api.ErrRange},
		{sendRange, api.ErrRange},
		{ackRange, api.ErrRange}, {ackLow, api.ErrLow}, {ackFull, api.ErrFull},
		{lostRange, api.ErrRange}, {lostLow, api.ErrLow}, {lostFull, api.ErrFull},
	} {
		if !errors.Is(c.err, c.no) {
			t.Errorf("error %d: got %v, want %v", i, c.err, c.no)
		}
	}
}
