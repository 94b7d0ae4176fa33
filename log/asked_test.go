package log_test

import (
	"math"
	"slices"
	"testing"

	"fairsluice/api"
	"fairsluice/log"
)

// asked is what the document's words ask of a Log. How many bytes a record has is free, so that it is asked of a Log
// in which it is written whole.
type asked struct {
	caps    []int
	records []written
	half    int // bytes of the record at which it stopped
	safe    int
	left    int
	stopped bool
}

// written is an Add or a Drop, and how many bytes it has.
type written struct {
	step
	size int
}

func (a *asked) flows() (flows [][]int) {
	for _, r := range a.records {
		if r.path != nil {
			flows = append(flows, r.path)
		} else {
			flows = without(flows, r.flow)
		}
	}
	return flows
}

func (a *asked) whole() (bytes int) {
	for _, r := range a.records {
		bytes += r.size
	}
	return bytes
}

func (a *asked) fault(s step) api.Errno {
	flows := a.flows()
	switch {
	case a.stopped:
		return api.ErrState
	case s.sync:
		return api.OK
	case s.path == nil && (s.flow < 0 || s.flow >= len(flows)):
		return api.ErrRange
	case s.path == nil:
		return api.OK
	case len(flows) == maxFlows:
		return api.ErrFull
	case len(s.path) == 0:
		return api.ErrNone
	}
	for i, link := range s.path {
		if link < 0 || link >= len(a.caps) {
			return api.ErrRange
		}
		if slices.Contains(s.path[:i], link) {
			return api.ErrClash
		}
	}
	return api.OK
}

// size gives the bytes of the record of a step, behind those that are there.
func (a *asked) size(t *testing.T, s step) int {
	t.Helper()
	j := made(t, a.caps)
	for _, r := range a.records {
		told(t, r.on(j), api.OK, r.step)
	}
	had := j.Bytes()
	told(t, s.on(j), api.OK, s)
	if j.Bytes() < had+2 {
		t.Errorf("the record of %v has %d bytes", s, j.Bytes()-had)
	}
	return j.Bytes() - had
}

func (a *asked) take(t *testing.T, s step) api.Errno {
	t.Helper()
	if no := a.fault(s); no != api.OK {
		return no
	}
	a.stopped = a.left == 0
	a.left--
	switch {
	case a.stopped && s.sync:
		return api.ErrState
	case a.stopped:
		a.half = a.size(t, s) / 2
		return api.ErrState
	case s.sync:
		a.safe = a.whole()
	default:
		a.records = append(a.records, written{s, a.size(t, s)})
	}
	return api.OK
}

func (a *asked) crash(keep int) {
	left := leftOf(a.whole()+a.half, a.safe, keep)
	for a.whole() > left {
		a.records = a.records[:len(a.records)-1]
	}
	a.half, a.safe, a.left, a.stopped = 0, a.whole(), -1, false
}

// act is a step, or a Fail or Crash of a number.
type act struct {
	step
	fail, crash bool
	number      int
}

// matches does one act on both, and holds them against each other.
func matches(t *testing.T, j *log.Log, a *asked, do act, name any) {
	t.Helper()
	switch {
	case do.fail:
		j.Fail(do.number)
		a.left = do.number
	case do.crash:
		j.Crash(do.number)
		a.crash(do.number)
	default:
		told(t, do.on(j), a.take(t, do.step), name, do)
	}
	stands(t, j, a.caps, a.flows(), a.whole()+a.half, a.safe, name, do)
}

// TestAllShortScripts goes over all scripts of a few acts.
func TestAllShortScripts(t *testing.T) {
	acts := []act{
		{step: add(0)}, {step: add(1, 0)}, {step: add(2, 1, 0)}, {step: drop(0)}, {step: drop(1)}, {step: sync},
		{fail: true}, {fail: true, number: 1}, {fail: true, number: -1},
		{crash: true}, {crash: true, number: 2}, {crash: true, number: 3}, {crash: true, number: math.MaxInt},
	}
	var script []act
	var play func(rest int)
	play = func(rest int) {
		if rest == 0 {
			j, a := made(t, some()), &asked{caps: some(), left: -1}
			for _, do := range script {
				matches(t, j, a, do, script)
			}
			return
		}
		for _, do := range acts {
			script = append(script, do)
			play(rest - 1)
			script = script[:len(script)-1]
		}
	}
	play(4)
}

// numbers gives numbers below a bound, always the same ones, in an order that looks like none.
func numbers() func(below int) int {
	state := uint64(19)
	return func(below int) int {
		state = state*6364136223846793005 + 1442695040888963407
		return int((state >> 33) % uint64(below))
	}
}

// somePath gives a path over some of the links, of which now and then one is wrong.
func somePath(next func(int) int, links int) []int {
	path := l(0, 1, 2, 3, 4, 5)[:links]
	for i := range path {
		k := i + next(links-i)
		path[i], path[k] = path[k], path[i]
	}
	path = path[:1+next(links)]
	if next(6) == 0 {
		path[next(len(path))] = next(links+2) - 1
	}
	if next(20) == 0 {
		path = path[:0]
	}
	return path
}

func someAct(next func(int) int, links int) act {
	switch next(12) {
	case 0, 1:
		return act{step: sync}
	case 2, 3, 4:
		return act{step: drop(next(maxFlows+2) - 1)}
	case 5:
		return act{fail: true, number: next(9) - 2}
	case 6:
		return act{crash: true, number: next(20) - 2}
	}
	return act{step: add(somePath(next, links)...)}
}

// TestManyScripts: longer ones, over up to as many links as may be.
func TestManyScripts(t *testing.T) {
	next := numbers()
	for i := range 3_000 {
		var caps []int
		for range 1 + next(maxLinks) {
			caps = append(caps, 1+next(l(3, 20, maxCap)[next(3)]))
		}
		j, a := made(t, caps), &asked{caps: caps, left: -1}
		for range 30 {
			matches(t, j, a, someAct(next, len(caps)), i)
		}
	}
}
