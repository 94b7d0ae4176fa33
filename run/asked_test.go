package run_test

import (
	"math/big"
	"regexp"
	"slices"
	"strconv"
	"strings"
	"testing"

	"fairsluice/run"
)

// asked is what the document's words ask of a session. It leans on no package of the program, so that it answers on
// even where one of them is wrong.
type asked struct{ flows [][]int }

const oneNumber = ` (0|[1-9][0-9]{0,3})`

// right tells which lines have their words and numbers.
var right = regexp.MustCompile(`\A(add(` + oneNumber + `)+|drop` + oneNumber + `|rates|least|index(` + oneNumber + `)+|split(` + oneNumber + `){2,})\z`)

// askedAnswers gives what is asked of a text.
func askedAnswers(text string) string {
	if len(text) > maxRun {
		return "too long\n"
	}
	a := &asked{}
	answers := ""
	for _, line := range pieces(text) {
		answers += a.answer(line) + "\n"
	}
	return answers
}

// pieces gives the lines of a text.
func pieces(text string) []string {
	all := strings.Split(text, "\n")
	if all[len(all)-1] == "" {
		all = all[:len(all)-1]
	}
	return all
}

func (a *asked) answer(line string) string {
	if !right.MatchString(line) {
		return "bad"
	}
	words := strings.Split(line, " ")
	var numbers []int
	for _, word := range words[1:] {
		n, _ := strconv.Atoi(word)
		numbers = append(numbers, n)
	}
	switch words[0] {
	case "add":
		return a.add(numbers)
	case "drop":
		if numbers[0] >= len(a.flows) {
			return "ErrRange"
		}
		a.flows = slices.Concat(a.flows[:numbers[0]], a.flows[numbers[0]+1:])
		return "ok"
	case "index":
		return askedIndex(numbers)
	case "split":
		return askedSplit(numbers[0], numbers[1:])
	case "rates":
		return a.allRates()
	}
	return a.leastRate()
}

func (a *asked) add(path []int) string {
	if len(a.flows) == maxFlows {
		return "ErrFull"
	}
	for i, link := range path {
		if link >= len(takes) {
			return "ErrRange"
		}
		if slices.Contains(path[:i], link) {
			return "ErrClash"
		}
	}
	a.flows = append(a.flows, path)
	return "ok"
}

func (a *asked) allRates() string {
	if len(a.flows) == 0 {
		return "-"
	}
	var texts []string
	for _, rate := range a.rates() {
		texts = append(texts, rate.RatString())
	}
	return strings.Join(texts, " ")
}

func (a *asked) leastRate() string {
	if len(a.flows) == 0 {
		return "ErrNone"
	}
	return slices.MinFunc(a.rates(), (*big.Rat).Cmp).RatString()
}

// rates fixes, one by one, the flow over the link that has the least for each of those not fixed yet.
func (a *asked) rates() []*big.Rat {
	fixed := make([]*big.Rat, len(a.flows))
	for slices.Contains(fixed, nil) {
		var least *big.Rat
		narrow := 0
		for link := range takes {
			share := a.share(link, fixed)
			if share != nil && (least == nil || share.Cmp(least) < 0) {
				least, narrow = share, link
			}
		}
		for flow, path := range a.flows {
			if fixed[flow] == nil && slices.Contains(path, narrow) {
				fixed[flow] = least
				break
			}
		}
	}
	return fixed
}

// share gives what a link has for each flow over it that is not fixed, or nil if there is none.
func (a *asked) share(link int, fixed []*big.Rat) *big.Rat {
	rest, many := big.NewRat(int64(takes[link]), 1), int64(0)
	for flow, path := range a.flows {
		switch {
		case !slices.Contains(path, link):
		case fixed[flow] == nil:
			many++
		default:
			rest.Sub(rest, fixed[flow])
		}
	}
	if many == 0 {
		return nil
	}
	return rest.Mul(rest, big.NewRat(1, many))
}

// askedShares tells what is wrong with shares, or weights, or gives an empty text.
func askedShares(list []int) string {
	switch {
	case len(list) > maxFlows:
		return "ErrFull"
	case slices.Max(list) > maxCap:
		return "ErrRange"
	case slices.Max(list) == 0:
		return "ErrNone"
	}
	return ""
}

func askedIndex(shares []int) string {
	if wrong := askedShares(shares); wrong != "" {
		return wrong
	}
	all, squares := 0, 0
	for _, share := range shares {
		all, squares = all+share, squares+share*share
	}
	return big.NewRat(int64(all*all), int64(len(shares)*squares)).RatString()
}

// askedSplit gives what is left over one by one, each time to the first that has the greatest rest of all that have
// got none of it.
func askedSplit(many int, weights []int) string {
	if wrong := askedShares(weights); wrong != "" {
		return wrong
	}
	all := 0
	for _, weight := range weights {
		all += weight
	}
	parts, rests, left := make([]int, len(weights)), make([]int, len(weights)), many
	for i, weight := range weights {
		parts[i], rests[i] = many*weight/all, many*weight%all
		left -= parts[i]
	}
	for range left {
		i := slices.Index(rests, slices.Max(rests))
		parts[i]++
		rests[i] = -1
	}
	var texts []string
	for _, part := range parts {
		texts = append(texts, strconv.Itoa(part))
	}
	return strings.Join(texts, " ")
}

// matches holds Run against what is asked.
func matches(t *testing.T, text string) {
	t.Helper()
	if got, want := run.Run(text), askedAnswers(text); got != want {
		t.Errorf("%q: got %q, want %q", text, got, want)
	}
}

// TestAllShortTexts goes over all texts of a few lines.
func TestAllShortTexts(t *testing.T) {
	some := []string{
		"add 0", "add 2", "add 1 0", "add 2 3 0", "add 4", "add 1 1", "drop 0", "drop 1", "rates", "least",
		"index 1 2", "split 7 2 1", "", "drop 00",
	}
	var script []string
	var play func(rest int)
	play = func(rest int) {
		matches(t, strings.Join(script, "\n"))
		if rest == 0 {
			return
		}
		for _, line := range some {
			script = append(script, line)
			play(rest - 1)
			script = script[:len(script)-1]
		}
	}
	play(4)
}

// choices gives numbers below a bound, always the same ones, in an order that looks like none.
func choices() func(below int) int {
	state := uint64(20)
	return func(below int) int {
		state = state*6364136223846793005 + 1442695040888963407
		return int((state >> 33) % uint64(below))
	}
}

// someNumber gives more often than not one that may be, and now and then what is none.
func someNumber(next func(int) int) string {
	switch next(40) {
	case 0:
		return []string{"", "00", "01", "-1", "+1", "x", "1x", "12345", "1/2", ":", "\t", "\xff", "0x1", "1_0", "１"}[next(15)]
	case 1, 2:
		return strconv.Itoa(next(10_000))
	case 3, 4, 5, 6, 7:
		return strconv.Itoa(next(maxCap + 2))
	}
	return strconv.Itoa(next(5))
}

// someLine gives a line, in few cases one that has not its words.
func someLine(next func(int) int) string {
	word := []string{"add", "add", "add", "add", "drop", "rates", "rates", "least", "index", "split"}[next(10)]
	many := map[string]int{"add": 1 + next(3), "drop": 1, "index": 1 + next(4), "split": 2 + next(4)}[word]
	if next(40) == 0 {
		word = []string{"", "ad", "adds", "Add", "DROP", "rate", "fly", "index\t1", "rates\r", "\x00", " add"}[next(11)]
	}
	if next(40) == 0 {
		many = next(10)
	}
	line := word
	for range many {
		line += " " + someNumber(next)
	}
	return line
}

func someText(next func(int) int, lines int) string {
	var all []string
	for range lines {
		all = append(all, someLine(next))
	}
	text := strings.Join(all, "\n")
	if next(2) == 0 {
		text += "\n"
	}
	return text
}

// TestManyTexts: longer ones, some of them too long.
func TestManyTexts(t *testing.T) {
	next := choices()
	for range 20_000 {
		matches(t, someText(next, next(40)))
	}
	for range 300 {
		matches(t, someText(next, 200+next(300)))
	}
}

// TestManyBytes: of texts that are made of whatever bytes.
func TestManyBytes(t *testing.T) {
	next := choices()
	few := "adropsplitexn 0123456789\n\n  \x00\xff"
	for range 20_000 {
		text := make([]byte, next(60))
		for i := range text {
			text[i] = byte(next(256))
			if next(3) > 0 {
				text[i] = few[next(len(few))]
			}
		}
		matches(t, string(text))
	}
}
