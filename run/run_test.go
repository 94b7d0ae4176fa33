package run_test

import (
	"slices"
	"strconv"
	"strings"
	"testing"

	"fairsluice/api"
	"fairsluice/run"
)

const (
	maxRun   = 3_000
	maxFlows = 6
	maxCap   = 1_000
)

// takes: what the links of a session take.
var takes = []int{12, 6, 4, 10}

// line and what it is answered.
type line struct{ text, answer string }

// answered runs a text of these lines, once with byte 10 behind the last, once without.
func answered(t *testing.T, name string, list ...line) {
	t.Helper()
	var texts []string
	want := ""
	for _, one := range list {
		texts = append(texts, one.text)
		want += one.answer + "\n"
	}
	text := strings.Join(texts, "\n")
	runs(t, name, text+"\n", want)
	// Without it a last line that is empty would be none.
	if texts[len(texts)-1] != "" {
		runs(t, name, text, want)
	}
}

func runs(t *testing.T, name, text, want string) {
	t.Helper()
	if got := run.Run(text); got != want {
		t.Errorf("%s: of %q got %q, want %q", name, text, got, want)
	}
}

// alone checks that a line by itself is answered so.
func alone(t *testing.T, text, answer string) {
	t.Helper()
	answered(t, "alone", line{text, answer})
}

func TestBoundsAreTheDocuments(t *testing.T) {
	if api.MaxRun != maxRun || api.MaxFlows != maxFlows || api.MaxCap != maxCap {
		t.Error("a bound of package api is not the document's")
	}
}

func TestNoText(t *testing.T) { runs(t, "none", "", "") }

func TestLines(t *testing.T) {
	for _, c := range []struct{ name, text, want string }{
		{"byte 10 behind the last", "add 0\nrates\n", "ok\n12\n"},
		{"none behind the last", "add 0\nrates", "ok\n12\n"},
		{"one line, byte 10 behind it", "rates\n", "-\n"},
		{"one line, none behind it", "rates", "-\n"},
		{"an empty line alone", "\n", "bad\n"},
		{"two of them", "\n\n", "bad\nbad\n"},
		{"an empty one at last", "rates\n\n", "-\nbad\n"},
		{"two at last", "rates\n\n\n", "-\nbad\nbad\n"},
		{"an empty one at first", "\nrates", "bad\n-\n"},
		{"an empty one between", "rates\n\nrates\n", "-\nbad\n-\n"},
		{"a blank at last", "rates\n ", "-\nbad\n"},
		{"bytes 13 and 10", "rates\r\nrates\r\n", "bad\nbad\n"},
		{"byte 13 alone is no end", "rates\rrates", "bad\n"},
		{"nor is byte 11, 12, or a line's end of Unicode", "rates\vrates\nrates\frates\nrates\u2028rates\nrates\u0085rates", "bad\nbad\nbad\nbad\n"},
	} {
		runs(t, c.name, c.text, c.want)
	}
}

// TestTooLong: whatever stands in it, nothing else is answered.
func TestTooLong(t *testing.T) {
	for _, many := range []int{maxRun + 1, maxRun + 2, 2 * maxRun, 1 << 16, 1<<20 + 1} {
		for _, piece := range []string{"rates\n", "\n", " ", "x", "add 0\n", "9", "\x00", "\xff", "ü"} {
			text := strings.Repeat(piece, many/len(piece)+1)[:many]
			if got := run.Run(text); got != "too long\n" {
				t.Errorf("%d bytes of %q: got %d bytes, want too long", many, piece, len(got))
			}
		}
	}
	runs(t, "by its last byte 10", strings.Repeat("rates\n", 499)+"rates "+"\n", "too long\n")
	runs(t, "counted in bytes, not letters", strings.Repeat("ü", maxRun/2)+"\n", "too long\n")
}

func TestJustNotTooLong(t *testing.T) {
	for _, c := range []struct{ name, text, want string }{
		{"rates", strings.Repeat("rates\n", 500), strings.Repeat("-\n", 500)},
		{"rates, the last without its byte 10", strings.Repeat("rates\n", 499) + "\nleast", strings.Repeat("-\n", 499) + "bad\nErrNone\n"},
		{"empty lines", strings.Repeat("\n", maxRun), strings.Repeat("bad\n", maxRun)},
		{"one word", strings.Repeat("x", maxRun), "bad\n"},
		{"blanks", strings.Repeat(" ", maxRun), "bad\n"},
		{"letters of two bytes", strings.Repeat("ü", maxRun/2), "bad\n"},
		{"a flow that comes and goes", strings.Repeat("add 0\ndrop 0\n", 230) + "bads bads\n", strings.Repeat("ok\nok\n", 230) + "bad\n"},
		{"a path far too long", "add" + strings.Repeat(" 2", 1498) + "\n", "ErrClash\n"},
		{"shares far too many", "index" + strings.Repeat(" 2", 1497) + "\n", "ErrFull\n"},
		{"weights far too many", "split" + strings.Repeat(" 2", 1497) + "\n", "ErrFull\n"},
		{"one number too many, at last", "add" + strings.Repeat(" 2", 1497) + "  \n", "bad\n"},
		{"digits", "index " + strings.Repeat("9", maxRun-6), "bad\n"},
	} {
		if len(c.text) != maxRun {
			t.Fatalf("%s: the text has %d bytes", c.name, len(c.text))
		}
		runs(t, c.name, c.text, c.want)
		runs(t, c.name+", one more", c.text+"x", "too long\n")
		runs(t, c.name+", one line more", c.text+"\n", "too long\n")
	}
}

// beginnings: a line of each word that has N, up to one N, what may follow, and what it answers of 1 and of 0 there.
var beginnings = []struct{ ahead, behind, ofOne, ofNone string }{
	{"add ", "", "ok", "ok"},
	{"add 2 3 ", "", "ok", "ok"},
	{"add ", " 2 3", "ok", "ok"},
	{"drop ", "", "ErrRange", "ErrRange"},
	{"index ", "", "1", "ErrNone"},
	{"index 1 1 ", "", "1", "2/3"},
	{"index ", " 1 1", "1", "2/3"},
	{"split ", " 1", "1", "0"},
	{"split 6 ", "", "6", "ErrNone"},
	{"split 6 1 ", "", "3 3", "6 0"},
	{"split 6 ", " 1", "3 3", "0 6"},
}

func TestNumbers(t *testing.T) {
	for _, b := range beginnings {
		alone(t, b.ahead+"1"+b.behind, b.ofOne)
		alone(t, b.ahead+"0"+b.behind, b.ofNone)
	}
	for _, c := range []line{
		{"add 9", "ErrRange"}, {"add 10", "ErrRange"}, {"add 9999", "ErrRange"},
		{"add 0 9", "ErrRange"}, {"add 0 10", "ErrRange"}, {"add 0 9999", "ErrRange"},
		{"drop 9", "ErrRange"}, {"drop 10", "ErrRange"}, {"drop 9999", "ErrRange"},
		{"index 9", "1"}, {"index 10", "1"}, {"index 1000", "1"}, {"index 9999", "ErrRange"},
		{"index 9 0", "1/2"}, {"index 10 30", "4/5"}, {"index 1 1000", "1002001/2000002"}, {"index 0 9999", "ErrRange"},
		{"split 9 1", "9"}, {"split 10 1", "10"}, {"split 9999 1", "9999"}, {"split 1234 1", "1234"}, {"split 9876 5", "9876"},
		{"split 10 9", "10"}, {"split 10 10", "10"}, {"split 10 1000", "10"}, {"split 10 9999", "ErrRange"},
		{"split 9999 9 10", "4736 5263"},
	} {
		alone(t, c.text, c.answer)
	}
}

func TestWhatIsNoNumber(t *testing.T) {
	wrong := []string{
		"", "12345", "10000", "99999", "00000", "00", "01", "09", "000", "0001", "0000", "010", "-1", "+1", "-0", "+0", "-", "+",
		"x", "a", "1x", "x1", "1a1", "/", ":", "1/", "1:", "/1", ":1", "1.0", "1.", ".1", "1,", "1e1", "0x1", "0b1", "1_0", "1/1",
		"18446744073709551616", "18446744073709551617", "9223372036854775808", strings.Repeat("9", 400),
		"\x00", "1\x00", "\x001", "\t1", "1\t", "\r", "1\r", "\xff", "1\xff", "\u0661", "\uff11", "\u00b9", "ü",
	}
	for _, b := range beginnings {
		for _, number := range wrong {
			alone(t, b.ahead+number+b.behind, "bad")
		}
	}
}

// TestEveryByte lays each byte in the place of each byte, and ahead of and behind it, of lines of all words, and takes
// each byte out.
func TestEveryByte(t *testing.T) {
	for _, text := range []string{"add 0", "add 3 12 0", "drop 0", "rates", "least", "index 7 40", "split 10 2 3", "split 905 1", ""} {
		for at := range len(text) + 1 {
			for b := range 256 {
				matches(t, "add 1\n"+text[:at]+string([]byte{byte(b)})+text[at:]+"\nrates\n")
				if at < len(text) {
					matches(t, "add 1\n"+text[:at]+string([]byte{byte(b)})+text[at+1:]+"\nrates\n")
				}
			}
			if at < len(text) {
				matches(t, "add 1\n"+text[:at]+text[at+1:]+"\nrates\n")
			}
		}
	}
}

// notTheirWords: lines that are not of the six forms.
var notTheirWords = []string{
	// A word alone where N is wanted.
	"add", "drop", "index", "split", "split 1", "split 0", "split 9999",
	// N where none is wanted, or one too many.
	"rates 0", "rates 1", "rates 1 2", "least 0", "least 1", "drop 0 0", "drop 0 1", "drop 1 2", "drop 0 0 0",
	// Two blanks between, a blank ahead or behind.
	"add  0", "add 0  1", "drop  0", "index  1", "index 1  2", "split  1 2", "split 1  2",
	" add 0", " drop 0", " rates", " least", " index 1", " split 1 2", "  rates",
	"add 0 ", "drop 0 ", "rates ", "least ", "index 1 ", "split 1 2 ", "rates  ", "add ", "drop ", "index ", "split ", "split 1 ",
	// A byte 9, or another, for the blank.
	"add\t0", "add 0\t1", "drop\t0", "index\t1", "index 1\t2", "split\t1 2", "split 1\t2", "add\u00a00", "add,0", "add_0", "add0",
	"drop0", "index1", "split1 2", "rates\t", "\trates", "rates\r", "least\x00", "\x00", "\x00rates", "rates\xff", "\xff", "\t", "\r", " ",
	// Capital letters.
	"ADD 0", "Add 0", "adD 0", "DROP 0", "Drop 0", "RATES", "Rates", "rateS", "LEAST", "Least", "INDEX 1", "Index 1", "SPLIT 1 2", "Split 1 2",
	// Cut short, or a letter more.
	"ad 0", "dd 0", "adds 0", "aadd 0", "dro 0", "rop 0", "drops 0", "rate", "ates", "ratess", "leas", "east", "leasts",
	"inde 1", "ndex 1", "indexs 1", "spli 1 2", "plit 1 2", "splits 1 2",
	// A word that is none.
	"", "fly", "fly 1", "0", "1 2", "ok", "bad", "-", "too long", "sync", "crash 0", "fail 0", "paths", "bytes", "safe", "gap 1 2", "part 1 2 0",
	"0 add", "0 drop", "add rates", "rates least", "rates rates", "#", "# rates", "add 0;rates", "add -", "drop all",
}

func TestWhatHasNotItsWords(t *testing.T) {
	for _, text := range notTheirWords {
		alone(t, text, "bad")
	}
}

// TestBadChangesNothing: nor do others that are refused.
func TestBadChangesNothing(t *testing.T) {
	refused := []line{
		{"add 4", "ErrRange"}, {"add 0 4", "ErrRange"}, {"add 1 1", "ErrClash"}, {"drop 3", "ErrRange"}, {"drop 9999", "ErrRange"},
		{"index 0", "ErrNone"}, {"index 1001", "ErrRange"}, {"split 1 0", "ErrNone"}, {"split 1 1001", "ErrRange"},
		{"add 0 x", "bad"}, {"add 0 00", "bad"}, {"drop 0 0", "bad"}, {"drop 00", "bad"}, {"drop 0x", "bad"},
	}
	for _, text := range notTheirWords {
		refused = append(refused, line{text, "bad"})
	}
	ahead := []line{{"add 0 1", "ok"}, {"add 2", "ok"}, {"add 2 3", "ok"}, {"rates", "6 2 2"}}
	behind := []line{{"rates", "6 2 2"}, {"least", "2"}, {"drop 1", "ok"}, {"rates", "6 4"}}
	for _, one := range refused {
		answered(t, "refused", slices.Concat(ahead, []line{one}, behind)...)
	}
	for at := 0; at < len(refused); at += 40 {
		answered(t, "many refused", slices.Concat(ahead, refused[at:min(at+40, len(refused))], behind)...)
	}
}

// TestBadAhead: it is told ahead of what a chapter would say, and so is nothing of what stands ahead of it in the line.
func TestBadAhead(t *testing.T) {
	full := slices.Repeat([]line{{"add 0", "ok"}}, maxFlows)
	answered(t, "MaxFlows", append(full, line{"add 0 x", "bad"}, line{"add", "bad"}, line{"add ", "bad"}, line{"add 0", "ErrFull"})...)
	for _, text := range []string{
		"add 4 x", "add 9999 00", "add 0 0 x", "add 1 1 ", "add 4 -1", "add 0 0 12345",
		"drop 5 5", "drop 9999 ", "drop 9999 x",
		"index 0 x", "index 0 ", "index 1001 x", "index 9999 01", "index 1 1 1 1 1 1 1 x", "index 0 10000",
		"split 1 0 x", "split 1 0 ", "split 1 1001 x", "split 1 9999 -1", "split 1 1 1 1 1 1 1 1 x", "split 10000 0", "split 10001 1", "split -1 0",
		"least 0", "least x",
	} {
		alone(t, text, "bad")
	}
}

// TestAdd: over each link by itself what it takes is told by the rate, and over several the least of it.
func TestAdd(t *testing.T) {
	for _, c := range []struct{ path, rate string }{
		{"0", "12"}, {"1", "6"}, {"2", "4"}, {"3", "10"},
		{"0 1", "6"}, {"1 0", "6"}, {"0 3", "10"}, {"3 0", "10"}, {"1 3", "6"}, {"2 0", "4"}, {"2 3", "4"}, {"1 2", "4"},
		{"0 1 3", "6"}, {"3 2 1 0", "4"}, {"0 1 2 3", "4"}, {"1 3 0 2", "4"},
	} {
		answered(t, "add", line{"add " + c.path, "ok"}, line{"rates", c.rate}, line{"least", c.rate})
	}
	answered(t, "it goes over all of its links",
		line{"add 1 2", "ok"}, line{"add 1", "ok"}, line{"add 2", "ok"}, line{"rates", "2 4 2"})
	answered(t, "the last one is the new one",
		line{"add 0", "ok"}, line{"rates", "12"}, line{"add 2", "ok"}, line{"rates", "12 4"}, line{"add 3", "ok"}, line{"rates", "12 4 10"})
}

func TestAddTellsItsErrors(t *testing.T) {
	for _, c := range []line{
		{"add 4", "ErrRange"}, {"add 5", "ErrRange"}, {"add 256", "ErrRange"}, {"add 9999", "ErrRange"},
		{"add 0 4", "ErrRange"}, {"add 4 0", "ErrRange"}, {"add 0 1 2 3 4", "ErrRange"}, {"add 4 4", "ErrRange"}, {"add 0 4 0", "ErrRange"},
		{"add 0 0", "ErrClash"}, {"add 3 3", "ErrClash"}, {"add 0 1 0", "ErrClash"}, {"add 0 1 2 3 0", "ErrClash"}, {"add 0 0 4", "ErrClash"},
		{"add 3 2 1 0 3 2 1 0", "ErrClash"},
	} {
		answered(t, "of no flow", c, line{"rates", "-"}, line{"drop 0", "ErrRange"})
		answered(t, "of one", line{"add 1", "ok"}, c, line{"rates", "6"}, line{"drop 1", "ErrRange"})
	}
}

func TestAddToAsManyAsMayBe(t *testing.T) {
	list := slices.Repeat([]line{{"add 0", "ok"}}, maxFlows)
	for _, text := range []string{"add 0", "add 1", "add 0 1 2 3", "add 4", "add 0 0"} {
		list = append(list, line{text, "ErrFull"}, line{"rates", "2 2 2 2 2 2"}, line{"drop 6", "ErrRange"})
	}
	list = append(list, line{"drop 5", "ok"}, line{"add 4", "ErrRange"}, line{"add 0 0", "ErrClash"}, line{"add 1", "ok"})
	list = append(list, line{"rates", "12/5 12/5 12/5 12/5 12/5 6"}, line{"add 1", "ErrFull"})
	answered(t, "MaxFlows", list...)
}

func TestDrop(t *testing.T) {
	ahead := []line{{"add 0", "ok"}, {"add 1", "ok"}, {"add 2", "ok"}, {"add 3", "ok"}, {"rates", "12 6 4 10"}}
	for flow, left := range []string{"6 4 10", "12 4 10", "12 6 10", "12 6 4"} {
		answered(t, "drop", append(slices.Clone(ahead), line{"drop " + strconv.Itoa(flow), "ok"}, line{"rates", left}, line{"drop 3", "ErrRange"}, line{"rates", left})...)
	}
	for _, flow := range []string{"4", "5", "6", "256", "9999"} {
		answered(t, "no such flow", append(slices.Clone(ahead), line{"drop " + flow, "ErrRange"}, line{"rates", "12 6 4 10"})...)
	}
	answered(t, "all", append(slices.Clone(ahead),
		line{"drop 1", "ok"}, line{"drop 2", "ok"}, line{"rates", "12 4"}, line{"drop 0", "ok"}, line{"rates", "4"},
		line{"drop 0", "ok"}, line{"rates", "-"}, line{"least", "ErrNone"}, line{"drop 0", "ErrRange"}, line{"add 3", "ok"}, line{"rates", "10"})...)
	answered(t, "what it leaves goes to the others",
		line{"add 2", "ok"}, line{"add 2", "ok"}, line{"rates", "2 2"}, line{"drop 0", "ok"}, line{"rates", "4"})
	for _, flow := range []string{"0", "1", "5", "6", "9999"} {
		answered(t, "of none", line{"drop " + flow, "ErrRange"}, line{"rates", "-"})
	}
}

func TestRatesAndLeast(t *testing.T) {
	answered(t, "none", line{"rates", "-"}, line{"least", "ErrNone"}, line{"rates", "-"})
	for _, c := range []struct {
		paths        []string
		rates, least string
	}{
		{[]string{"2", "2", "2"}, "4/3 4/3 4/3", "4/3"},
		{[]string{"2", "2", "2 0", "0"}, "4/3 4/3 4/3 32/3", "4/3"},
		{[]string{"0", "2 0", "2", "2"}, "32/3 4/3 4/3 4/3", "4/3"},
		{[]string{"0 1", "0", "1 2", "2"}, "4 8 2 2", "2"},
		{[]string{"3", "3", "3", "2", "2"}, "10/3 10/3 10/3 2 2", "2"},
		{[]string{"0", "1", "1", "1", "1"}, "12 3/2 3/2 3/2 3/2", "3/2"},
		{[]string{"3", "3", "3", "0"}, "10/3 10/3 10/3 12", "10/3"},
		{[]string{"0 1 2 3", "0 1 2 3", "0 1 2 3", "0 1 2 3", "0 1 2 3", "0 1 2 3"}, "2/3 2/3 2/3 2/3 2/3 2/3", "2/3"},
		{[]string{"2 1", "2", "2", "1 3", "1", "3"}, "4/3 4/3 4/3 7/3 7/3 23/3", "4/3"},
	} {
		var list []line
		for _, path := range c.paths {
			list = append(list, line{"add " + path, "ok"})
		}
		answered(t, "rates", append(list, line{"rates", c.rates}, line{"least", c.least}, line{"rates", c.rates})...)
	}
}

// TestRatesOverTheSameLink: each has as much.
func TestRatesOverTheSameLink(t *testing.T) {
	for link, each := range [][]string{
		{"12", "6", "4", "3", "12/5", "2"}, {"6", "3", "2", "3/2", "6/5", "1"}, {"4", "2", "4/3", "1", "4/5", "2/3"}, {"10", "5", "10/3", "5/2", "2", "5/3"},
	} {
		var list []line
		for many := range maxFlows {
			rates := strings.Join(slices.Repeat(each[many:many+1], many+1), " ")
			list = append(list, line{"add " + strconv.Itoa(link), "ok"}, line{"rates", rates}, line{"least", each[many]})
		}
		answered(t, "the same link", list...)
	}
}

func TestIndex(t *testing.T) {
	for _, c := range []line{
		{"index 1", "1"}, {"index 1000", "1"}, {"index 7 7", "1"}, {"index 3 3 3 3 3 3", "1"}, {"index 1000 1000 1000 1000 1000 1000", "1"},
		{"index 1 0", "1/2"}, {"index 0 1000", "1/2"}, {"index 0 0 0 0 0 5", "1/6"}, {"index 1 2", "9/10"}, {"index 6 0 3", "3/5"},
		{"index 1 2 3", "6/7"}, {"index 666 218 838", "247107/298331"}, {"index 1 3", "4/5"},
		{"index 0", "ErrNone"}, {"index 0 0", "ErrNone"}, {"index 0 0 0 0 0 0", "ErrNone"},
		{"index 1 1 1 1 1 1 1", "ErrFull"}, {"index 0 0 0 0 0 0 0", "ErrFull"}, {"index 1001 1 1 1 1 1 1", "ErrFull"}, {"index 9999 9999 1 1 1 1 1 1 1 1", "ErrFull"},
		{"index 1001", "ErrRange"}, {"index 9999", "ErrRange"}, {"index 1 1001", "ErrRange"}, {"index 0 1001", "ErrRange"}, {"index 1 1 1 1 1 1001", "ErrRange"},
	} {
		alone(t, c.text, c.answer)
	}
}

func TestSplit(t *testing.T) {
	for _, c := range []line{
		{"split 6 1 1", "3 3"}, {"split 10 2 3", "4 6"}, {"split 12 1 2 3", "2 4 6"}, {"split 9999 1", "9999"}, {"split 5 1000", "5"},
		{"split 7 1 1", "4 3"}, {"split 10 1 2 4", "1 3 6"}, {"split 8 1 2 4", "1 2 5"}, {"split 5 1 1 1", "2 2 1"}, {"split 9999 1 1", "5000 4999"},
		{"split 1 1 1 1 1 1 1", "1 0 0 0 0 0"}, {"split 1 0 1", "0 1"}, {"split 7 0 1 0", "0 7 0"}, {"split 9999 1000 1000", "5000 4999"},
		{"split 0 1", "0"}, {"split 0 1 1 1", "0 0 0"}, {"split 0 0 5", "0 0"},
		{"split 1 0", "ErrNone"}, {"split 0 0", "ErrNone"}, {"split 9 0 0 0 0 0 0", "ErrNone"},
		{"split 1 1 1 1 1 1 1 1", "ErrFull"}, {"split 0 0 0 0 0 0 0 0", "ErrFull"}, {"split 1 1001 1 1 1 1 1 1", "ErrFull"},
		{"split 1 1001", "ErrRange"}, {"split 1 9999", "ErrRange"}, {"split 1 1 1001", "ErrRange"}, {"split 1 0 1001", "ErrRange"}, {"split 9999 1 1 1 1 1 1001", "ErrRange"},
		{"split 10000 1", "bad"}, {"split 10001 1", "bad"}, {"split -1 1", "bad"}, {"split 1 -1", "bad"}, {"split 1 10000", "bad"},
	} {
		alone(t, c.text, c.answer)
	}
}

// TestWhatHangsOnNoFlow: index and split answer the same at all times, and leave the flows as they are.
func TestWhatHangsOnNoFlow(t *testing.T) {
	answered(t, "among flows",
		line{"index 1 2", "9/10"}, line{"split 7 1 1", "4 3"}, line{"rates", "-"}, line{"add 2 0", "ok"}, line{"index 1 2", "9/10"},
		line{"split 7 1 1", "4 3"}, line{"add 2", "ok"}, line{"index 1 2", "9/10"}, line{"rates", "2 2"}, line{"drop 0", "ok"},
		line{"split 7 1 1", "4 3"}, line{"rates", "4"})
}
