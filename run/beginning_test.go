package run_test

import (
	"strings"
	"testing"

	"fairsluice/run"
)

// mixed: texts with all six words, faults and bad lines among them.
var mixed = []string{
	"add 0\nadd 2 0\nrates\nadd 4\nleast\nfly\nindex 1 2\nsplit 7 1 1\ndrop 0\nrates\ndrop 5\nadd 1 1\n\nleast\ndrop 0\nrates\nleast\n",
	"rates\nleast\ndrop 0\nadd 2\nadd 2\nadd 2\nadd 2\nadd 2\nadd 2\nadd 2\nrates\nadd x\ndrop 6\ndrop 3\nrates\nindex 0\nsplit 1 0\nindex 1001\nleast",
	"\n\n\nadd 3 2\n \nrates\nadd 03\nrates \nindex 6 0 3\nsplit 10 1 2 4\nsplit 1 1001\ndrop 0\ndrop 0\nadd 0 1 2 3\nadd 0\nleast\nrates",
	"add 1\nrates\x00\nrates\nadd\t1\nrates\ndrop 0\r\nrates\n\xff\nleast\nindex 9999\nsplit 9999 9\nADD 1\nrates\n",
}

// firstLines gives the text of the first lines of another.
func firstLines(all []string, many int) string {
	text := ""
	for _, line := range all[:many] {
		text += line + "\n"
	}
	return text
}

// TestBeginning: the answers to the first lines are the first answers, as many as there are lines.
func TestBeginning(t *testing.T) {
	next := choices()
	texts := mixed
	for range 400 {
		texts = append(texts, someText(next, 1+next(60)))
	}
	for _, text := range texts {
		all := run.Run(text)
		lines := pieces(text)
		for many := range len(lines) + 1 {
			first := firstLines(lines, many)
			if len(first) > maxRun || len(text) > maxRun {
				continue
			}
			got := run.Run(first)
			if !strings.HasPrefix(all, got) || strings.Count(got, "\n") != many {
				t.Errorf("%d lines of %q: got %q of %q", many, text, got, all)
			}
			if without := run.Run(strings.TrimSuffix(first, "\n")); many > 0 && lines[many-1] != "" && without != got {
				t.Errorf("%d lines of %q, the last without its byte 10: got %q, not %q", many, text, without, got)
			}
		}
		if strings.Count(all, "\n") != len(lines) && len(text) <= maxRun {
			t.Errorf("%q: got %q, not a line for each", text, all)
		}
	}
}

// TestBeginningOfALongText: up to as many bytes as may be, and beyond that no more.
func TestBeginningOfALongText(t *testing.T) {
	lines := pieces(strings.Repeat(mixed[0], 40))
	ahead := ""
	for many := range lines {
		text := firstLines(lines, many)
		got := run.Run(text)
		if len(text) > maxRun {
			if got != "too long\n" {
				t.Fatalf("%d lines, %d bytes: got %q", many, len(text), got)
			}
			continue
		}
		if !strings.HasPrefix(got, ahead) || strings.Count(got, "\n") != many {
			t.Errorf("%d lines: got %q behind %q", many, got, ahead)
		}
		ahead = got
	}
}

// TestEachRunBeginsAnew: what was run between changes nothing.
func TestEachRunBeginsAnew(t *testing.T) {
	between := append([]string{
		"", "\n", "add 0\nadd 0\nadd 0\nadd 0\nadd 0\nadd 0\n", "drop 0\n", strings.Repeat("x", maxRun+1), "index 1\nsplit 1 1\n", "add 2\nadd 2\ndrop 0\nfly",
	}, mixed...)
	for _, text := range append([]string{"rates\nleast\n", "add 0\nrates\n", "drop 0\n"}, mixed...) {
		first := run.Run(text)
		if want := askedAnswers(text); first != want {
			t.Errorf("%q: got %q, want %q", text, first, want)
		}
		for _, other := range between {
			run.Run(other)
			if again := run.Run(text); again != first {
				t.Errorf("%q, behind %q: got %q, not %q", text, other, again, first)
			}
		}
	}
}
