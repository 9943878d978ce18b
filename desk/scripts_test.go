package desk

import (
	"fmt"
	"math/big"
	"math/rand"
	"regexp"
	"slices"
	"strconv"
	"strings"
	"testing"

	"quillwork/api"
	"quillwork/deed"
	"quillwork/desks"
	"quillwork/story"
)

// asked is a line, as one means it: its word, the numbers behind it, and the text of put.
type asked struct {
	word string
	n    []int
	text string
}

// line is how it is asked, with just one blank between.
func (a asked) line() string {
	line := a.word
	for _, n := range a.n {
		line += fmt.Sprint(" ", n)
	}
	if a.word == "put" {
		line += " " + a.text
	}
	return line
}

// clerk is a second reading of the chapter: it asks the layers ahead by their own calls.
type clerk struct {
	desks *desks.Desks
}

// clerkOf is a clerk at the desks of that desk.
func clerkOf(d *Desk) clerk { return clerk{d.desks} }

func (c clerk) state() string { return state(&Desk{desks: c.desks}) }

// kinds: of the words that are steps.
var kinds = map[string]int{"join": api.SJoin, "put": api.SPut, "take": api.STake, "send": api.SSend, "hear": api.SHear, "clear": api.SClear, "leave": api.SLeave}

const nobodyThere = "no 5\n"

// tell does what is asked, and tells it.
func (c clerk) tell(a asked) string {
	kind, isStep := kinds[a.word]
	switch {
	case isStep:
		s := api.Step{Kind: kind, W: a.n[0], Text: a.text}
		if len(a.n) > 1 {
			s.At = a.n[1]
		}
		if len(a.n) > 2 {
			s.Many = a.n[2]
		}
		if code := c.desks.Do(s); code != 0 {
			return fmt.Sprintf("no %d\n", code)
		}
		return "ok\n"
	case len(a.n) == 1:
		return c.tellOne(a.word, a.n[0])
	case a.word == "text":
		return fmt.Sprintf("text %s\n", c.desks.Text())
	case a.word == "settle":
		c.desks.Settle()
		return "ok\n"
	case a.word == "least":
		return fmt.Sprintf("least %d %d\n", c.desks.Least(), c.desks.Len())
	}
	var deeds []api.Deed
	for n := 1; n <= c.desks.Len(); n++ {
		x, _ := c.desks.Deed(n)
		deeds = append(deeds, x)
	}
	return linesOf(deeds)
}

// tellOne is tell of text, open and then, with a number.
func (c clerk) tellOne(word string, n int) string {
	if word == "then" {
		s := story.Of(c.desks.Log)
		text, ok := s.Text(n)
		by, _ := s.By(n)
		if !ok {
			return nobodyThere
		}
		return "text " + text + "\n" + strings.TrimRight("by "+strings.Trim(fmt.Sprint(by), "[]"), " ") + "\n"
	}
	at := c.desks.Writer(n)
	switch {
	case at == nil:
		return nobodyThere
	case word == "text":
		return "text " + at.Text() + "\n"
	}
	return linesOf(at.Open())
}

// linesOf is the lines of deeds, and end.
func linesOf(deeds []api.Deed) string {
	text := ""
	for _, x := range deeds {
		line, code := deed.Line(x)
		if code != 0 {
			return fmt.Sprintf("%+v has no line: %d", x, code)
		}
		text += line + "\n"
	}
	return text + "end\n"
}

// The forms of lines, as the table has them; N is a number.
const (
	putForm  = `^(put) N N (.*)$`
	takeForm = `^ *(take) +N +N +N *$`
	oneForm  = `^ *(join|send|hear|clear|leave|text|open|then) +N *$`
	allForm  = `^ *(text|log|settle|least) *$`
)

// forms is the forms as they are held against a line.
var forms = func() []*regexp.Regexp {
	var list []*regexp.Regexp
	for _, form := range []string{putForm, takeForm, oneForm, allForm} {
		list = append(list, regexp.MustCompile(`(?s)`+strings.ReplaceAll(form, "N", `(0|-?[1-9][0-9]*)`)))
	}
	return list
}()

// read is what a line asks for; false: it is none of these.
func read(line string) (asked, bool) {
	for _, form := range forms {
		m := form.FindStringSubmatch(line)
		if m == nil {
			continue
		}
		a := asked{word: m[1]}
		words := m[2:]
		if a.word == "put" {
			a.text, words = m[4], m[2:4]
		}
		for _, word := range words {
			n, _ := new(big.Int).SetString(word, 10)
			if !n.IsInt64() {
				return asked{}, false
			}
			a.n = append(a.n, int(n.Int64()))
		}
		return a, true
	}
	return asked{}, false
}

// answer is what a line tells, whatever it is.
func (c clerk) answer(line string) string {
	a, ok := read(line)
	switch {
	case ok:
		return c.tell(a)
	case strings.Trim(line, " ") == "":
		return ""
	}
	return "what\n"
}

// The second reading reads what it is meant to.
func TestRead(t *testing.T) {
	for line, want := range map[string]string{
		"put 0 -1  a ": "{put [0 -1]  a }", "put 0 0 ": "{put [0 0] }", " take  1 2 3 ": "{take [1 2 3] }", "text": "{text [] }", "  text   7": "{text [7] }", "least ": "{least [] }",
		"put 0 0": "", "put  0 0 a": "", "take 1 2": "", "text -0": "", "text 9223372036854775808": "", "Text": "", "": "", "log\t": "",
	} {
		a, ok := read(line)
		if got := fmt.Sprint(a); ok != (want != "") || ok && got != want {
			t.Errorf("%q: %s %v, want %s", line, got, ok, want)
		}
	}
}

const alphabet = "abc defghi jklmnopqrstuvwxyz~ABCDEFGHIJKLM  NOPQRSTUVWXYZ0123456789"

// likely is something that may be asked of the clerk's desks, mostly what can be done.
func (c clerk) likely(r *rand.Rand, most int) asked {
	w := r.Intn(api.MaxWriters)
	if r.Intn(60) == 0 {
		w = noWriters[r.Intn(len(noWriters))]
	}
	sees := 0
	if at := c.desks.Writer(w); at != nil {
		sees = len(at.Text())
	}
	switch n := r.Intn(100); {
	case n < 8:
		return asked{word: "join", n: []int{w}}
	case n < 28:
		from := r.Intn(len(alphabet) - most)
		return asked{word: "put", n: []int{w, r.Intn(sees + 1)}, text: alphabet[from : from+1+r.Intn(most)]}
	case n < 38:
		at := r.Intn(sees + 1)
		return asked{word: "take", n: []int{w, at, 1 + r.Intn(max(1, min(4, sees-at)))}}
	case n < 54:
		return asked{word: "send", n: []int{w}}
	case n < 74:
		return asked{word: "hear", n: []int{w}}
	case n < 78:
		return asked{word: "clear", n: []int{w}}
	case n < 79:
		return asked{word: "leave", n: []int{w}}
	case n < 85:
		return asked{word: "text", n: []int{w}}
	case n < 90:
		return asked{word: "open", n: []int{w}}
	case n < 93:
		return asked{word: "then", n: []int{r.Intn(c.desks.Len()+4) - 1}}
	}
	return asked{word: ofAll[r.Intn(len(ofAll))]}
}

// blanks is up to some blanks, and at least so many.
func blanks(r *rand.Rand, least int) string {
	if r.Intn(3) > 0 {
		return strings.Repeat(" ", least)
	}
	return strings.Repeat(" ", least+r.Intn(4))
}

// loose is the line with more blanks, if it may have them.
func (a asked) loose(r *rand.Rand) string {
	if a.word == "put" {
		return a.line()
	}
	line := blanks(r, 0) + a.word
	for _, n := range a.n {
		line += blanks(r, 1) + strconv.Itoa(n)
	}
	return line + blanks(r, 0)
}

// script is lines that are asked one behind the other, and what they tell by the clerk's word.
func script(r *rand.Rand, c clerk, many, most int, met map[string]int) ([]string, []string) {
	var lines, answers []string
	for range many {
		a := c.likely(r, most)
		lines = append(lines, a.loose(r))
		answer := c.tell(a)
		answers = append(answers, answer)
		met[fmt.Sprint(a.word, " ", len(a.n))]++
		if strings.HasPrefix(answer, "no ") {
			met[a.word+" "+strings.TrimSpace(answer)]++
		}
	}
	return lines, answers
}

// Whoever asks for what in whatever order: the lines tell what the layers ahead answer when they are asked by their own calls.
func TestScripts(t *testing.T) {
	r := rand.New(rand.NewSource(91))
	met := map[string]int{}
	longest, widest := 0, 0
	for round := range 60 {
		d, c := New(), clerk{desks.New()}
		most := []int{3, 1, 20}[round%3]
		for range 8 {
			many := 1 + r.Intn(api.MaxLines)
			lines, answers := script(r, c, many, most, met)
			if got, want := told(t, d, lines...), strings.Join(answers, ""); got != want {
				t.Fatalf("%q: told %q\nwant %q", lines, got, want)
			}
			if state(d) != c.state() {
				t.Fatalf("%q: %s\nwant: %s", lines, state(d), c.state())
			}
		}
		longest, widest = max(longest, d.desks.Len()), max(widest, len(d.desks.Chars()))
	}
	if longest != api.MaxLog || widest < api.MaxChars-2 {
		t.Errorf("the longest log had %d deeds, the widest one %d bytes", longest, widest)
	}
	for _, what := range []string{
		"join 1", "put 2", "take 3", "send 1", "hear 1", "clear 1", "leave 1", "text 1", "text 0", "open 1", "log 0", "then 1", "settle 0", "least 0",
		"join no 1", "join no 6", "put no 5", "put no 9", "take no 5", "take no 1", "send no 5", "send no 9", "hear no 5", "hear no 9", "clear no 5", "leave no 5", "text no 5", "open no 5", "then no 5",
	} {
		if met[what] == 0 {
			t.Errorf("%s was not met: %v", what, met)
		}
	}
}

// What many Do tell one behind the other one Do of all tells, also where one between them ends in a fault.
func TestSplit(t *testing.T) {
	r := rand.New(rand.NewSource(92))
	for range 200 {
		lines, answers := script(r, clerk{desks.New()}, api.MaxLines, 3, map[string]int{})
		whole, split := New(), New()
		want := told(t, whole, lines...)
		if want != strings.Join(answers, "") {
			t.Fatalf("%q: told %q\nwant %q", lines, want, answers)
		}
		text, from := "", 0
		for from < len(lines) {
			to := min(len(lines), from+r.Intn(40))
			text += told(t, split, lines[from:to]...)
			from = to
			if r.Intn(2) == 0 {
				ahead := slices.Clone(lines[:r.Intn(from+1)/2])
				faulty(t, split, append(ahead, "\n", "settle"), api.Fault{Code: api.ErrLine, At: len(ahead)})
			}
		}
		if text != want || state(split) != state(whole) {
			t.Fatalf("%q: split, they tell %q\nwant %q", lines, text, want)
		}
	}
}

// pieces: of what wild lines are made.
var pieces = slices.Concat(
	[]string{" ", " ", " ", " ", "  ", "\t", "\x00", "\xff", "\u00a0", "-", "+", "0", "1", "2", "3", "9", "a", "x y"},
	[]string{"put", "take", "join", "send", "hear", "clear", "leave", "text", "open", "log", "then", "settle", "least", "Text", "what"},
	[]string{" 0", " 1", " 2", " 0", " 1", " 2", " 3", " 4", " -1", " 9223372036854775807", " 9223372036854775808"},
)

// wild is a line that may be one of these, and more often is nearly one.
func wild(r *rand.Rand, c clerk) string {
	if r.Intn(3) == 0 {
		line := ""
		for range r.Intn(7) {
			line += pieces[r.Intn(len(pieces))]
		}
		return line
	}
	line := c.likely(r, 4).loose(r)
	for range r.Intn(3) {
		at := r.Intn(len(line) + 1)
		switch to := min(len(line), at+r.Intn(3)); r.Intn(3) {
		case 0:
			line = line[:at] + pieces[r.Intn(len(pieces))] + line[at:]
		case 1:
			line = line[:at] + line[to:]
		default:
			line = line[:at] + pieces[r.Intn(len(pieces))] + line[to:]
		}
	}
	return line
}

// Whatever a line is: it tells what the second reading tells of it.
func TestWildLines(t *testing.T) {
	r := rand.New(rand.NewSource(93))
	whats, nothings, others := 0, 0, 0
	for range 100 {
		d, c := New(), clerk{desks.New()}
		for range 400 {
			line := wild(r, c)
			want := c.answer(line)
			if got := told(t, d, line); got != want {
				t.Fatalf("%q: told %q, want %q", line, got, want)
			}
			switch want {
			case "what\n":
				whats++
			case "":
				nothings++
			default:
				others++
			}
		}
		if state(d) != c.state() {
			t.Fatalf("%s\nwant: %s", state(d), c.state())
		}
	}
	if whats < 5000 || nothings < 500 || others < 5000 {
		t.Errorf("%d lines were none, %d empty, and %d asked for something", whats, nothings, others)
	}
}

// The same asked of two desks is answered alike.
func TestAlike(t *testing.T) {
	r := rand.New(rand.NewSource(94))
	one, two, c := New(), New(), clerk{desks.New()}
	for range 1000 {
		line := wild(r, c)
		c.answer(line)
		if a, b := told(t, one, line), told(t, two, line); a != b {
			t.Fatalf("%q: %q, and %q", line, a, b)
		}
	}
	if state(one) != state(two) {
		t.Errorf("%s\nand %s", state(one), state(two))
	}
}
