package desk

import (
	"fmt"
	"math"
	"slices"
	"strconv"
	"strings"
	"testing"
	"unsafe"

	"quillwork/api"
)

// far: numbers that are beyond every bound, as far as both ends of int.
var far = []int{math.MinInt, math.MinInt + 1, -1 << 32, -api.Open, -2, -1, 201, api.Open - 1, api.Open, api.Open + 1, 1 << 32, 1 << 62, math.MaxInt - 1, math.MaxInt}

// noWriters: numbers of nobody, right beside those of writers and far off.
var noWriters = append([]int{api.MaxWriters, api.MaxWriters + 1, 63, 64}, far...)

// noNumbers: words that are no numbers, or not as short as can be, or of more than 64 bits.
var noNumbers = []string{
	"+0", "+1", "-0", "00", "01", "-00", "-01", "001", "+-1", "--1", "-", "+", "1-", "1+", "0-0",
	"1.0", "1.", ".1", "1e0", "0x0", "0x1", "0b1", "0o1", "1_0", "0_1", "1,0", "(1)", "one", "a", "W", "inf", "NaN",
	"\x00", "0\x00", "\x000", "\t0", "0\t", "0\r", "0\v", "0\f", "\u00a00", "0\u00a0", "\u0660", "\uff11", "\xff", "0\xff", "\x80", "1\x85",
	"9223372036854775808", "-9223372036854775809", "18446744073709551615", "18446744073709551616", "18446744073709551617", "-18446744073709551616", "340282366920938463463374607431768211456", "00000000000000000000", "10000000000000000000000000000000000000000",
}

// ofOne: the words behind which one number stands.
var ofOne = []string{"join", "send", "hear", "clear", "leave", "text", "open", "then"}

// ofAll: the words that stand by themselves.
var ofAll = []string{"text", "log", "settle", "least"}

// told is what the lines tell, which must have no fault.
func told(t *testing.T, d *Desk, lines ...string) string {
	t.Helper()
	text, f := d.Do(lines)
	if f != (api.Fault{}) {
		t.Fatalf("%q: %+v", lines, f)
	}
	return text
}

// tells holds what the lines tell against lines that are wanted.
func tells(t *testing.T, d *Desk, lines []string, want ...string) {
	t.Helper()
	if got, want := told(t, d, lines...), ended(want...); got != want {
		t.Errorf("%q: told %q\nwant %q", lines, got, want)
	}
}

// ended is the lines, each with a newline behind it.
func ended(lines ...string) string {
	text := ""
	for _, line := range lines {
		text += line + "\n"
	}
	return text
}

// ask is the lines that are asked.
func ask(lines ...string) []string { return lines }

// allOk lets lines be done that must all tell ok.
func allOk(t *testing.T, d *Desk, lines ...string) {
	t.Helper()
	tells(t, d, lines, slices.Repeat(ask("ok"), len(lines))...)
}

// state is all that may be learnt of the desks behind a desk.
func state(d *Desk) string {
	text := fmt.Sprintf("len %d least %d text %q deeds %+v chars %+v", d.desks.Len(), d.desks.Least(), d.desks.Text(), d.logged(), d.desks.Chars())
	for w := range api.MaxWriters {
		text += fmt.Sprintf("\n%d: %v", w, d.desks.Here(w))
		if at := d.desks.Writer(w); at != nil {
			text += fmt.Sprintf(" seen %d least %d text %q open %+v chars %+v known %+v", at.Seen(), at.Least(), at.Text(), at.Open(), at.Chars(), at.Known())
		}
	}
	return text
}

// busy is a desk with a log of four deeds, at which 0, 1 and 3 are, who have all heard the first one alone; 0 and 1 have deeds that are open.
func busy(t *testing.T) *Desk {
	t.Helper()
	d := New()
	allOk(t, d, "join 0", "join 1", "join 3", "put 0 0 abc", "send 0", "hear 1", "hear 3", "take 1 0 2", "put 1 0 12", "send 1", "send 1", "hear 0", "put 0 0 B", "send 0", "put 0 1 x y", "take 0 0 1", "put 1 2  z ")
	return d
}

// tellsNoChange holds that lines tell just that, and change nothing.
func tellsNoChange(t *testing.T, d *Desk, want string, lines ...string) {
	t.Helper()
	for _, line := range lines {
		was := state(d)
		if got := told(t, d, line); got != want {
			t.Errorf("%q: told %q, want %q", line, got, want)
		}
		if now := state(d); now != was {
			t.Errorf("%q changed: %s\nwas: %s", line, now, was)
		}
	}
}

func TestNew(t *testing.T) {
	d := New()
	if d == nil {
		t.Fatal("New is nil")
	}
	tells(t, d, ask("text", "log", "least", "then 0", "then 1", "settle"), "text ", "end", "least 0 0", "text ", "by", "no 5", "ok")
	for w := range api.MaxWriters {
		n := strconv.Itoa(w)
		tells(t, d, ask("text "+n, "open "+n, "send "+n, "hear "+n, "clear "+n, "leave "+n, "put "+n+" 0 a", "take "+n+" 0 1"), slices.Repeat(ask("no 5"), 8)...)
	}
}

func TestNothingAsked(t *testing.T) {
	for _, d := range []*Desk{New(), busy(t)} {
		was := state(d)
		for _, lines := range [][]string{nil, {}, {""}, {" "}, {"    "}, {"", "", ""}, {"", "  ", ""}, make([]string, api.MaxLines)} {
			if text, f := d.Do(lines); text != "" || f != (api.Fault{}) {
				t.Errorf("%q: %q %+v", lines, text, f)
			}
		}
		if state(d) != was {
			t.Errorf("nothing was asked, and it changed: %s\nwas: %s", state(d), was)
		}
	}
	tells(t, New(), ask("", "least", " ", "", "text", "   "), "least 0 0", "text ")
}

// The document's examples, asked in lines.
func TestExamples(t *testing.T) {
	tells(t, New(),
		ask("join 0", "join 1", "put 0 0 ab", "put 1 0 c", "text 0", "text 1", "send 0", "send 1", "text", "hear 1", "text 1", "hear 0", "text 0", "hear 0", "text 0", "hear 1", "text 1"),
		"ok", "ok", "ok", "ok", "text ab", "text c", "ok", "ok", "text cab", "ok", "text cab", "ok", "text ab", "ok", "text cab", "ok", "text cab")
	tells(t, New(),
		ask("join 0", "put 0 0 abc", "settle", "join 1", "take 0 1 1", "take 1 1 2", "send 0", "send 1", "text", "settle", "text 0", "text 1", "log", "then 2", "then 3"),
		"ok", "ok", "ok", "ok", "ok", "ok", "ok", "ok", "text a", "ok", "text a", "text a", "put 0 1 0 0 abc", "take 0 2 1 1 1", "take 1 1 1 1 2", "end", "text ac", "by 0 0", "text a", "by 0")
	tells(t, New(),
		ask("join 2", "put 2 0 a", "send 2", "leave 2", "join 2", "put 2 1 b", "open 2", "send 2", "log"),
		"ok", "ok", "ok", "ok", "ok", "ok", "put 2 2 1 1 b", "end", "ok", "put 2 1 0 0 a", "put 2 2 1 1 b", "end")
}

// Each line of the table, what it does and what it tells.
func TestTable(t *testing.T) {
	d := New()
	tells(t, d, ask("join 3", "join 0", "least"), "ok", "ok", "least 0 0")
	tells(t, d, ask("put 3 0 ab", "text 3", "text", "open 3", "text 0"), "ok", "text ab", "text ", "put 3 1 0 0 ab", "end", "text ")
	tells(t, d, ask("put 3 1 x y", "take 3 0 1", "text 3", "open 3"), "ok", "ok", "text x yb", "put 3 1 0 0 ab", "put 3 2 0 1 x y", "take 3 3 0 0 1", "end")
	tells(t, d, ask("send 3", "text", "log", "open 3", "least"), "ok", "text ab", "put 3 1 0 0 ab", "end", "put 3 1 0 0 ab", "put 3 2 0 1 x y", "take 3 3 0 0 1", "end", "least 0 1")
	tells(t, d, ask("hear 0", "text 0", "least", "hear 3", "open 3", "least"), "ok", "text ab", "least 0 1", "ok", "put 3 2 0 1 x y", "take 3 3 0 0 1", "end", "least 0 1")
	tells(t, d, ask("send 3", "send 3", "send 3", "text", "least"), "ok", "ok", "no 5", "text x yb", "least 0 3")
	tells(t, d, ask("put 0 2 .", "settle", "text 0", "text 3", "text", "open 0", "open 3", "least"), "ok", "ok", "text x yb.", "text x yb.", "text x yb.", "end", "end", "least 4 4")
	tells(t, d, ask("log"), "put 3 1 0 0 ab", "put 3 2 0 1 x y", "take 3 3 0 0 1", "put 0 1 1 2 .", "end")
	tells(t, d, ask("then 0", "then 1", "then 2", "then 3", "then 4", "then 5", "then -1"), "text ", "by", "text ab", "by 3 3", "text ax yb", "by 3 3 3 3 3", "text x yb", "by 3 3 3 3", "text x yb.", "by 3 3 3 3 0", "no 5", "no 5")
	tells(t, d, ask("clear 0", "text 0"), "ok", "text x yb.")
	if had := len(d.desks.Writer(0).Chars()); had != 5 {
		t.Errorf("0 has %d bytes when it has forgotten what is gone", had)
	}
	if had := len(d.desks.Writer(3).Chars()); had != 6 {
		t.Errorf("3 has %d bytes, and was not asked to forget", had)
	}
	tells(t, d, ask("leave 0", "text 0", "text 3", "join 0", "join 0"), "ok", "no 5", "text x yb.", "ok", "no 6")
}

// What a line asks for is one step of the desks, with just these numbers.
func TestSteps(t *testing.T) {
	for line, s := range map[string]api.Step{
		"put 0 2 q r": {Kind: api.SPut, W: 0, At: 2, Text: "q r"},
		"put 1 3 q":   {Kind: api.SPut, W: 1, At: 3, Text: "q"},
		"take 0 1 2":  {Kind: api.STake, W: 0, At: 1, Many: 2},
		"take 1 2 1":  {Kind: api.STake, W: 1, At: 2, Many: 1},
		"join 2":      {Kind: api.SJoin, W: 2},
		"send 0":      {Kind: api.SSend, W: 0},
		"send 1":      {Kind: api.SSend, W: 1},
		"hear 0":      {Kind: api.SHear, W: 0},
		"hear 3":      {Kind: api.SHear, W: 3},
		"leave 1":     {Kind: api.SLeave, W: 1},
		"leave 3":     {Kind: api.SLeave, W: 3},
	} {
		asked, done, was := busy(t), busy(t), state(busy(t))
		allOk(t, asked, line)
		if code := done.desks.Do(s); code != 0 || state(asked) != state(done) || state(done) == was {
			t.Errorf("%q: %s\nwant %d: %s", line, state(asked), code, state(done))
		}
	}
	asked, done := busy(t), busy(t)
	allOk(t, asked, "settle")
	done.desks.Settle()
	if state(asked) != state(done) {
		t.Errorf("settle: %s\nwant: %s", state(asked), state(done))
	}
	for _, d := range []*Desk{asked, done} {
		if len(d.desks.Writer(3).Chars()) == len(d.desks.Text()) {
			t.Error("there is nothing to forget")
		}
	}
	allOk(t, asked, "clear 3")
	done.desks.Do(api.Step{Kind: api.SClear, W: 3})
	if state(asked) != state(done) || len(asked.desks.Writer(3).Chars()) != len(asked.desks.Text()) {
		t.Errorf("clear: %s\nwant: %s", state(asked), state(done))
	}
}

// What only tells changes nothing.
func TestTellsOnly(t *testing.T) {
	d := busy(t)
	tellsNoChange(t, d, "text B12c\n", "text")
	tellsNoChange(t, d, "text x yabc\n", "text 0")
	tellsNoChange(t, d, "text 12 z c\n", "text 1")
	tellsNoChange(t, d, "text abc\n", "text 3")
	tellsNoChange(t, d, "least 1 4\n", "least")
	tellsNoChange(t, d, "put 0 1 0 0 abc\ntake 1 1 1 0 2\nput 1 2 1 0 12\nput 0 2 1 0 B\nend\n", "log")
	tellsNoChange(t, d, "put 0 2 1 0 B\nput 0 3 1 1 x y\ntake 0 4 1 0 1\nend\n", "open 0")
	tellsNoChange(t, d, "take 1 1 1 0 2\nput 1 2 1 0 12\nput 1 3 1 2  z \nend\n", "open 1")
	tellsNoChange(t, d, "end\n", "open 3")
	tellsNoChange(t, d, "text \nby\n", "then 0")
	tellsNoChange(t, d, "text abc\nby 0 0 0\n", "then 1")
	tellsNoChange(t, d, "text c\nby 0\n", "then 2")
	tellsNoChange(t, d, "text 12c\nby 1 1 0\n", "then 3")
	tellsNoChange(t, d, "text B12c\nby 0 1 1 0\n", "then 4")
}

// A step that is refused tells why, and the lines behind it go on.
func TestRefused(t *testing.T) {
	tells(t, New(),
		ask("join 4", "join 0", "join 0", "send 0", "hear 0", "put 0 1 a", "put 0 0 a\x7f", "put 0 0 ", "put 0 0 "+strings.Repeat("a", 21), "take 0 0 1", "take 0 0 0", "text 1", "open 1", "then 1", "leave 1", "put 0 0 a", "send 0", "text"),
		"no 1", "ok", "no 6", "no 5", "no 5", "no 1", "no 4", "no 4", "no 4", "no 1", "no 1", "no 5", "no 5", "no 5", "no 5", "ok", "ok", "text a")
	d := busy(t)
	tellsNoChange(t, d, "no 1\n", "join 4", "join -1", "put 0 8 a", "put 0 -1 a", "take 0 0 8", "take 0 7 1", "take 0 0 0", "take 0 0 -1", "take 0 -1 1")
	tellsNoChange(t, d, "no 4\n", "put 0 0 ", "put 0 0 "+strings.Repeat("a", 21), "put 0 0 \x00", "put 0 0 \x1f", "put 0 0 \x7f", "put 0 0 \t", "put 0 0 \r", "put 0 0 \xff", "put 0 0 é")
	tellsNoChange(t, d, "no 5\n", "send 3", "hear 2", "send 2", "text 2", "open 2", "clear 2", "leave 2", "take 2 0 1", "put 2 0 a", "put 2 9 ", "then 5", "then -1")
	tellsNoChange(t, d, "no 6\n", "join 0", "join 1", "join 3")
	tells(t, d, ask("send 3", "what", "put 3 0 a", "put 3 9 a", "put 3 1 b", "text 3"), "no 5", "what", "ok", "no 1", "ok", "text ababc")
}

// fill lets a writer that is there put in that many bytes, and send them.
func fill(t *testing.T, d *Desk, w, bytes int) {
	t.Helper()
	for bytes > 0 {
		n := min(bytes, api.MaxPut)
		allOk(t, d, fmt.Sprintf("put %d 0 %s", w, strings.Repeat("f", n)), fmt.Sprintf("send %d", w))
		bytes -= n
	}
}

// Who has no room for what it hears goes, and so does who brings what the log has no room for: that is told as any other code is.
func TestFull(t *testing.T) {
	d := New()
	allOk(t, d, "join 0", "join 1", "join 2")
	fill(t, d, 0, api.MaxChars-1)
	allOk(t, d, "put 1 0 a", "put 2 0 bc", "put 0 0 z")
	tells(t, d, ask("put 0 0 y", "text 0"), "no 9", "text z"+strings.Repeat("f", api.MaxChars-1))
	tells(t, d, ask("send 2", "text 2", "join 2", "text 2"), "no 9", "no 5", "ok", "text "+strings.Repeat("f", api.MaxChars-1))
	allOk(t, d, "send 0")
	hears := slices.Repeat(ask("hear 1"), 11)
	tells(t, d, append(hears, "text 1", "hear 1"), append(slices.Repeat(ask("ok"), 10), "no 9", "no 5", "no 5")...)

	d = New()
	allOk(t, d, "join 3")
	for range api.MaxLog / 2 {
		allOk(t, d, "put 3 0 a", "take 3 0 1", "send 3", "send 3")
	}
	allOk(t, d, "join 1", "put 1 0 b")
	tells(t, d, ask("put 3 0 a", "send 1", "text 1", "text", "least", "settle", "least", "then 119", "then 120", "then 121"),
		"no 1", "no 9", "no 5", "text ", "least 0 120", "ok", "least 120 120", "text a", "by 3", "text ", "by", "no 5")
	if lines := strings.Split(told(t, d, "log"), "\n"); len(lines) != api.MaxLog+2 || lines[119] != "take 3 120 0 0 1" || lines[120] != "end" {
		t.Errorf("log of %d deeds: %q", api.MaxLog, lines)
	}
}

// put has just one blank ahead of each of W, A and T, and T is all that is behind the third one.
func TestPut(t *testing.T) {
	for _, text := range []string{"a", "a b", " ", "  ", " a", "a ", "  a  b  ", "1", "0 0", "put 0 0 a", "~!\"#$%&'()*+,-./", strings.Repeat(" ", api.MaxPut), strings.Repeat("m", api.MaxPut)} {
		d := New()
		tells(t, d, ask("join 2", "put 2 0 .", "put 2 1 "+text, "text 2", "open 2"), "ok", "ok", "ok", "text ."+text, "put 2 1 0 0 .", "put 2 2 0 1 "+text, "end")
		tells(t, d, ask("settle", "text", "log", "then 2"), "ok", "text ."+text, "put 2 1 0 0 .", "put 2 2 0 1 "+text, "end", "text ."+text, "by"+strings.Repeat(" 2", 1+len(text)))
	}
	tellsNoChange(t, busy(t), "what\n",
		"put", "put ", "put  ", "put 0", "put 0 ", "put 0 0", "put00a", "put 00 a", "put0 0 a", "put 0 a", "put 0  a", "put a 0 0", "put 0 a 0",
		" put 0 0 a", "  put 0 0 a", "put  0 0 a", "put 0  0 a", "put  0  0  a", "put   0 0 a", " put 0 0 ", "put  0 0 1", "put 0  0 1", " put 0 0 1", "put  0 0", "put 0  0", "  put 0 0",
		"put\t0 0 a", "put 0\t0 a", "put 0 0\ta", "\tput 0 0 a", "put\x000 0 a", "put 0 0\x00a", "put\u00a00 0 a", "Put 0 0 a", "PUT 0 0 a", "puT 0 0 a", "puts 0 0 a", "pu 0 0 a", "pput 0 0 a", "\"put\" 0 0 a", "put: 0 0 a")
	tellsNoChange(t, busy(t), "no 4\n", "put 0 0 ", "put 0 0 \x00", "put 0 0 a\x00", "put 0 0 "+strings.Repeat(" ", api.MaxPut+1), "put 0 0 "+strings.Repeat(" ", 100000))
}

// sure: lines but put that ask for something, and change nothing of a busy desk.
var sure = []string{"take 0 0 99", "take 1 -1 1", "join 0", "send 3", "hear 2", "clear 0", "leave 2", "text 0", "text 2", "text", "open 1", "open 2", "log", "then 3", "then 9", "least"}

// spread is the words with blanks between, ahead and behind.
func spread(line, between, ahead, behind string) string {
	return ahead + strings.ReplaceAll(line, " ", between) + behind
}

// In lines but put there may be more blanks, wherever there is one or none.
func TestBlanks(t *testing.T) {
	d := busy(t)
	for _, line := range sure {
		want := told(t, d, line)
		if want == "what\n" || want == "" {
			t.Fatalf("%q: told %q", line, want)
		}
		tellsNoChange(t, d, want, " "+line, line+" ", spread(line, "  ", "", ""), spread(line, "   ", "  ", "     "), spread(line, strings.Repeat(" ", 1000), strings.Repeat(" ", 999), strings.Repeat(" ", 1001)))
	}
	for _, line := range []string{"take  0 1  1 ", " take 0 1  1", "  send   1  ", "hear 3 ", "  hear   0", " leave  1", "join    2", "  settle ", "settle    "} {
		asked, plainly := busy(t), busy(t)
		allOk(t, asked, line)
		allOk(t, plainly, strings.Join(strings.Fields(line), " "))
		if state(asked) != state(plainly) || state(asked) == state(busy(t)) {
			t.Errorf("%q: %s\nwant: %s", line, state(asked), state(plainly))
		}
	}
}

// Only byte 32 is a blank: what has other white bytes is one word with them.
func TestOtherBlanks(t *testing.T) {
	d := busy(t)
	for _, white := range []string{"\t", "\r", "\v", "\f", "\x00", "\x1f", "\x7f", "\x80", "\x85", "\xa0", "\xc2", "\xff", "\u0085", "\u00a0", "\u1680", "\u2000", "\u2003", "\u2028", "\u2029", "\u202f", "\u205f", "\u3000", "\ufeff", "_", ",", "+"} {
		tellsNoChange(t, d, "what\n", white, " "+white, white+" ", white+white, "  "+white+"  "+white)
		for _, line := range append(sure, "settle", "take 0 0 1", "join 2", "send 1", "leave 0", "hear 0") {
			tellsNoChange(t, d, "what\n", white+line, line+white, white+" "+line, line+" "+white)
			if strings.Contains(line, " ") {
				tellsNoChange(t, d, "what\n", spread(line, white, "", ""), spread(line, " "+white, "", ""), spread(line, white+" ", "", ""), spread(line, " "+white+" ", "", ""))
			}
		}
	}
}

// Words too many and too few, of another case, and words that are none.
func TestWhat(t *testing.T) {
	d := busy(t)
	for _, word := range ofAll {
		tellsNoChange(t, d, "what\n", word+" 0 0", word+" 0 0 0", word+" 0 0 1", word+" a", word+" "+word)
		if word != "text" {
			tellsNoChange(t, d, "what\n", word+" 0", word+" 1", word+" -1")
		}
	}
	for _, word := range ofOne {
		tellsNoChange(t, d, "what\n", word+" 0 0", word+" 0 1", word+" 0 1 1", word+" 0 0 0 0", word+" 0 a", word+" 0 0 a", word+" a 0", word+" "+word, word+"0", word+word+" 0", "0 "+word)
		if word != "text" {
			tellsNoChange(t, d, "what\n", word, " "+word, word+"  ")
		}
	}
	tellsNoChange(t, d, "what\n", "take", "take 0", "take 0 0", "take 0 0 1 0", "take 0 0 1 1 1", "take 0 0 1 a", "take a 0 1", "take 0 a 1", "take 0 0 a", "take 0 0 1"+strings.Repeat(" 0", 1000))
	for _, line := range append(sure, "settle", "take 0 0 1", "join 2", "send 1", "leave 0", "hear 0", "put 0 0 a") {
		tellsNoChange(t, d, "what\n", strings.ToUpper(line), strings.ToUpper(line[:1])+line[1:], line[1:], line[:1]+line, "x"+line, "x "+line, "0 "+line)
	}
	tellsNoChange(t, d, "what\n", "what", "ok", "no", "no 5", "end", "by", "by 0 0", "text text", "x", "0", "-", "0 0", "1 2 3 4 5 6 7", "\x00", "\xff\xfe", "é", "log log", "put0", "quit", "help", "say a", "writer 0", "len", "here 0", "known 0", "seen 0", "chars", strings.Repeat("x", 100000), strings.Repeat("x ", 100000), strings.Repeat("0 ", 100000))
}

// holes: lines with a number at each place that a line has one. What is asked of number 0 or 1 there is no `what`.
var holes = []string{"put # 0 a", "put 0 # a", "put # #  ", "take # 0 1", "take 0 # 1", "take 0 0 #", "take # # #", "join #", "send #", "hear #", "clear #", "leave #", "text #", "open #", "then #"}

// Numbers are as short as can be, and of 64 bits, at each place.
func TestNumbers(t *testing.T) {
	for _, hole := range holes {
		d := busy(t)
		for _, word := range noNumbers {
			tellsNoChange(t, d, "what\n", strings.ReplaceAll(hole, "#", word))
		}
		for _, n := range append([]int{0, 1, 2, 3, 4, 10, 20, 119, 120, 121, 199, 200}, far...) {
			line := strings.ReplaceAll(hole, "#", strconv.Itoa(n))
			asked, c := busy(t), clerkOf(busy(t))
			if got, want := told(t, asked, line), c.answer(line); got != want || got == "what\n" || state(asked) != c.state() {
				t.Errorf("%q: %q, want %q: %s\nwant %s", line, got, want, state(asked), c.state())
			}
		}
	}
	tellsNoChange(t, busy(t), "no 5\n", "then 9223372036854775807", "then -9223372036854775808", "text 9223372036854775807", "text -9223372036854775808", "open 9223372036854775807", "put 9223372036854775807 0 a", "take -9223372036854775808 0 1")
	tellsNoChange(t, busy(t), "no 1\n", "join 9223372036854775807", "join -9223372036854775808", "put 0 9223372036854775807 a", "put 0 -9223372036854775808 a", "take 0 9223372036854775807 1", "take 0 0 9223372036854775807", "take 0 9223372036854775807 9223372036854775807", "take 0 -9223372036854775808 1", "take 0 0 -9223372036854775808")
}

// One that is not there, and one that is none, for each line that asks for a writer.
func TestNobody(t *testing.T) {
	d := busy(t)
	for _, w := range append([]int{2}, noWriters...) {
		n := strconv.Itoa(w)
		tellsNoChange(t, d, "no 5\n", "text "+n, "open "+n, "send "+n, "hear "+n, "clear "+n, "leave "+n, "put "+n+" 0 a", "put "+n+" 999 ", "take "+n+" 0 1", "take "+n+" -1 -1")
		if w != 2 {
			tellsNoChange(t, d, "no 1\n", "join "+n)
		}
	}
	allOk(t, d, "leave 0")
	tellsNoChange(t, d, "no 5\n", "text 0", "open 0", "send 0", "hear 0", "clear 0", "leave 0", "put 0 0 a", "take 0 0 1")
	tells(t, d, ask("text 1", "join 0", "text 0", "open 0"), "text 12 z c", "ok", "text B12c", "end")
}

func TestThen(t *testing.T) {
	d := busy(t)
	tellsNoChange(t, d, "no 5\n", "then 5", "then 6", "then -1", "then -4")
	for _, n := range far {
		tellsNoChange(t, d, "no 5\n", "then "+strconv.Itoa(n))
	}
	tells(t, d, ask("send 1", "then 4", "then 5", "then 6"), "ok", "text B12c", "by 0 1 1 0", "text B12 z c", "by 0 1 1 1 1 1 0", "no 5")
	tells(t, New(), ask("join 0", "put 0 0 a", "then 0", "then 1", "send 0", "then 1", "then 2"), "ok", "ok", "text ", "by", "no 5", "ok", "text a", "by 0", "no 5")
}

func TestLogAndOpenWithoutDeeds(t *testing.T) {
	d := New()
	tells(t, d, ask("log", "join 1", "log", "open 1", "put 1 0 a", "log", "take 1 0 1", "open 1", "settle", "open 1", "log", "leave 1", "open 1"),
		"end", "ok", "end", "end", "ok", "end", "ok", "put 1 1 0 0 a", "take 1 2 0 0 1", "end", "ok", "end", "put 1 1 0 0 a", "take 1 2 0 0 1", "end", "ok", "no 5")
}

// faulty holds that the lines have just that fault, that nothing is told with it, and nothing done.
func faulty(t *testing.T, d *Desk, lines []string, want api.Fault) {
	t.Helper()
	was := state(d)
	if text, f := d.Do(lines); text != "" || f != want {
		t.Errorf("%.200q: %q %+v, want %+v", lines, text, f, want)
	}
	if state(d) != was {
		t.Errorf("%.200q changed: %s\nwas: %s", lines, state(d), was)
	}
}

func TestTooManyLines(t *testing.T) {
	d := busy(t)
	tooMany := api.Fault{Code: api.ErrMany, At: -1}
	for _, many := range []int{api.MaxLines + 1, api.MaxLines + 2, 2 * api.MaxLines, 100000} {
		faulty(t, d, make([]string, many), tooMany)
		faulty(t, d, slices.Repeat(ask("settle"), many), tooMany)
		// It is told ahead of a line with a newline in it.
		faulty(t, d, slices.Repeat(ask("put 0 0 a", "a\nb"), (many+1)/2), tooMany)
	}
	faulty(t, d, append(make([]string, api.MaxLines), "\n"), tooMany)
	for _, many := range []int{1, 2, api.MaxLines - 1, api.MaxLines} {
		allOk(t, d, slices.Repeat(ask("settle"), many)...)
	}
}

func TestNewline(t *testing.T) {
	d := busy(t)
	for _, bad := range []string{"\n", "\n\n", "a\nb", "settle\n", "\nsettle", "send 1\n", "put 0 0 a\n", "put 0 0 a\nb", "put 0 0 \n", "put\n0 0 a", " \n ", "text\nlog", "\r\n", "\x00\n", "\xff\n\xff", strings.Repeat(" ", 100000) + "\n"} {
		faulty(t, d, ask(bad), api.Fault{Code: api.ErrLine, At: 0})
		faulty(t, d, ask(bad, "send 1"), api.Fault{Code: api.ErrLine, At: 0})
		faulty(t, d, ask("send 1", bad), api.Fault{Code: api.ErrLine, At: 1})
		faulty(t, d, ask("send 1", "settle", "join 2", bad, "log"), api.Fault{Code: api.ErrLine, At: 3})
		faulty(t, d, ask("what", "", bad, "log", bad), api.Fault{Code: api.ErrLine, At: 2})
		faulty(t, d, slices.Repeat(ask(bad), 7), api.Fault{Code: api.ErrLine, At: 0})
		for _, at := range []int{0, 1, 74, api.MaxLines - 2, api.MaxLines - 1} {
			lines := slices.Repeat(ask("settle"), api.MaxLines)
			lines[at], lines[api.MaxLines-1] = bad, bad
			faulty(t, d, lines, api.Fault{Code: api.ErrLine, At: at})
		}
	}
	tells(t, d, ask("a\rb", "\\n", "a\\nb", "\u2028", "\u0085", "text"), "what", "what", "what", "what", "what", "text B12c")
}

// A Do that ends in a fault leaves nothing behind, not even what its lines would have told.
func TestFaultBetween(t *testing.T) {
	d := New()
	tells(t, d, ask("join 0", "put 0 0 ab"), "ok", "ok")
	faulty(t, d, ask("put 0 0 c", "text 0", "\n"), api.Fault{Code: api.ErrLine, At: 2})
	faulty(t, d, make([]string, api.MaxLines+1), api.Fault{Code: api.ErrMany, At: -1})
	tells(t, d, ask("text 0", "open 0"), "text ab", "put 0 1 0 0 ab", "end")
}

// What two Do tell one behind the other one Do of both tells, wherever they are split.
func TestTwoDo(t *testing.T) {
	lines := ask("join 0", "join 1", "put 0 0 ab", "what", "", "put 1 0 c", "open 1", "send 0", "log", "hear 1", "text 1", "then 1", "settle", "text 0", "take 0 1 2", "no 5", "text 9", "open 0", "settle", "clear 1", "leave 0", "least", "text", "then 3")
	both := New()
	want := told(t, both, lines...)
	for at := range len(lines) + 1 {
		d := New()
		one := told(t, d, lines[:at]...)
		faulty(t, d, ask("settle", "leave 1", "a\nb"), api.Fault{Code: api.ErrLine, At: 2})
		two := told(t, d, lines[at:]...)
		if one+two != want || state(d) != state(both) {
			t.Errorf("split at %d: %q and %q, want %q", at, one, two, want)
		}
	}
	single, text := New(), ""
	for _, line := range lines {
		text += told(t, single, line)
	}
	if text != want || state(single) != state(both) {
		t.Errorf("one by one: %q, want %q", text, want)
	}
}

// Two desks know nothing of each other.
func TestTwoDesks(t *testing.T) {
	one, two := New(), New()
	if one == two {
		t.Fatal("both are one")
	}
	tells(t, one, ask("join 0", "put 0 0 ab", "send 0"), "ok", "ok", "ok")
	tells(t, two, ask("text", "log", "text 0", "least", "then 1"), "text ", "end", "no 5", "least 0 0", "no 5")
	tells(t, two, ask("join 0", "join 1", "put 0 0 xyz", "settle"), "ok", "ok", "ok", "ok")
	tells(t, one, ask("text", "text 0", "text 1", "least", "hear 0", "leave 0"), "text ab", "text ab", "no 5", "least 0 1", "ok", "ok")
	tells(t, two, ask("text", "text 0", "text 1", "least"), "text xyz", "text xyz", "text xyz", "least 1 1")
	if _, f := one.Do(ask("\n")); f.Code != api.ErrLine {
		t.Errorf("%+v", f)
	}
	tells(t, two, ask("text"), "text xyz")
}

// What is handed in is neither changed nor kept, and what lies behind its length is neither read nor written.
func TestHandedIn(t *testing.T) {
	d := New()
	memory := ask("join 0", "put 0 0 ab", "  text   0 ", "send 0", "a\nb", "leave 0")
	was := slices.Clone(memory)
	tells(t, d, memory[:4], "ok", "ok", "text ab", "ok")
	if !slices.Equal(memory, was) {
		t.Errorf("the lines are %q, and were %q", memory, was)
	}
	clear(memory)
	tells(t, d, ask("text", "text 0", "log"), "text ab", "text ab", "put 0 1 0 0 ab", "end")

	// The bytes of a line are the test's own here: were the line kept, what is told later would change with them.
	bytes := []byte("put 0 1 cdef")
	tells(t, d, ask(unsafe.String(&bytes[0], len(bytes)), "text 0"), "ok", "text acdefb")
	for i := range bytes {
		bytes[i] = '?'
	}
	tells(t, d, ask("open 0", "settle", "text", "text 0", "log"), "put 0 1 0 0 ab", "put 0 2 0 1 cdef", "end", "ok", "text acdefb", "text acdefb", "put 0 1 0 0 ab", "put 0 2 0 1 cdef", "end")
}

// What was told stays as it was, whatever is asked later.
func TestToldStays(t *testing.T) {
	d := New()
	first := told(t, d, "join 0", "put 0 0 ab", "text 0")
	second := told(t, d, "text 0", "open 0")
	was := []string{strings.Clone(first), strings.Clone(second)}
	for range 20 {
		told(t, d, "take 0 0 1", "put 0 0 x", "text 0", "log", "open 0", "settle")
	}
	if first != was[0] || second != was[1] || first != "ok\nok\ntext ab\n" || second != "text ab\nput 0 1 0 0 ab\nend\n" {
		t.Errorf("told was %q, is %q", was, []string{first, second})
	}
}
