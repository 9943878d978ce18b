package desks

import (
	"fmt"
	"math"
	"slices"
	"strings"
	"testing"
	"unsafe"

	"quillwork/api"
	"quillwork/clear"
	"quillwork/deed"
	"quillwork/writer"
)

// far: numbers that are beyond every bound, as far as both ends of int.
var far = []int{math.MinInt, math.MinInt + 1, -1 << 32, -api.Open, -2, -1, 201, api.Open - 1, api.Open, api.Open + 1, 1 << 32, 1 << 62, math.MaxInt - 1, math.MaxInt}

// noWriters: numbers of nobody, right beside those of writers and far off.
var noWriters = append([]int{api.MaxWriters, api.MaxWriters + 1, 63, 64}, far...)

// noKinds: kinds of no step, right beside those of steps and far off.
var noKinds = append([]int{0, api.SLeave + 1, api.SLeave + 2, 64}, far...)

// byThere: the kinds of steps that only one that is there can do.
var byThere = []int{api.SPut, api.STake, api.SSend, api.SHear, api.SClear, api.SLeave}

func join(w int) api.Step                 { return api.Step{Kind: api.SJoin, W: w} }
func put(w, at int, text string) api.Step { return api.Step{Kind: api.SPut, W: w, At: at, Text: text} }
func take(w, at, many int) api.Step       { return api.Step{Kind: api.STake, W: w, At: at, Many: many} }
func send(w int) api.Step                 { return api.Step{Kind: api.SSend, W: w} }
func hear(w int) api.Step                 { return api.Step{Kind: api.SHear, W: w} }
func forget(w int) api.Step               { return api.Step{Kind: api.SClear, W: w} }
func leave(w int) api.Step                { return api.Step{Kind: api.SLeave, W: w} }

func puts(by, no, seen, at int, text string) api.Deed {
	return api.Deed{Kind: api.DPut, By: by, No: no, Seen: seen, At: at, Text: text}
}

func takes(by, no, seen, at, many int) api.Deed {
	return api.Deed{Kind: api.DTake, By: by, No: no, Seen: seen, At: at, Many: many}
}

// teller is what may be asked of a log, and of desks.
type teller interface {
	Len() int
	Here(w int) bool
	Least() int
	Deed(n int) (api.Deed, bool)
	Chars() []api.Char
	Text() string
}

// deedsOf is all deeds that it tells.
func deedsOf(g teller) []api.Deed {
	var deeds []api.Deed
	for n := 1; n <= g.Len(); n++ {
		d, _ := g.Deed(n)
		deeds = append(deeds, d)
	}
	return deeds
}

// toldOfWriter is all that may be learnt of a writer.
func toldOfWriter(w *writer.Writer) string {
	if w == nil {
		return "nobody"
	}
	return fmt.Sprintf("seen %d least %d text %q open %+v chars %+v known %+v", w.Seen(), w.Least(), w.Text(), w.Open(), w.Chars(), w.Known())
}

// toldOfLog is all that may be learnt of the log.
func toldOfLog(d *Desks) string {
	here := ""
	for w := range api.MaxWriters {
		here += fmt.Sprint(d.Here(w), " ")
	}
	return fmt.Sprintf("here %s least %d text %q deeds %+v chars %+v", here, d.Least(), d.Text(), deedsOf(d), d.Chars())
}

// told is all that may be learnt of desks.
func told(d *Desks) string {
	text := toldOfLog(d)
	for w := range api.MaxWriters {
		text += fmt.Sprintf("\n%d: %s", w, toldOfWriter(d.Writer(w)))
	}
	return text
}

// does lets steps be done that must be able to.
func does(t *testing.T, d *Desks, steps ...api.Step) {
	t.Helper()
	for _, s := range steps {
		if code := d.Do(s); code != 0 {
			t.Fatalf("%+v: %d", s, code)
		}
	}
}

// refuses lets steps be tried that must have that code, each of which changes nothing.
func refuses(t *testing.T, d *Desks, code int, steps ...api.Step) {
	t.Helper()
	for _, s := range steps {
		was := told(d)
		if got := d.Do(s); got != code {
			t.Errorf("%+v: %d, want %d", s, got, code)
		}
		if told(d) != was {
			t.Errorf("%+v changed: %s\nwas: %s", s, told(d), was)
		}
	}
}

// goesWith lets a step be tried that must have that code, with which its writer goes: the deeds, and all others, stay as they were.
func goesWith(t *testing.T, d *Desks, code int, s api.Step) {
	t.Helper()
	deeds, list, text := deedsOf(d), d.Chars(), d.Text()
	var others [api.MaxWriters]string
	for w := range others {
		others[w] = toldOfWriter(d.Writer(w))
	}
	if got := d.Do(s); got != code {
		t.Errorf("%+v: %d, want %d", s, got, code)
	}
	if !slices.Equal(deedsOf(d), deeds) || !slices.Equal(d.Chars(), list) || d.Text() != text {
		t.Errorf("%+v changed the log: %s", s, toldOfLog(d))
	}
	for w, was := range others {
		if w == s.W {
			was = "nobody"
		}
		if got := toldOfWriter(d.Writer(w)); got != was || d.Here(w) != (was != "nobody") {
			t.Errorf("%+v: %d is %s, want %s; here: %v", s, w, got, was, d.Here(w))
		}
	}
}

// sees holds what each that is there sees, and what the log says, against texts; - is one that is not there.
func sees(t *testing.T, d *Desks, text string, texts ...string) {
	t.Helper()
	if d.Text() != text {
		t.Errorf("the log says %q, want %q", d.Text(), text)
	}
	for w, want := range texts {
		got := "-"
		if at := d.Writer(w); at != nil {
			got = at.Text()
		}
		if got != want {
			t.Errorf("%d sees %q, want %q", w, got, want)
		}
	}
}

// settled holds that all see the log's text, and that there is nothing more to settle.
func settled(t *testing.T, d *Desks) {
	t.Helper()
	for w := range api.MaxWriters {
		at := d.Writer(w)
		if at != nil && (at.Text() != d.Text() || len(at.Open()) != 0 || at.Seen() != d.Len() || at.Least() != d.Len()) {
			t.Fatalf("%d, the log says %q and has %d: %s", w, d.Text(), d.Len(), toldOfWriter(at))
		}
	}
	if d.Least() != d.Len() {
		t.Fatalf("all has been seen as far as %d of %d", d.Least(), d.Len())
	}
	was := told(d)
	d.Settle()
	if told(d) != was {
		t.Fatalf("to settle once more changed: %s\nwas: %s", told(d), was)
	}
}

// settle settles, and holds what must be so then.
func settle(t *testing.T, d *Desks) {
	t.Helper()
	d.Settle()
	settled(t, d)
}

// letters of all bytes of the list, seen or not.
func letters(l []api.Char) string {
	var text []byte
	for _, c := range l {
		text = append(text, c.C)
	}
	return string(text)
}

// busy is desks of 0, 1 and 2, of which each has seen the log otherwise: 0 has heard two deeds of three, 1 all, 2 none. 0 has a deed that was not sent and 2 one that was; 3 went.
func busy(t *testing.T) *Desks {
	t.Helper()
	d := New()
	does(t, d, join(0), join(1), join(2), join(3), put(0, 0, "abc"), send(0), hear(0), hear(1), hear(3))
	does(t, d, take(1, 1, 1), put(2, 0, "x"), send(1), send(2), leave(3), hear(0), put(0, 2, "y"), hear(1), hear(1))
	sees(t, d, "xac", "acy", "xac", "x", "-")
	return d
}

func TestNew(t *testing.T) {
	d := New()
	if d.Len() != 0 || d.Least() != 0 || d.Text() != "" || len(d.Chars()) != 0 {
		t.Errorf("%s", toldOfLog(d))
	}
	for _, w := range append([]int{0, 1, 2, 3}, noWriters...) {
		if d.Here(w) || d.Writer(w) != nil {
			t.Errorf("%d is there", w)
		}
		if x, ok := d.Deed(w); ok || x != (api.Deed{}) {
			t.Errorf("Deed(%d): %+v", w, x)
		}
	}
}

// Who is at a desk is there in the log, too; what is no writer has no desk.
func TestWriter(t *testing.T) {
	d := busy(t)
	for w, there := range []bool{true, true, true, false} {
		if d.Here(w) != there || (d.Writer(w) != nil) != there {
			t.Errorf("%d: %v, want %v: %s", w, d.Here(w), there, toldOfWriter(d.Writer(w)))
		}
		if d.Writer(w) != d.Writer(w) {
			t.Errorf("%d is another one each time", w)
		}
	}
	for _, w := range noWriters {
		if d.Writer(w) != nil {
			t.Errorf("%d is there", w)
		}
	}
}

// Who is asked for ahead of a step is still the one at the desk behind it, until it goes; then nothing more comes to it.
func TestWriterAtItsDesk(t *testing.T) {
	d := New()
	does(t, d, join(0), join(1))
	old := d.Writer(0)
	does(t, d, put(0, 0, "ab"), put(1, 0, "c"), send(1), send(0), hear(0))
	if old != d.Writer(0) || old.Text() != "abc" {
		t.Errorf("%s", toldOfWriter(old))
	}
	was := toldOfWriter(old)
	does(t, d, leave(0), join(0), put(0, 0, "x"))
	d.Settle()
	if d.Writer(0) == old || toldOfWriter(old) != was {
		t.Errorf("the one that went: %s, was %s", toldOfWriter(old), was)
	}
	sees(t, d, "xabc", "xabc", "xabc")
}

func TestJoin(t *testing.T) {
	d := New()
	for w := range api.MaxWriters {
		does(t, d, join(w))
		if at := d.Writer(w); !d.Here(w) || toldOfWriter(at) != toldOfWriter(writer.New(w, 1, 0, nil)) {
			t.Errorf("%d: %s", w, toldOfWriter(at))
		}
		for other := range api.MaxWriters {
			if d.Here(other) != (other <= w) || (d.Writer(other) != nil) != (other <= w) {
				t.Errorf("%d came, and %d is there: %v", w, other, d.Here(other))
			}
		}
		refuses(t, d, api.ErrThere, join(w))
	}
	for _, d := range []*Desks{d, New(), busy(t)} {
		for _, w := range noWriters {
			refuses(t, d, api.ErrRange, join(w))
		}
	}
	for w := range 3 {
		refuses(t, busy(t), api.ErrThere, join(w))
	}
}

// One that comes late has seen all, and has the whole list of the log.
func TestJoinLate(t *testing.T) {
	d := busy(t)
	does(t, d, join(3))
	at := d.Writer(3)
	if at.Text() != "xac" || at.Seen() != 3 || at.Least() != 3 || len(at.Open()) != 0 {
		t.Errorf("%s", toldOfWriter(at))
	}
	if !slices.Equal(at.Chars(), d.Chars()) || !slices.Equal(at.Known(), d.Chars()) || letters(at.Chars()) != "xabc" {
		t.Errorf("%+v, the log has %+v", at.Chars(), d.Chars())
	}
	refuses(t, d, api.ErrNone, hear(3), send(3))
	// It has said that it has seen all: 0 and 2 alone hold the least down.
	if d.Least() != 0 {
		t.Errorf("least %d", d.Least())
	}
	does(t, d, leave(0), leave(2))
	if d.Least() != 3 {
		t.Errorf("least %d", d.Least())
	}
	does(t, d, put(3, 2, "+"))
	settle(t, d)
	sees(t, d, "xa+c", "-", "xa+c", "-", "xa+c")
}

// Who comes again goes on with its next number: one above that of its last deed that came to the log.
func TestJoinAgain(t *testing.T) {
	d := New()
	does(t, d, join(2), leave(2), join(2), put(2, 0, "a"), send(2), put(2, 1, "b"), send(2), put(2, 2, "c"), leave(2))
	sees(t, d, "ab", "-", "-", "-", "-")
	does(t, d, join(2), put(2, 2, "d"))
	if open := d.Writer(2).Open(); !slices.Equal(open, []api.Deed{puts(2, 3, 2, 2, "d")}) {
		t.Errorf("open: %+v", open)
	}
	does(t, d, send(2), hear(2), leave(2), join(0), join(2), put(0, 0, "x"), put(2, 0, "y"), take(2, 1, 1))
	if open := d.Writer(2).Open(); !slices.Equal(open, []api.Deed{puts(2, 4, 3, 0, "y"), takes(2, 5, 3, 1, 1)}) {
		t.Errorf("open: %+v", open)
	}
	settle(t, d)
	want := []api.Deed{puts(2, 1, 0, 0, "a"), puts(2, 2, 0, 1, "b"), puts(2, 3, 2, 2, "d"), puts(0, 1, 3, 0, "x"), puts(2, 4, 3, 0, "y"), takes(2, 5, 3, 1, 1)}
	if deeds := deedsOf(d); !slices.Equal(deeds, want) {
		t.Errorf("deeds: %+v, want %+v", deeds, want)
	}
	sees(t, d, "yxbd", "yxbd", "-", "yxbd", "-")
}

// That there is no such kind is told ahead of all else, whoever does it.
func TestNoKind(t *testing.T) {
	for _, d := range []*Desks{New(), busy(t)} {
		for _, kind := range noKinds {
			for _, w := range append([]int{0, 1, 2, 3}, noWriters...) {
				refuses(t, d, api.ErrKind, api.Step{Kind: kind, W: w}, api.Step{Kind: kind, W: w, At: 1, Many: 1, Text: "a"}, api.Step{Kind: kind, W: w, At: -1, Many: -1, Text: "\n"})
			}
		}
	}
}

// That one is not there is told ahead of all else that its step would meet.
func TestNotThere(t *testing.T) {
	gone := busy(t)
	for w := range api.MaxWriters {
		gone.Do(leave(w))
	}
	for _, x := range []struct {
		d     *Desks
		there []int
	}{{New(), nil}, {busy(t), []int{0, 1, 2}}, {gone, nil}} {
		for _, w := range append([]int{0, 1, 2, 3}, noWriters...) {
			if slices.Contains(x.there, w) {
				continue
			}
			for _, kind := range byThere {
				refuses(t, x.d, api.ErrNone, api.Step{Kind: kind, W: w}, api.Step{Kind: kind, W: w, Many: 1, Text: "a"}, api.Step{Kind: kind, W: w, At: math.MaxInt, Many: math.MinInt, Text: "\n"})
			}
		}
	}
}

func TestPut(t *testing.T) {
	d := busy(t)
	was := toldOfLog(d)
	does(t, d, put(1, 0, "<"), put(1, 4, ">"), put(1, 2, " ~"))
	sees(t, d, "xac", "acy", "<x ~ac>", "x", "-")
	if open := d.Writer(1).Open(); !slices.Equal(open, []api.Deed{puts(1, 2, 3, 0, "<"), puts(1, 3, 3, 4, ">"), puts(1, 4, 3, 2, " ~")}) {
		t.Errorf("open: %+v", open)
	}
	// What was not sent the log and the others know nothing of.
	if toldOfLog(d) != was {
		t.Errorf("the log: %s, was %s", toldOfLog(d), was)
	}
	does(t, d, put(1, 7, strings.Repeat("z", api.MaxPut)))
	refuses(t, d, api.ErrRange, put(1, 28, "a"), put(1, 200, "a"), put(1, 201, "a"), put(1, -1, "a"), put(1, 201, "\n"))
	refuses(t, d, api.ErrText, put(1, 0, ""), put(1, 0, strings.Repeat("z", api.MaxPut+1)), put(1, 28, "\n"), put(1, 200, ""))
	if at := d.Writer(1); at.Text() != "<x ~ac>"+strings.Repeat("z", api.MaxPut) {
		t.Errorf("%s", toldOfWriter(at))
	}
}

func TestTake(t *testing.T) {
	d := busy(t)
	was := toldOfLog(d)
	does(t, d, take(1, 0, 1), take(1, 1, 1))
	sees(t, d, "xac", "acy", "a", "x", "-")
	if open := d.Writer(1).Open(); !slices.Equal(open, []api.Deed{takes(1, 2, 3, 0, 1), takes(1, 3, 3, 1, 1)}) {
		t.Errorf("open: %+v", open)
	}
	if toldOfLog(d) != was {
		t.Errorf("the log: %s, was %s", toldOfLog(d), was)
	}
	refuses(t, d, api.ErrRange, take(1, 1, 1), take(1, 0, 2), take(1, 0, 0), take(1, 0, -1), take(1, -1, 1), take(1, 0, 200), take(1, 201, 1))
	does(t, d, take(1, 0, 1), take(0, 0, 3), take(2, 0, 1))
	sees(t, d, "xac", "", "", "", "-")
	for w := range 3 {
		refuses(t, d, api.ErrRange, take(w, 0, 1))
	}
	settle(t, d)
	sees(t, d, "", "", "", "", "-")
}

// What a kind of step does not speak of has no say in it.
func TestWhatIsNotAsked(t *testing.T) {
	one, two := busy(t), busy(t)
	for _, s := range []api.Step{put(1, 1, "p"), take(0, 0, 2), send(1), hear(2), hear(2), forget(1), send(0), join(3), hear(1), leave(0)} {
		junk := s
		if s.Kind != api.SPut {
			junk.Text = "\n" + strings.Repeat("junk", 10)
		}
		if s.Kind != api.STake {
			junk.Many = math.MinInt
		}
		if s.Kind != api.SPut && s.Kind != api.STake {
			junk.At = math.MaxInt
		}
		does(t, one, s)
		does(t, two, junk)
		if told(one) != told(two) {
			t.Errorf("%+v: %s\nwant: %s", junk, told(two), told(one))
		}
	}
}

func TestSend(t *testing.T) {
	d := New()
	does(t, d, join(0), join(1))
	refuses(t, d, api.ErrNone, send(0), send(1))
	does(t, d, put(1, 0, "ab"))
	refuses(t, d, api.ErrNone, send(0))
	does(t, d, send(1))
	// What was sent is open until it is heard; it is not sent twice.
	refuses(t, d, api.ErrNone, send(1), send(0))
	sees(t, d, "ab", "", "ab")
	if open := d.Writer(1).Open(); !slices.Equal(open, []api.Deed{puts(1, 1, 0, 0, "ab")}) {
		t.Errorf("open: %+v", open)
	}
	// Several come one by one, the eldest first.
	does(t, d, put(1, 2, "c"), take(1, 0, 1), put(1, 0, "d"))
	for i, text := range []string{"abc", "bc", "dbc"} {
		does(t, d, send(1))
		if d.Len() != 2+i || d.Text() != text {
			t.Errorf("%d deeds: %q, want %q", d.Len(), d.Text(), text)
		}
	}
	refuses(t, d, api.ErrNone, send(1))
	want := []api.Deed{puts(1, 1, 0, 0, "ab"), puts(1, 2, 0, 2, "c"), takes(1, 3, 0, 0, 1), puts(1, 4, 0, 0, "d")}
	if !slices.Equal(deedsOf(d), want) || !slices.Equal(d.Writer(1).Open(), want) {
		t.Errorf("%s", told(d))
	}
	sees(t, d, "dbc", "", "dbc")
	settle(t, d)
	refuses(t, d, api.ErrNone, send(0), send(1))
}

func TestHear(t *testing.T) {
	d := New()
	does(t, d, join(0), join(1))
	refuses(t, d, api.ErrNone, hear(0), hear(1))
	does(t, d, put(0, 0, "ab"))
	refuses(t, d, api.ErrNone, hear(0), hear(1))
	does(t, d, send(0), put(1, 0, "c"), send(1))
	// Its own deed: it sees no difference, and the deed is open no longer.
	does(t, d, hear(0))
	sees(t, d, "cab", "ab", "c")
	if at := d.Writer(0); at.Seen() != 1 || len(at.Open()) != 0 || at.Chars()[0].In != 1 {
		t.Errorf("%s", toldOfWriter(at))
	}
	// Another's deed, by the one that has its own open, and by the one that has not.
	does(t, d, hear(1), hear(0))
	sees(t, d, "cab", "cab", "cab")
	if at := d.Writer(1); at.Seen() != 1 || len(at.Open()) != 1 {
		t.Errorf("%s", toldOfWriter(at))
	}
	refuses(t, d, api.ErrNone, hear(0))
	does(t, d, hear(1))
	refuses(t, d, api.ErrNone, hear(0), hear(1))
	settled(t, d)
}

// Who hears says how far it has seen, but no further than what it will still send has. To put in, to take away and to send says nothing more.
func TestLeast(t *testing.T) {
	d := New()
	least := func(what string, want int) {
		t.Helper()
		if d.Least() != want {
			t.Errorf("%s: least %d, want %d", what, d.Least(), want)
		}
	}
	does(t, d, join(0), join(1), put(0, 0, "a"), send(0), put(0, 1, "b"), send(0), put(0, 2, "c"), send(0))
	least("nobody has heard", 0)
	does(t, d, hear(0), hear(0), hear(0))
	least("0 has heard all", 0)
	does(t, d, hear(1))
	least("1 has heard one", 1)
	does(t, d, put(1, 0, "x"), put(1, 0, "y"), hear(1))
	least("1 has heard two, but will send what had seen one", 1)
	does(t, d, take(1, 0, 1), send(1))
	least("1 sent the first of that", 1)
	does(t, d, hear(1))
	least("1 has heard three, but will send what had seen one", 1)
	does(t, d, send(1))
	least("1 sent the second of that, and has said nothing since", 1)
	if at := d.Writer(1); at.Least() != 2 {
		t.Errorf("its own least is %d", at.Least())
	}
	does(t, d, hear(1))
	least("1 heard its own, and will send what had seen two", 2)
	does(t, d, hear(1), send(1), hear(1))
	least("1 has heard all", 3)
	does(t, d, hear(0))
	least("0 has heard four", 4)
	does(t, d, leave(0))
	least("0 went", 6)
	does(t, d, join(0), leave(1))
	least("0 came again", 6)
	does(t, d, leave(0))
	least("nobody is there", 6)
}

// What nobody can speak of any more is forgotten, by the one that is asked alone; the log forgets nothing.
func TestClear(t *testing.T) {
	d := New()
	does(t, d, join(0), join(1), put(0, 0, "abcd"), send(0), hear(0), hear(1), take(0, 1, 2), send(0))
	lists := func(what, zero, one string) {
		t.Helper()
		does(t, d, forget(0), forget(1))
		if got := letters(d.Writer(0).Chars()); got != zero {
			t.Errorf("%s: 0 has %q, want %q", what, got, zero)
		}
		if got := letters(d.Writer(1).Chars()); got != one {
			t.Errorf("%s: 1 has %q, want %q", what, got, one)
		}
		if got := letters(d.Chars()); got != "abcd" {
			t.Errorf("%s: the log has %q", what, got)
		}
	}
	lists("nobody has heard of it", "abcd", "abcd")
	does(t, d, hear(0))
	lists("0 alone has heard of it", "abcd", "abcd")
	does(t, d, put(1, 2, "x"), hear(1))
	lists("1 has heard of it, but will send what has not", "abcd", "abxcd")
	does(t, d, take(1, 1, 1))
	lists("and has taken that away", "abcd", "abxcd")
	does(t, d, leave(1), join(1))
	does(t, d, forget(0))
	if got := letters(d.Writer(0).Chars()) + " " + letters(d.Writer(1).Chars()); got != "ad abcd" {
		t.Errorf("0 alone was asked: %q", got)
	}
	lists("1 came again, and has the whole list of the log", "ad", "ad")
	lists("there is nothing more to forget", "ad", "ad")
	sees(t, d, "ad", "ad", "ad")
	does(t, d, put(1, 1, "y"))
	settle(t, d)
	sees(t, d, "ayd", "ayd", "ayd")
}

// A deed that came to the log ahead of what all have said by now speaks of what its writer saw: what it speaks of stays until it is heard.
func TestClearAheadOfOldDeeds(t *testing.T) {
	for _, asked := range []bool{true, false} {
		d := New()
		does(t, d, join(0), join(1), put(0, 0, "abc"), send(0), hear(0), hear(1))
		does(t, d, take(0, 1, 1), send(0), put(1, 2, "x"), send(1), hear(1), hear(1), hear(0))
		if x, _ := d.Deed(3); d.Least() != 2 || d.Writer(0).Seen() != 2 || x.Seen != 1 {
			t.Fatalf("%s", told(d))
		}
		if asked {
			does(t, d, forget(0), forget(1))
			if zero, one := letters(d.Writer(0).Chars()), letters(d.Writer(1).Chars()); zero != "abc" || one != "axc" {
				t.Errorf("0 has %q, 1 has %q", zero, one)
			}
		}
		does(t, d, hear(0))
		sees(t, d, "axc", "axc", "axc")
		does(t, d, forget(0))
		if zero := letters(d.Writer(0).Chars()); zero != "axc" {
			t.Errorf("0 has %q", zero)
		}
		settle(t, d)
	}
}

// The lowest of those deeds counts, wherever it stands among them; and one that has been heard counts no longer.
func TestClearAheadOfTheOldest(t *testing.T) {
	for _, order := range [][]int{{0, 1, 2}, {0, 2, 1}, {1, 0, 2}, {1, 2, 0}, {2, 0, 1}, {2, 1, 0}} {
		d := New()
		does(t, d, join(0), join(1), join(2), join(3), put(3, 0, "abcd"))
		settle(t, d)
		// Of three takes 0 has heard none when it puts in, 1 one and 2 two.
		does(t, d, take(3, 0, 1), send(3), take(3, 0, 1), send(3), take(3, 0, 1), send(3))
		does(t, d, put(0, 4, "x"), hear(1), put(1, 3, "y"), hear(2), hear(2), put(2, 2, "z"))
		for _, w := range order {
			does(t, d, send(w))
		}
		for w := range 3 {
			for d.Do(hear(w)) == 0 {
			}
		}
		does(t, d, hear(3), hear(3), hear(3))
		if d.Least() != 4 || d.Len() != 7 {
			t.Fatalf("%s", told(d))
		}
		for d.Do(hear(3)) != api.ErrNone {
			least := 4
			for n := d.Writer(3).Seen() + 1; n <= 7; n++ {
				x, _ := d.Deed(n)
				least = min(least, x.Seen)
			}
			want := clear.Of(d.Writer(3).Chars(), least)
			does(t, d, forget(3))
			if got := d.Writer(3).Chars(); !slices.Equal(got, want) {
				t.Errorf("%v, %d seen: %+v, want %+v", order, d.Writer(3).Seen(), got, want)
			}
		}
		settle(t, d)
	}
}

// Its own deed that it sent, and has not heard yet, counts as any other.
func TestClearAheadOfItsOwn(t *testing.T) {
	d := New()
	does(t, d, join(0), join(1), put(0, 0, "abc"), send(0), hear(0), hear(1))
	does(t, d, take(0, 1, 1), send(0), put(1, 2, "x"), send(1), hear(1), hear(0), hear(0))
	if d.Least() != 2 || d.Writer(1).Least() != 2 {
		t.Fatalf("%s", told(d))
	}
	does(t, d, forget(1), forget(0))
	if zero, one := letters(d.Writer(0).Chars()), letters(d.Writer(1).Chars()); zero != "axc" || one != "abxc" {
		t.Errorf("0 has %q, 1 has %q", zero, one)
	}
	does(t, d, hear(1), forget(1))
	if one := letters(d.Writer(1).Chars()); one != "axc" {
		t.Errorf("1 has %q", one)
	}
	settled(t, d)
}

// Who went can speak no more, but the deeds that it sent can.
func TestClearWhenOneWent(t *testing.T) {
	d := New()
	does(t, d, join(0), join(1), put(0, 0, "abc"))
	settle(t, d)
	does(t, d, take(0, 1, 1), put(1, 2, "x"), send(0), send(1), hear(0), leave(1), forget(0))
	if got := letters(d.Writer(0).Chars()); d.Least() != 2 || got != "abc" {
		t.Errorf("least %d, 0 has %q", d.Least(), got)
	}
	does(t, d, hear(0), forget(0))
	if got := letters(d.Writer(0).Chars()); got != "axc" {
		t.Errorf("0 has %q", got)
	}
	sees(t, d, "axc", "axc", "-")
}

// What one has open goes with it: what was sent is in the log, what was not comes to none.
func TestLeave(t *testing.T) {
	d := New()
	does(t, d, join(0), join(1), put(0, 0, "ab"), put(0, 2, "c"), send(0), send(0), put(0, 3, "d"), take(0, 0, 1))
	other := toldOfWriter(d.Writer(1))
	goesWith(t, d, 0, leave(0))
	if toldOfWriter(d.Writer(1)) != other {
		t.Errorf("the other one: %s, was %s", toldOfWriter(d.Writer(1)), other)
	}
	for _, kind := range byThere {
		refuses(t, d, api.ErrNone, api.Step{Kind: kind, W: 0, Many: 1, Text: "a"})
	}
	settle(t, d)
	sees(t, d, "abc", "-", "abc")
	does(t, d, join(0))
	if at := d.Writer(0); len(at.Open()) != 0 || at.Seen() != 2 {
		t.Errorf("%s", toldOfWriter(at))
	}
	refuses(t, d, api.ErrNone, send(0), hear(0))
	settle(t, d)
	sees(t, d, "abc", "abc", "abc")
	if want := []api.Deed{puts(0, 1, 0, 0, "ab"), puts(0, 2, 0, 2, "c")}; !slices.Equal(deedsOf(d), want) {
		t.Errorf("deeds: %+v", deedsOf(d))
	}
	does(t, d, leave(1), leave(0))
	refuses(t, d, api.ErrNone, leave(0), leave(1), leave(2))
}

// long is desks of 0, that has sent so many deeds and heard all, and 1, that has heard none.
func long(t *testing.T, many int) *Desks {
	t.Helper()
	d := New()
	does(t, d, join(0), join(1))
	for n := range many {
		s := put(0, 0, "a")
		if n%2 != 0 {
			s = take(0, 0, 1)
		}
		does(t, d, s, send(0), hear(0))
	}
	return d
}

// A log that is full takes no more: who brings more goes, and who does not stays.
func TestFullLog(t *testing.T) {
	d := long(t, api.MaxLog-1)
	does(t, d, join(2), join(3), put(2, 0, "x"), put(2, 1, "y"), put(3, 0, "z"), take(3, 0, 1), send(2))
	if d.Len() != api.MaxLog {
		t.Fatalf("%d deeds", d.Len())
	}
	refuses(t, d, api.ErrNone, send(0), send(1))
	goesWith(t, d, api.ErrFull, send(2))
	goesWith(t, d, api.ErrFull, send(3))
	refuses(t, d, api.ErrNone, send(2), send(3), hear(2))
	// One can still come, and do what it sees itself; but it goes when it sends that.
	does(t, d, join(2))
	at := d.Writer(2)
	does(t, d, put(2, 0, "w"), take(2, 1, 1))
	if at.Seen() != api.MaxLog || !slices.Equal(at.Open(), []api.Deed{puts(2, 2, api.MaxLog, 0, "w"), takes(2, 3, api.MaxLog, 1, 1)}) {
		t.Errorf("%s", toldOfWriter(at))
	}
	does(t, d, forget(2), forget(0), forget(1), hear(1))
	goesWith(t, d, api.ErrFull, send(2))
	settle(t, d)
	sees(t, d, "xa", "xa", "xa", "-", "-")
}

// Who has brought all that a log can have has no number left.
func TestNoNumberLeft(t *testing.T) {
	d := long(t, api.MaxLog)
	refuses(t, d, api.ErrRange, put(0, 0, "a"))
	does(t, d, leave(0), join(0))
	refuses(t, d, api.ErrRange, put(0, 0, "a"))
	refuses(t, d, api.ErrNone, send(0), hear(0))
	settle(t, d)
	sees(t, d, "", "", "")
}

// wide is desks of 0 and 1, of a list of so many bytes that 0 put in and both have heard.
func wide(t *testing.T, many int) *Desks {
	t.Helper()
	d := New()
	does(t, d, join(0), join(1))
	for many > 0 {
		text := strings.Repeat("a", min(many, api.MaxPut))
		does(t, d, put(0, 0, text))
		many -= len(text)
	}
	settle(t, d)
	return d
}

// The list of the log is full: who brings more bytes goes; to take away needs no room.
func TestFullListAtTake(t *testing.T) {
	d := wide(t, api.MaxChars-5)
	does(t, d, join(2), join(3), put(0, 0, "vwxyz"), put(1, 0, "b"), put(1, 0, "c"), put(2, 0, "d"), take(2, 0, 3), take(3, 0, 2))
	does(t, d, send(0))
	goesWith(t, d, api.ErrFull, send(1))
	goesWith(t, d, api.ErrFull, send(2))
	does(t, d, send(3))
	settle(t, d)
	text := "vwxyz" + strings.Repeat("a", api.MaxChars-7)
	sees(t, d, text, text, "-", "-", text)
	does(t, d, join(1))
	sees(t, d, text, text, text, "-", text)
}

// What one has forgotten the log has not: there is room at the desk, but none in the log.
func TestFullListBehindClear(t *testing.T) {
	d := wide(t, api.MaxChars)
	does(t, d, take(0, 0, api.MaxChars))
	settle(t, d)
	refuses(t, d, api.ErrFull, put(0, 0, "b"), put(1, 0, "b"))
	does(t, d, forget(0))
	if at := d.Writer(0); len(at.Chars()) != 0 || len(d.Writer(1).Chars()) != api.MaxChars {
		t.Errorf("%s", told(d))
	}
	does(t, d, put(0, 0, "b"))
	refuses(t, d, api.ErrFull, put(1, 0, "b"))
	goesWith(t, d, api.ErrFull, send(0))
	does(t, d, join(0))
	refuses(t, d, api.ErrFull, put(0, 0, "b"))
	settle(t, d)
	sees(t, d, "", "", "")
}

// A list is full at Put: that is told, and nobody goes.
func TestFullListAtPut(t *testing.T) {
	d := wide(t, api.MaxChars-3)
	refuses(t, d, api.ErrFull, put(0, 0, "wxyz"), put(1, 100, "wxyz"))
	does(t, d, put(1, 100, "xyz"))
	refuses(t, d, api.ErrFull, put(1, 0, "w"))
	does(t, d, take(1, 0, 2))
	refuses(t, d, api.ErrFull, put(1, 0, "w"))
	does(t, d, put(0, 0, "w"), put(0, 0, "w"), put(0, 0, "w"))
	refuses(t, d, api.ErrFull, put(0, 0, "w"), put(0, 200, "w"))
}

// A list is full at Hear: who has no room for what it hears, beside what it has open, goes.
func TestFullListAtHear(t *testing.T) {
	d := wide(t, 100)
	does(t, d, join(2), join(3))
	for range 4 {
		does(t, d, put(1, 0, strings.Repeat("b", api.MaxPut)), put(3, 0, strings.Repeat("d", 10)))
	}
	does(t, d, put(0, 0, strings.Repeat("c", 15)), put(0, 15, "x"), put(0, 0, "cdefg"), send(0), send(0), send(0))
	// Beside what it has open 1 has room for 19 bytes: for those of the first two deeds, but not of the third.
	does(t, d, put(1, 0, "?"), take(1, 0, 2), hear(1), hear(1), hear(2), hear(3))
	goesWith(t, d, api.ErrFull, hear(1))
	refuses(t, d, api.ErrNone, hear(1), send(1))
	does(t, d, hear(3), hear(3), hear(2), hear(2))
	// It comes again without what it had open, and has all of the log.
	does(t, d, join(1))
	if at := d.Writer(1); at.Text() != d.Text() || len(at.Open()) != 0 || len(at.Chars()) != 121 {
		t.Errorf("%s", toldOfWriter(at))
	}
	settle(t, d)
	if len(d.Chars()) != 161 {
		t.Errorf("%d bytes", len(d.Chars()))
	}
}

// Room for just all is enough to hear.
func TestRoomAtHear(t *testing.T) {
	d := wide(t, 180)
	does(t, d, put(1, 0, strings.Repeat("b", 15)), put(0, 0, "cdefg"), send(0), hear(1), put(0, 0, "h"), send(0))
	if n := len(d.Writer(1).Chars()); n != api.MaxChars {
		t.Errorf("1 has %d bytes", n)
	}
	goesWith(t, d, api.ErrFull, hear(1))
}

func TestSettleOfNobody(t *testing.T) {
	d := New()
	settle(t, d)
	if told(d) != told(New()) {
		t.Errorf("%s", told(d))
	}
	d = busy(t)
	does(t, d, leave(0), leave(1), leave(2))
	was := told(d)
	settle(t, d)
	if told(d) != was {
		t.Errorf("%s\nwas: %s", told(d), was)
	}
}

func TestSettleOfOne(t *testing.T) {
	for w := range api.MaxWriters {
		d := New()
		does(t, d, join(w))
		settle(t, d)
		does(t, d, put(w, 0, "ab"), send(w), put(w, 1, "c"), take(w, 0, 1))
		settle(t, d)
		if want := []api.Deed{puts(w, 1, 0, 0, "ab"), puts(w, 2, 0, 1, "c"), takes(w, 3, 0, 0, 1)}; !slices.Equal(deedsOf(d), want) || d.Text() != "cb" {
			t.Errorf("%d: %s", w, told(d))
		}
	}
}

// All send, by numbers, each all that it has, ahead of all that is heard.
func TestSettleOfAll(t *testing.T) {
	d := New()
	// They come, and do what they do, in another order than they settle in.
	does(t, d, join(2), join(0), join(3), join(1), put(3, 0, "d"), put(2, 0, "c"), put(2, 1, "C"), put(0, 0, "a"), put(1, 0, "b"), put(0, 0, "A"), put(1, 1, "B"), take(3, 0, 1))
	d.Settle()
	want := []api.Deed{
		puts(0, 1, 0, 0, "a"), puts(0, 2, 0, 0, "A"), puts(1, 1, 0, 0, "b"), puts(1, 2, 0, 1, "B"),
		puts(2, 1, 0, 0, "c"), puts(2, 2, 0, 1, "C"), puts(3, 1, 0, 0, "d"), takes(3, 2, 0, 0, 1),
	}
	if deeds := deedsOf(d); !slices.Equal(deeds, want) {
		t.Errorf("deeds: %+v, want %+v", deeds, want)
	}
	sees(t, d, "cCbBAa", "cCbBAa", "cCbBAa", "cCbBAa", "cCbBAa")
	settled(t, d)
	for w := range api.MaxWriters {
		if at := d.Writer(w); at.Seen() != 8 || !slices.Equal(at.Chars(), d.Chars()) || !slices.Equal(at.Known(), d.Chars()) {
			t.Errorf("%d: %s", w, toldOfWriter(at))
		}
	}
}

// Some that are there have something open, some have not; some have heard of more than others.
func TestSettleOfBusy(t *testing.T) {
	d := busy(t)
	settle(t, d)
	sees(t, d, "xacy", "xacy", "xacy", "xacy", "-")
	want := []api.Deed{puts(0, 1, 0, 0, "abc"), takes(1, 1, 1, 1, 1), puts(2, 1, 0, 0, "x"), puts(0, 2, 2, 2, "y")}
	if deeds := deedsOf(d); !slices.Equal(deeds, want) {
		t.Errorf("deeds: %+v, want %+v", deeds, want)
	}
	// To settle forgets nothing.
	for w := range 3 {
		if got := letters(d.Writer(w).Chars()); got != "xabcy" {
			t.Errorf("%d has %q", w, got)
		}
	}
}

// Who goes on the way goes with what it has left; the others come to the same text.
func TestSettleWhereOneGoes(t *testing.T) {
	d := long(t, api.MaxLog-3)
	does(t, d, join(2), join(3), put(0, 0, "b"), put(1, 0, "c"), put(1, 0, "d"), put(1, 0, "e"), put(2, 0, "f"))
	settle(t, d)
	// Of the third deed of 1, and of that of 2, the log has none; 3 had nothing to send.
	sees(t, d, "dcba", "dcba", "-", "-", "dcba")
	if d.Len() != api.MaxLog || d.Here(1) || d.Here(2) {
		t.Errorf("%s", toldOfLog(d))
	}

	d = wide(t, api.MaxChars-4)
	does(t, d, join(2), join(3), put(0, 0, "bcd"), put(1, 0, "gh"), take(1, 0, 1), put(2, 0, "i"), put(3, 0, "j"), take(3, 1, 1))
	settle(t, d)
	text := "ibcd" + strings.Repeat("a", api.MaxChars-4)
	sees(t, d, text, text, "-", text, "-")
	does(t, d, join(1), join(3))
	settle(t, d)
	sees(t, d, text, text, text, text, text)

	// 1 would have no room to hear what 0 sent, but it sends ahead of that what the log has room for.
	d = wide(t, api.MaxChars-20)
	does(t, d, put(1, 0, "bbbbb"), put(1, 0, strings.Repeat("c", 15)), put(0, 0, strings.Repeat("d", 15)), send(0))
	settle(t, d)
	text = "bbbbb" + strings.Repeat("d", 15) + strings.Repeat("a", api.MaxChars-20)
	sees(t, d, text, text, "-", "-", "-")
}

// The examples of the document.
func TestExamples(t *testing.T) {
	d := New()
	does(t, d, join(0), join(1), put(0, 0, "ab"), put(1, 0, "c"), send(0), send(1))
	sees(t, d, "cab", "ab", "c")
	does(t, d, hear(1), hear(0))
	sees(t, d, "cab", "ab", "cab")
	does(t, d, hear(0))
	sees(t, d, "cab", "cab", "cab")

	d = New()
	does(t, d, join(0), join(1), join(2), put(0, 0, "abc"))
	settle(t, d)
	does(t, d, take(1, 1, 1), take(2, 1, 2))
	settle(t, d)
	sees(t, d, "a", "a", "a", "a")
	if l := d.Chars(); l[1].Out != 2 || l[1].Gone != 6 || l[2].Out != 3 || l[2].Gone != 4 {
		t.Errorf("%+v", l)
	}
}

// wrongSteps are steps of one that is there with a text, a place or a number that can't be.
func wrongSteps(w int) []api.Step {
	var steps []api.Step
	for _, text := range []string{"", "\n", "a\tb", "\x1f", "\x7f", "\x80", "\xff", "ab\x00", "é", strings.Repeat("a", api.MaxPut+1), strings.Repeat("a", 1<<16)} {
		steps = append(steps, put(w, 0, text))
	}
	for _, n := range append([]int{100, 199, 200}, far...) {
		steps = append(steps, put(w, n, "a"), put(w, n, "\n"), take(w, n, 1), take(w, 0, n), take(w, n, n), take(w, 1, n))
	}
	for _, n := range far {
		steps = append(steps, take(w, n, math.MaxInt), take(w, n, math.MinInt), take(w, math.MaxInt, n), take(w, math.MinInt, n))
	}
	return append(steps, take(w, 0, 0), take(w, 0, 4), take(w, 3, 1), put(w, 4, "a"))
}

// What can't be done has deed.Check's code, or else ErrRange, and changes nothing.
func TestWrongSteps(t *testing.T) {
	d := busy(t)
	for _, w := range []int{0, 1} {
		for _, s := range wrongSteps(w) {
			at := d.Writer(w)
			x := api.Deed{Kind: api.DPut, By: w, No: 2, Seen: at.Seen(), At: s.At, Text: s.Text}
			if s.Kind == api.STake {
				x.Kind, x.Many = api.DTake, s.Many
			}
			code := deed.Check(x)
			if code == 0 {
				code = api.ErrRange
			}
			refuses(t, d, code, s)
		}
	}
	for _, w := range append([]int{3}, noWriters...) {
		for _, s := range wrongSteps(w) {
			if code := d.Do(s); code != api.ErrNone {
				t.Errorf("%+v: %d", s, code)
			}
		}
	}
	if told(d) != told(busy(t)) {
		t.Errorf("changed: %s", told(d))
	}
	settle(t, d)
	sees(t, d, "xacy", "xacy", "xacy", "xacy", "-")
}

// What is answered is the asker's: to change it, or what lies behind it, changes no desks and no other answer.
func TestAnswersAreNew(t *testing.T) {
	d := busy(t)
	does(t, d, put(1, 0, "o"), take(1, 1, 1))
	was := told(d)
	at := d.Writer(1)
	lists := [][]api.Char{d.Chars(), at.Chars(), at.Known()}
	kept := [][]api.Char{d.Chars(), at.Chars(), at.Known()}
	open, keptOpen := at.Open(), at.Open()
	for _, l := range lists {
		for i := range l[:cap(l)] {
			l[:cap(l)][i] = api.Char{C: '!', By: 9, No: -5}
		}
	}
	for i := range open[:cap(open)] {
		open[:cap(open)][i] = api.Deed{Kind: 9, Text: "changed"}
	}
	if told(d) != was {
		t.Errorf("changed: %s\nwas: %s", told(d), was)
	}
	// And what was answered stays when the desks go on.
	want := fmt.Sprint(kept, keptOpen)
	settle(t, d)
	does(t, d, put(1, 0, "new"), take(0, 0, 3), forget(1), forget(0))
	settle(t, d)
	if got := fmt.Sprint(kept, keptOpen); got != want {
		t.Errorf("answers changed: %s, was %s", got, want)
	}
}

// One that comes has a list of its own: what it does to it the log's list, and those of others, do not show.
func TestListsAreTheirOwn(t *testing.T) {
	d := wide(t, 30)
	does(t, d, join(2), join(3))
	was := [3]string{toldOfLog(d), toldOfWriter(d.Writer(1)), toldOfWriter(d.Writer(2))}
	does(t, d, take(3, 0, 30), put(3, 0, "x"), put(3, 1, "y"), take(3, 0, 1))
	if got := [3]string{toldOfLog(d), toldOfWriter(d.Writer(1)), toldOfWriter(d.Writer(2))}; got != was {
		t.Errorf("changed: %s\nwas: %s", got, was)
	}
}

// The memory of a Text that is handed in is not kept: it may be a piece of a long one.
func TestTextIsNotKept(t *testing.T) {
	d := New()
	text := strings.Repeat("long", 1000)[1:5]
	does(t, d, join(0), put(0, 0, text), send(0))
	x, _ := d.Deed(1)
	open := d.Writer(0).Open()[0]
	if x.Text != "ongl" || open.Text != "ongl" || unsafe.StringData(x.Text) == unsafe.StringData(text) || unsafe.StringData(open.Text) == unsafe.StringData(text) {
		t.Errorf("%+v %+v", x, open)
	}
}

// Two desks know nothing of each other.
func TestTwoDesks(t *testing.T) {
	one, two := New(), New()
	if one.Log == two.Log {
		t.Fatal("two desks have one log")
	}
	does(t, one, join(0), join(1), put(0, 0, "one"), send(0), put(1, 0, "o"))
	if told(two) != told(New()) {
		t.Errorf("the second: %s", told(two))
	}
	was := told(one)
	does(t, two, join(0), join(3), put(0, 0, "two"), put(3, 0, "t"))
	settle(t, two)
	does(t, two, take(0, 0, 2), leave(3), forget(0))
	settle(t, two)
	does(t, two, forget(0))
	if told(one) != was {
		t.Errorf("the first: %s\nwas: %s", told(one), was)
	}
	settle(t, one)
	sees(t, one, "oone", "oone", "oone", "-", "-")
	sees(t, two, "wo", "wo", "-", "-", "-")
}
