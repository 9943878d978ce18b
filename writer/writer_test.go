package writer

import (
	"fmt"
	"math"
	"math/rand"
	"slices"
	"strings"
	"testing"
	"unsafe"

	"quillwork/api"
	"quillwork/chars"
	"quillwork/clear"
	"quillwork/deed"
	"quillwork/fold"
	"quillwork/log"
)

// far: numbers that are beyond every bound, as far as both ends of int.
var far = []int{math.MinInt, math.MinInt + 1, -1 << 32, -api.Open, -2, -1, 201, api.Open - 1, api.Open, api.Open + 1, 1 << 32, 1 << 62, math.MaxInt - 1, math.MaxInt}

// noWriters: numbers of nobody, right beside those of writers and far off.
var noWriters = append([]int{api.MaxWriters, api.MaxWriters + 1, 63, 64}, far...)

// canary lies behind the length of a list, where nobody looks.
var canary = api.Char{C: '!', By: 9, No: -5, K: 7, In: 1, Out: 1, Gone: 1}

func puts(by, no, seen, at int, text string) api.Deed {
	return api.Deed{Kind: api.DPut, By: by, No: no, Seen: seen, At: at, Text: text}
}

func takes(by, no, seen, at, many int) api.Deed {
	return api.Deed{Kind: api.DTake, By: by, No: no, Seen: seen, At: at, Many: many}
}

// comes is a writer that there must be.
func comes(t *testing.T, me, next, seen int, l []api.Char) *Writer {
	t.Helper()
	w := New(me, next, seen, l)
	if w == nil {
		t.Fatalf("New(%d, %d, %d, %+v): nil", me, next, seen, l)
	}
	return w
}

// folded is fold.All of deeds that can be done.
func folded(t *testing.T, deeds ...api.Deed) []api.Char {
	t.Helper()
	l, f := fold.All(deeds)
	if f != (api.Fault{}) {
		t.Fatalf("%+v: %v", deeds, f)
	}
	return l
}

// put is a Put that must be able to be done.
func put(t *testing.T, w *Writer, at int, text string) api.Deed {
	t.Helper()
	d, code := w.Put(at, text)
	if code != 0 {
		t.Fatalf("Put(%d, %q): %d", at, text, code)
	}
	return d
}

// take is a Take that must be able to be done.
func take(t *testing.T, w *Writer, at, many int) api.Deed {
	t.Helper()
	d, code := w.Take(at, many)
	if code != 0 {
		t.Fatalf("Take(%d, %d): %d", at, many, code)
	}
	return d
}

// hears lets deeds be heard that must be able to, each as one more of the log.
func hears(t *testing.T, w *Writer, deeds ...api.Deed) {
	t.Helper()
	for _, d := range deeds {
		want := w.Seen() + 1
		if code := w.Hear(d); code != 0 || w.Seen() != want {
			t.Fatalf("Hear(%+v): %d, seen %d, want %d", d, code, w.Seen(), want)
		}
	}
}

// sees holds what a writer sees against a text.
func sees(t *testing.T, w *Writer, want string) {
	t.Helper()
	if got := w.Text(); got != want {
		t.Errorf("it sees %q, want %q", got, want)
	}
}

// letters of all bytes of the list, seen or not.
func letters(l []api.Char) string {
	var text []byte
	for _, c := range l {
		text = append(text, c.C)
	}
	return string(text)
}

// of is the one byte of the list with that letter.
func of(t *testing.T, l []api.Char, letter byte) api.Char {
	t.Helper()
	at := strings.IndexByte(letters(l), letter)
	if at < 0 || strings.Count(letters(l), string(letter)) != 1 {
		t.Fatalf("%q is not once in %q", letter, letters(l))
	}
	return l[at]
}

// told is all that can be learnt of a writer without changing it.
func told(w *Writer) string {
	return fmt.Sprintf("seen %d least %d text %q open %+v chars %+v known %+v", w.Seen(), w.Least(), w.Text(), w.Open(), w.Chars(), w.Known())
}

// busy is writer 1, that came with no deeds and has heard two: abc of writer 0, and x of writer 2 at its end. It sees Aabx: A, that was sent, and the taking away of c, that was not, are open.
func busy(t *testing.T) *Writer {
	t.Helper()
	w := comes(t, 1, 1, 0, nil)
	hears(t, w, puts(0, 1, 0, 0, "abc"))
	put(t, w, 0, "A")
	w.Send()
	hears(t, w, puts(2, 1, 1, 3, "x"))
	take(t, w, 3, 1)
	return w
}

// onTop is the open deeds done to a list one behind the other, Open.
func onTop(l []api.Char, open []api.Deed) ([]api.Char, int) {
	for _, d := range open {
		next, code := fold.Do(l, d, api.Open)
		if code != 0 {
			return nil, code
		}
		l = next
	}
	return l, 0
}

// follows holds a writer against the deeds that it has seen, all from the beginning of the log on: it has cleared nothing.
func follows(t *testing.T, w *Writer, me int, heard ...api.Deed) {
	t.Helper()
	known := folded(t, heard...)
	list, code := onTop(known, w.Open())
	if code != 0 {
		t.Fatalf("what is open can't be done to %+v: %d", known, code)
	}
	if w.Seen() != len(heard) {
		t.Errorf("it has seen %d, want %d", w.Seen(), len(heard))
	}
	if got := w.Known(); !slices.Equal(got, known) {
		t.Errorf("it knows %+v, want %+v", got, known)
	}
	if got := w.Chars(); !slices.Equal(got, list) {
		t.Errorf("its list is %+v, want %+v", got, list)
	}
	sees(t, w, string(chars.View(list, len(heard), me)))
}

// hearsOwn lets a writer hear a deed of its own; what it sees must stay.
func hearsOwn(t *testing.T, w *Writer, d api.Deed) {
	t.Helper()
	was := w.Text()
	hears(t, w, d)
	if w.Text() != was {
		t.Errorf("to hear its own %+v changed what it sees: %q, was %q", d, w.Text(), was)
	}
}

func TestNew(t *testing.T) {
	l := folded(t, puts(0, 1, 0, 0, "hello"), takes(1, 1, 1, 1, 2), puts(2, 1, 0, 0, "x"))
	for _, x := range []struct {
		name           string
		me, next, seen int
		l              []api.Char
		there          bool
	}{
		{"the first writer, nothing seen", 0, 1, 0, nil, true},
		{"an empty list", 0, 1, 0, []api.Char{}, true},
		{"the last writer", api.MaxWriters - 1, 1, 0, nil, true},
		{"one behind the last", api.MaxWriters, 1, 0, nil, false},
		{"one ahead of the first", -1, 1, 0, nil, false},
		{"next is 0", 0, 0, 0, nil, false},
		{"next is below 0", 0, -1, 0, nil, false},
		{"next is 2", 0, 2, 0, nil, true},
		{"next is the last that a deed may have", 0, api.MaxLog, 0, nil, true},
		{"next is one behind", 0, api.MaxLog + 1, 0, nil, true},
		{"next is as high as can be", 0, math.MaxInt, 0, nil, true},
		{"next is as low as can be", 0, math.MinInt, 0, nil, false},
		{"seen is below 0", 0, 1, -1, nil, false},
		{"seen is 1, and there are no bytes", 0, 1, 1, nil, true},
		{"seen is MaxLog", 0, 1, api.MaxLog, nil, true},
		{"seen is one above MaxLog", 0, 1, api.MaxLog + 1, nil, false},
		{"a list", 3, 1, 3, l, true},
		{"a list, more was seen than it tells of", 3, 1, api.MaxLog, l, true},
		{"a list that tells of more than was seen", 3, 1, 2, l, false},
		{"a list, seen is below 0", 3, 1, -1, l, false},
		{"a list, seen is one above MaxLog", 3, 1, api.MaxLog + 1, l, false},
		{"a list, no such writer", 4, 1, 3, l, false},
		{"a list, next is 0", 3, 0, 3, l, false},
		{"all is wrong", -1, 0, -1, []api.Char{{}}, false},
	} {
		w := New(x.me, x.next, x.seen, x.l)
		if (w != nil) != x.there {
			t.Errorf("%s: %+v", x.name, w)
		}
		if w == nil {
			continue
		}
		if w.Seen() != x.seen || w.Least() != x.seen || len(w.Open()) != 0 || !slices.Equal(w.Chars(), x.l) || !slices.Equal(w.Known(), x.l) || w.Text() != string(chars.View(x.l, x.seen, x.me)) {
			t.Errorf("%s: %s", x.name, told(w))
		}
		if d, ok := w.Send(); ok || d != (api.Deed{}) {
			t.Errorf("%s: Send: %+v %v", x.name, d, ok)
		}
	}
	for _, n := range noWriters {
		if w := New(n, 1, 0, nil); w != nil {
			t.Errorf("there is a writer %d", n)
		}
	}
	for _, n := range far {
		if w := New(0, 1, n, nil); w != nil {
			t.Errorf("seen may be %d", n)
		}
		if w := New(0, n, 0, nil); (w != nil) != (n >= 1) {
			t.Errorf("next is %d: %+v", n, w)
		}
	}
}

// What chars.Check refuses of a list and seen, whatever its code, no writer comes with.
func TestNewOfWrongLists(t *testing.T) {
	good := api.Char{C: 'a', By: 1, No: 2, K: 3, In: 4, Out: 5, Gone: 2}
	with := func(change func(*api.Char)) []api.Char {
		c := good
		change(&c)
		return []api.Char{{C: 'b', No: 1, In: 1}, c}
	}
	full := make([]api.Char, api.MaxChars)
	for i := range full {
		full[i] = api.Char{C: 'x', By: i / 60, No: 1 + i/20, K: i % 20, In: 1 + i/20}
	}
	for _, x := range []struct {
		name string
		l    []api.Char
		code int
	}{
		{"one that may be", with(func(*api.Char) {}), 0},
		{"By is no writer", with(func(c *api.Char) { c.By = 4 }), api.ErrRange},
		{"By is below 0", with(func(c *api.Char) { c.By = -1 }), api.ErrRange},
		{"No is 0", with(func(c *api.Char) { c.No = 0 }), api.ErrRange},
		{"No is as high as can be", with(func(c *api.Char) { c.No = math.MaxInt }), 0},
		{"K is below 0", with(func(c *api.Char) { c.K = -1 }), api.ErrRange},
		{"K is MaxPut", with(func(c *api.Char) { c.K = api.MaxPut }), api.ErrRange},
		{"Gone is below 0", with(func(c *api.Char) { c.Gone = -1 }), api.ErrRange},
		{"Gone has a bit of nobody", with(func(c *api.Char) { c.Gone = 16 }), api.ErrRange},
		{"In is 0", with(func(c *api.Char) { c.In = 0 }), api.ErrRange},
		{"In is just seen", with(func(c *api.Char) { c.In, c.Out, c.Gone = 7, 0, 0 }), 0},
		{"In is above seen", with(func(c *api.Char) { c.In, c.Out, c.Gone = 8, 0, 0 }), api.ErrRange},
		{"Out is just seen", with(func(c *api.Char) { c.Out = 7 }), 0},
		{"Out is above seen", with(func(c *api.Char) { c.Out = 8 }), api.ErrRange},
		{"Out is below 0", with(func(c *api.Char) { c.Out = -1 }), api.ErrRange},
		{"Out is Open", with(func(c *api.Char) { c.Out = api.Open }), api.ErrRange},
		{"Out is just In", with(func(c *api.Char) { c.Out = 4 }), api.ErrForm},
		{"nobody took it", with(func(c *api.Char) { c.Gone = 0 }), api.ErrForm},
		{"one took it, as what has no number", with(func(c *api.Char) { c.Out = 0 }), 0},
		{"a byte stands twice", []api.Char{good, good}, api.ErrThere},
		{"the list is full", full, 0},
		{"one more than full", append(slices.Clone(full), good), api.ErrMany},
	} {
		seen := 7
		if len(x.l) > 2 {
			seen = 10
		}
		if code := chars.Check(x.l, seen); code != x.code {
			t.Fatalf("%s: Check: %d, want %d", x.name, code, x.code)
		}
		if w := New(0, 1, seen, x.l); (w != nil) != (x.code == 0) {
			t.Errorf("%s: %+v", x.name, w)
		}
	}
}

// chars.Check lets an In be Open, but what no deed of the log put in is in no list that the log has.
func TestNewOfOpenBytes(t *testing.T) {
	known := api.Char{C: 'a', No: 1, In: 1}
	for by := range api.MaxWriters {
		open := api.Char{C: 'o', By: by, No: 2, In: api.Open}
		taken := open
		taken.Gone = 1 << by
		for _, l := range [][]api.Char{{open}, {taken}, {known, open}, {open, known}, {known, taken}} {
			if code := chars.Check(l, 1); code != 0 {
				t.Fatalf("Check(%+v): %d", l, code)
			}
			for me := range api.MaxWriters {
				if w := New(me, 3, 1, l); w != nil {
					t.Errorf("New(%d, 3, 1, %+v): %+v", me, l, w)
				}
			}
		}
	}
	for _, in := range []int{api.Open - 1, api.Open + 1} {
		if w := New(0, 1, 1, []api.Char{{C: 'o', No: 1, In: in}}); w != nil {
			t.Errorf("In is %d: %+v", in, w)
		}
	}
}

// What is handed to New is neither changed nor kept, nor is what lies behind it touched.
func TestNewKeepsNoList(t *testing.T) {
	was := folded(t, puts(0, 1, 0, 0, "abc"), takes(1, 1, 1, 1, 1), puts(2, 1, 2, 2, "d"))
	whole := append(slices.Clone(was), slices.Repeat([]api.Char{canary}, 8)...)
	l := whole[:len(was)]
	w := comes(t, 2, 2, 3, l)
	put(t, w, 1, "x")
	take(t, w, 0, 1)
	hears(t, w, takes(0, 2, 3, 0, 2), w.Open()[0], w.Open()[1])
	w.Clear(6)
	if !slices.Equal(l, was) {
		t.Errorf("the list was changed: %+v, was %+v", l, was)
	}
	for _, c := range whole[len(was):] {
		if c != canary {
			t.Errorf("what lies behind was changed: %+v", c)
		}
	}
	w = comes(t, 2, 2, 3, l)
	told1 := told(w)
	for i := range whole {
		whole[i] = api.Char{C: '?', By: 9}
	}
	if told(w) != told1 {
		t.Errorf("the writer changed with the list: %s, was %s", told(w), told1)
	}
}

// A writer goes on with its next number, with each deed one further.
func TestNext(t *testing.T) {
	for _, next := range []int{1, 2, 57, api.MaxLog - 1, api.MaxLog} {
		w := comes(t, 3, next, 0, nil)
		w.Put(9, "refused")
		w.Take(0, 1)
		w.Put(0, "")
		no := next
		for ; no <= min(next+3, api.MaxLog); no++ {
			if d, code := w.Put(0, "a"); code != 0 || d != puts(3, no, 0, 0, "a") {
				t.Errorf("Put, next was %d: %+v %d, want No %d", next, d, code, no)
			}
		}
		if no <= api.MaxLog {
			continue
		}
		was := told(w)
		if d, code := w.Put(0, "a"); code != api.ErrRange || d != (api.Deed{}) {
			t.Errorf("Put, one behind the last number: %+v %d", d, code)
		}
		if d, code := w.Take(0, 1); code != api.ErrRange || d != (api.Deed{}) {
			t.Errorf("Take, one behind the last number: %+v %d", d, code)
		}
		if told(w) != was {
			t.Errorf("changed: %s, was %s", told(w), was)
		}
	}
	for _, next := range []int{api.MaxLog + 1, api.Open, math.MaxInt} {
		w := comes(t, 0, next, 1, folded(t, puts(1, 1, 0, 0, "ab")))
		was := told(w)
		for range 2 {
			if d, code := w.Put(0, "a"); code != api.ErrRange || d != (api.Deed{}) {
				t.Errorf("Put, next is %d: %+v %d", next, d, code)
			}
			if d, code := w.Take(0, 1); code != api.ErrRange || d != (api.Deed{}) {
				t.Errorf("Take, next is %d: %+v %d", next, d, code)
			}
		}
		if told(w) != was {
			t.Errorf("changed: %s, was %s", told(w), was)
		}
		hears(t, w, takes(1, 2, 1, 0, 1))
		sees(t, w, "b")
	}
}

func TestPut(t *testing.T) {
	l := folded(t, puts(0, 1, 0, 0, "abc"), takes(1, 1, 1, 1, 1), puts(2, 1, 1, 3, "d"))
	for _, x := range []struct {
		name string
		at   int
		text string
		code int
		want string
	}{
		{"at the beginning", 0, "x", 0, "xacd"},
		{"right behind a byte that one took away stands", 1, "xy", 0, "axycd"},
		{"in the middle", 2, " ~", 0, "ac ~d"},
		{"behind all that it sees", 3, "x", 0, "acdx"},
		{"one behind", 4, "x", api.ErrRange, ""},
		{"one ahead of the beginning", -1, "x", api.ErrRange, ""},
		{"MaxChars", api.MaxChars, "x", api.ErrRange, ""},
		{"one above MaxChars", api.MaxChars + 1, "x", api.ErrRange, ""},
		{"MaxPut bytes", 0, strings.Repeat("x", api.MaxPut), 0, strings.Repeat("x", api.MaxPut) + "acd"},
		{"one more than MaxPut", 0, strings.Repeat("x", api.MaxPut+1), api.ErrText, ""},
		{"no text", 0, "", api.ErrText, ""},
		{"a byte below 32", 0, "a\x1f", api.ErrText, ""},
		{"a byte above 126", 0, "a\x7f", api.ErrText, ""},
		{"a letter of two bytes", 0, "é", api.ErrText, ""},
		{"a byte of 0", 0, "\x00", api.ErrText, ""},
		{"the text is told ahead of what it sees", 4, "\n", api.ErrText, ""},
		{"a place of no deed is told ahead of the text", -1, "\n", api.ErrRange, ""},
		{"a place of no deed is told ahead of the text, above", api.MaxChars + 1, "", api.ErrRange, ""},
	} {
		w := comes(t, 3, 5, 3, l)
		was := told(w)
		d, code := w.Put(x.at, x.text)
		if code != x.code {
			t.Errorf("%s: %d, want %d", x.name, code, x.code)
		}
		if x.code != 0 {
			if d != (api.Deed{}) || told(w) != was {
				t.Errorf("%s: %+v; changed: %s, was %s", x.name, d, told(w), was)
			}
			continue
		}
		if want := puts(3, 5, 3, x.at, x.text); d != want || !slices.Equal(w.Open(), []api.Deed{want}) {
			t.Errorf("%s: %+v, open %+v, want %+v", x.name, d, w.Open(), want)
		}
		list, _ := fold.Do(l, d, api.Open)
		if !slices.Equal(w.Chars(), list) || !slices.Equal(w.Known(), l) || w.Seen() != 3 || w.Least() != 3 {
			t.Errorf("%s: %s", x.name, told(w))
		}
		sees(t, w, x.want)
	}
}

func TestTake(t *testing.T) {
	l := folded(t, puts(0, 1, 0, 0, "abc"), takes(1, 1, 1, 1, 1), puts(2, 1, 1, 3, "d"))
	for _, x := range []struct {
		name     string
		at, many int
		code     int
		want     string
	}{
		{"the first", 0, 1, 0, "cd"},
		{"over a byte that one took away", 0, 2, 0, "d"},
		{"the last", 2, 1, 0, "ac"},
		{"all", 0, 3, 0, ""},
		{"one more than all", 0, 4, api.ErrRange, ""},
		{"behind all that it sees", 3, 1, api.ErrRange, ""},
		{"one further than the last", 2, 2, api.ErrRange, ""},
		{"one behind", 4, 1, api.ErrRange, ""},
		{"none", 0, 0, api.ErrRange, ""},
		{"fewer than none", 0, -1, api.ErrRange, ""},
		{"one ahead of the beginning", -1, 1, api.ErrRange, ""},
		{"one ahead of the beginning, two", -1, 2, api.ErrRange, ""},
		{"MaxChars", 0, api.MaxChars, api.ErrRange, ""},
		{"one above MaxChars", 0, api.MaxChars + 1, api.ErrRange, ""},
		{"both MaxChars", api.MaxChars, api.MaxChars, api.ErrRange, ""},
		{"both as high as can be", math.MaxInt, math.MaxInt, api.ErrRange, ""},
		{"both as low as can be", math.MinInt, math.MinInt, api.ErrRange, ""},
	} {
		w := comes(t, 3, 5, 3, l)
		was := told(w)
		d, code := w.Take(x.at, x.many)
		if code != x.code {
			t.Errorf("%s: %d, want %d", x.name, code, x.code)
		}
		if x.code != 0 {
			if d != (api.Deed{}) || told(w) != was {
				t.Errorf("%s: %+v; changed: %s, was %s", x.name, d, told(w), was)
			}
			continue
		}
		if want := takes(3, 5, 3, x.at, x.many); d != want || !slices.Equal(w.Open(), []api.Deed{want}) {
			t.Errorf("%s: %+v, open %+v, want %+v", x.name, d, w.Open(), want)
		}
		list, _ := fold.Do(l, d, api.Open)
		if !slices.Equal(w.Chars(), list) || !slices.Equal(w.Known(), l) || w.Seen() != 3 || w.Least() != 3 {
			t.Errorf("%s: %s", x.name, told(w))
		}
		sees(t, w, x.want)
	}
}

// Where nothing is seen one can put in, and take away nothing.
func TestOfNothing(t *testing.T) {
	for _, l := range [][]api.Char{nil, folded(t, puts(0, 1, 0, 0, "a"), takes(0, 2, 1, 0, 1))} {
		w := comes(t, 1, 1, 2, l)
		if _, code := w.Take(0, 1); code != api.ErrRange {
			t.Errorf("Take: %d", code)
		}
		if _, code := w.Put(1, "a"); code != api.ErrRange {
			t.Errorf("Put, one behind: %d", code)
		}
		put(t, w, 0, "b")
		sees(t, w, "b")
		take(t, w, 0, 1)
		sees(t, w, "")
	}
}

// It sees at once what it does, and does the next thing to what it sees.
func TestOneBehindTheOther(t *testing.T) {
	w := comes(t, 2, 1, 1, folded(t, puts(0, 1, 0, 0, "hello")))
	var want []api.Deed
	for _, x := range []struct {
		d    api.Deed
		sees string
	}{
		{puts(2, 1, 1, 5, " you"), "hello you"},
		{takes(2, 2, 1, 4, 3), "hellou"},
		{puts(2, 3, 1, 5, "!"), "hello!u"},
		{takes(2, 4, 1, 0, 1), "ello!u"},
		{puts(2, 5, 1, 0, "J"), "Jello!u"},
		{takes(2, 6, 1, 6, 1), "Jello!"},
		{puts(2, 7, 1, 6, "!"), "Jello!!"},
	} {
		var d api.Deed
		if x.d.Kind == api.DPut {
			d = put(t, w, x.d.At, x.d.Text)
		} else {
			d = take(t, w, x.d.At, x.d.Many)
		}
		want = append(want, x.d)
		if d != x.d || !slices.Equal(w.Open(), want) {
			t.Errorf("%+v, want %+v; open %+v", d, x.d, w.Open())
		}
		sees(t, w, x.sees)
		follows(t, w, 2, puts(0, 1, 0, 0, "hello"))
	}
	heard := []api.Deed{puts(0, 1, 0, 0, "hello")}
	for i, d := range want {
		hearsOwn(t, w, d)
		heard = append(heard, d)
		if !slices.Equal(w.Open(), want[i+1:]) {
			t.Errorf("open %+v, want %+v", w.Open(), want[i+1:])
		}
		follows(t, w, 2, heard...)
	}
}

// A deed has seen the log as far as its writer had at that time.
func TestSeenOfDeeds(t *testing.T) {
	w := comes(t, 0, 1, 0, nil)
	first := put(t, w, 0, "a")
	hears(t, w, puts(1, 1, 0, 0, "b"))
	second := put(t, w, 0, "c")
	hears(t, w, puts(1, 2, 1, 0, "d"), puts(2, 1, 0, 0, "e"))
	third := take(t, w, 0, 1)
	hears(t, w, first)
	fourth := take(t, w, 0, 1)
	if first.Seen != 0 || second.Seen != 1 || third.Seen != 3 || fourth.Seen != 4 {
		t.Errorf("%+v %+v %+v %+v", first, second, third, fourth)
	}
	follows(t, w, 0, puts(1, 1, 0, 0, "b"), puts(1, 2, 1, 0, "d"), puts(2, 1, 0, 0, "e"), first)
}

func TestSend(t *testing.T) {
	w := comes(t, 1, 1, 0, nil)
	sends := func(what string, want ...api.Deed) {
		t.Helper()
		for _, x := range want {
			if d, ok := w.Send(); !ok || d != x {
				t.Errorf("%s: %+v %v, want %+v", what, d, ok, x)
			}
		}
		was := told(w)
		for range 2 {
			if d, ok := w.Send(); ok || d != (api.Deed{}) || told(w) != was {
				t.Errorf("%s, none is left: %+v %v", what, d, ok)
			}
		}
	}
	sends("nothing was done")
	a := put(t, w, 0, "a")
	sends("one", a)
	b, c := put(t, w, 1, "b"), take(t, w, 0, 1)
	w.Put(9, "refused")
	open := w.Open()
	sends("two more", b, c)
	if !slices.Equal(w.Open(), open) || len(open) != 3 {
		t.Errorf("what was sent is open until it is heard: %+v, was %+v", w.Open(), open)
	}
	d := put(t, w, 1, "d")
	hears(t, w, a)
	sends("one was heard, one is new", d)
	hears(t, w, b, c)
	sends("more were heard")
	hears(t, w, d)
	sends("all were heard")
	sends("behind that", put(t, w, 0, "e"))
}

// To send changes nothing but what is sent next, and Least.
func TestSendChangesNoList(t *testing.T) {
	w := busy(t)
	list, known, open, text := w.Chars(), w.Known(), w.Open(), w.Text()
	w.Send()
	if !slices.Equal(w.Chars(), list) || !slices.Equal(w.Known(), known) || !slices.Equal(w.Open(), open) || w.Text() != text || w.Seen() != 2 {
		t.Errorf("%s", told(w))
	}
}

// The log may have a deed of a writer that it did not send: it is heard all the same, and not sent any more.
func TestHearOfWhatWasNotSent(t *testing.T) {
	w := comes(t, 1, 1, 0, nil)
	a, b, c, d := put(t, w, 0, "a"), put(t, w, 1, "b"), put(t, w, 2, "c"), put(t, w, 3, "d")
	hearsOwn(t, w, a)
	follows(t, w, 1, a)
	if x, ok := w.Send(); !ok || x != b {
		t.Errorf("a was heard: %+v %v is sent", x, ok)
	}
	hearsOwn(t, w, b)
	hearsOwn(t, w, c)
	follows(t, w, 1, a, b, c)
	if w.Least() != 0 {
		t.Errorf("d was not sent: Least %d", w.Least())
	}
	if x, ok := w.Send(); !ok || x != d {
		t.Errorf("b and c were heard: %+v %v is sent", x, ok)
	}
	if x, ok := w.Send(); ok || w.Least() != 3 {
		t.Errorf("all were sent: %+v, Least %d", x, w.Least())
	}
	hearsOwn(t, w, d)
	follows(t, w, 1, a, b, c, d)
	e := put(t, w, 4, "e")
	hearsOwn(t, w, e)
	if x, ok := w.Send(); ok || len(w.Open()) != 0 {
		t.Errorf("the only one was heard: %+v, open %+v", x, w.Open())
	}
}

func TestLeast(t *testing.T) {
	w := comes(t, 0, 1, 2, nil)
	least := func(what string, want int) {
		t.Helper()
		if got := w.Least(); got != want {
			t.Errorf("%s: %d, want %d", what, got, want)
		}
	}
	other := func(no int) api.Deed { return puts(1, no, 2, 0, "o") }
	least("nothing was done", 2)
	hears(t, w, other(1))
	least("one was heard", 3)
	a := put(t, w, 0, "a")
	least("one was done", 3)
	hears(t, w, other(2))
	b := put(t, w, 0, "b")
	hears(t, w, other(3))
	least("a of 3 and b of 4 were not sent", 3)
	w.Send()
	least("a was sent", 4)
	c := put(t, w, 0, "c")
	hears(t, w, other(4))
	least("b of 4 and c of 5 were not sent", 4)
	hears(t, w, a)
	least("a was heard", 4)
	w.Send()
	least("b was sent", 5)
	w.Send()
	least("all were sent: as far as it has seen", 7)
	hears(t, w, b)
	least("all were sent, one was heard", 8)
	w.Put(0, "d")
	least("one more was done", 8)
	hears(t, w, c)
	least("c was heard, d of 8 was not sent", 8)
	w.Put(99, "refused")
	w.Send()
	least("d was sent", 9)
}

func TestHearOfOthers(t *testing.T) {
	w := comes(t, 3, 1, 0, nil)
	deeds := []api.Deed{puts(0, 1, 0, 0, "hello"), puts(1, 1, 0, 0, "x y"), puts(2, 1, 1, 5, "!"), puts(0, 2, 2, 3, "-"), takes(1, 2, 3, 0, 2), takes(0, 3, 2, 5, 2)}
	for i, text := range []string{"hello", "x yhello", "x yhello!", "x y-hello!", "y-hello!", "y-hlo!"} {
		hears(t, w, deeds[i])
		sees(t, w, text)
		follows(t, w, 3, deeds[:i+1]...)
		if w.Least() != i+1 || len(w.Open()) != 0 {
			t.Errorf("Least %d, open %+v", w.Least(), w.Open())
		}
	}
}

// The number of a deed is one behind what was seen, wherever the writer came.
func TestNumberOfWhatIsHeard(t *testing.T) {
	for _, seen := range []int{0, 1, 57, api.MaxLog - 1, api.MaxLog} {
		w := comes(t, 1, 1, seen, nil)
		own := put(t, w, 0, "o")
		hears(t, w, puts(0, 1, seen, 0, "ab"), own)
		// A deed says no more than MaxLog of how far its writer had seen.
		hears(t, w, takes(0, 2, min(seen+1, api.MaxLog), 0, 1))
		l := w.Chars()
		if a, o := of(t, l, 'a'), of(t, l, 'o'); a.In != seen+1 || o.In != seen+2 || w.Seen() != seen+3 {
			t.Errorf("seen %d: %s", seen, told(w))
		}
	}
}

// Of a log with more deeds than one may have, what has been heard was heard; but no deed can say that it has seen as much.
func TestBeyondMaxLog(t *testing.T) {
	w := comes(t, 1, 1, api.MaxLog, nil)
	put(t, w, 0, "a")
	hears(t, w, puts(0, 1, api.MaxLog, 0, "b"))
	was := told(w)
	if d, code := w.Put(0, "c"); code != api.ErrRange || d != (api.Deed{}) {
		t.Errorf("Put: %+v %d", d, code)
	}
	if d, code := w.Take(0, 1); code != api.ErrRange || d != (api.Deed{}) {
		t.Errorf("Take: %+v %d", d, code)
	}
	if told(w) != was {
		t.Errorf("changed: %s, was %s", told(w), was)
	}
	sees(t, w, "ab")
}

// A deed of another writer that can't be done has fold.Do's code, and has not been heard.
func TestHearOfWrongDeeds(t *testing.T) {
	w := busy(t)
	was := told(w)
	withMany, withText := puts(0, 2, 2, 0, "a"), takes(0, 2, 2, 0, 1)
	withMany.Many, withText.Text = 1, "a"
	deeds := []api.Deed{
		{}, {Kind: 3, By: 0, No: 2, Seen: 2, Text: "a"}, {Kind: -1, By: 2, No: 2, Seen: 2}, withMany, withText,
		puts(0, 2, 2, 0, ""), puts(0, 2, 2, 0, "\n"), puts(0, 2, 2, 0, "\x7f"), puts(0, 2, 2, 0, strings.Repeat("a", api.MaxPut+1)), puts(0, 2, 2, 9, "\n"),
		puts(0, 2, 2, 5, "a"), puts(0, 2, 1, 4, "a"), puts(0, 2, 0, 4, "a"), puts(2, 2, 0, 2, "a"),
		takes(0, 2, 2, 4, 1), takes(0, 2, 2, 0, 5), takes(0, 2, 1, 3, 1), takes(3, 1, 0, 0, 1), takes(0, 2, 2, 0, 0), takes(0, 2, 2, 0, api.MaxChars+1), takes(0, 2, 2, api.MaxChars, api.MaxChars),
		puts(0, 0, 2, 0, "a"), puts(0, api.MaxLog+1, 2, 0, "a"), puts(0, 2, api.MaxLog+1, 0, "a"), puts(0, 2, 2, api.MaxChars+1, "a"),
	}
	for _, n := range far {
		deeds = append(deeds, puts(0, n, 2, 0, "a"), puts(0, 2, n, 0, "a"), puts(0, 2, 2, n, "a"), takes(0, n, 2, 0, 1), takes(0, 2, n, 0, 1), takes(0, 2, 2, n, 1), takes(0, 2, 2, 0, n), takes(0, 2, 2, n, n), api.Deed{Kind: n, By: 0, No: 2, Seen: 2, Text: "a"})
	}
	for _, n := range noWriters {
		deeds = append(deeds, puts(n, 1, 2, 0, "a"), takes(n, 1, 2, 0, 1), api.Deed{By: n})
	}
	met := map[int]int{}
	for _, d := range deeds {
		_, want := fold.Do(w.Chars(), d, 3)
		if code := w.Hear(d); want == 0 || code != want {
			t.Errorf("Hear(%+v): %d, want %d", d, code, want)
		}
		if told(w) != was {
			t.Fatalf("Hear(%+v): changed: %s, was %s", d, told(w), was)
		}
		met[want]++
	}
	for _, code := range []int{api.ErrKind, api.ErrRange, api.ErrForm, api.ErrText} {
		if met[code] == 0 {
			t.Errorf("no deed met code %d", code)
		}
	}
	// What was refused has taken no number.
	hears(t, w, puts(0, 2, 2, 4, "y"))
	if of(t, w.Chars(), 'y').In != 3 {
		t.Errorf("%s", told(w))
	}
	sees(t, w, "Aabxy")
}

// Whatever is wrong with Put and Take changes nothing, not the number of the next deed and what is sent next either.
func TestWrongDeedsOfItsOwn(t *testing.T) {
	w := busy(t)
	was := told(w)
	for _, n := range append([]int{5, 6, api.MaxChars, api.MaxChars + 1}, far...) {
		if d, code := w.Put(n, "a"); code != api.ErrRange || d != (api.Deed{}) {
			t.Errorf("Put(%d): %+v %d", n, d, code)
		}
		if d, code := w.Take(n, 1); code != api.ErrRange || d != (api.Deed{}) {
			t.Errorf("Take(%d, 1): %+v %d", n, d, code)
		}
		for _, m := range append([]int{0, 5, api.MaxChars}, far...) {
			if d, code := w.Take(n, m); code != api.ErrRange || d != (api.Deed{}) {
				t.Errorf("Take(%d, %d): %+v %d", n, m, d, code)
			}
		}
		if d, code := w.Take(0, n); code != api.ErrRange || d != (api.Deed{}) {
			t.Errorf("Take(0, %d): %+v %d", n, d, code)
		}
	}
	for _, text := range []string{"", "\n", "a\tb", "\x00", "\x7f", "\xff", "ü", strings.Repeat("a", api.MaxPut+1), strings.Repeat("a", 1<<20)} {
		if d, code := w.Put(0, text); code != api.ErrText || d != (api.Deed{}) {
			t.Errorf("Put(0, %.30q): %+v %d", text, d, code)
		}
	}
	if told(w) != was {
		t.Errorf("changed: %s, was %s", told(w), was)
	}
	if d, ok := w.Send(); !ok || d != takes(1, 2, 2, 3, 1) {
		t.Errorf("Send: %+v %v", d, ok)
	}
	if d := put(t, w, 4, "z"); d != puts(1, 3, 2, 4, "z") {
		t.Errorf("Put: %+v", d)
	}
}

func TestHearOther(t *testing.T) {
	w := busy(t)
	eldest, second := w.Open()[0], w.Open()[1]
	was := told(w)
	differs := func(change func(*api.Deed)) api.Deed {
		d := eldest
		change(&d)
		return d
	}
	for _, x := range []struct {
		name string
		d    api.Deed
	}{
		{"the second one", second},
		{"the kind differs", differs(func(d *api.Deed) { d.Kind = api.DTake })},
		{"no kind", differs(func(d *api.Deed) { d.Kind = 0 })},
		{"No differs, above", differs(func(d *api.Deed) { d.No++ })},
		{"No differs, below", differs(func(d *api.Deed) { d.No-- })},
		{"Seen differs, above", differs(func(d *api.Deed) { d.Seen++ })},
		{"Seen differs, below", differs(func(d *api.Deed) { d.Seen-- })},
		{"At differs, above", differs(func(d *api.Deed) { d.At++ })},
		{"At differs, below", differs(func(d *api.Deed) { d.At-- })},
		{"Many differs", differs(func(d *api.Deed) { d.Many = 1 })},
		{"Text differs", differs(func(d *api.Deed) { d.Text = "B" })},
		{"Text is longer", differs(func(d *api.Deed) { d.Text = "AA" })},
		{"Text is empty", differs(func(d *api.Deed) { d.Text = "" })},
		{"no deed, but its own", api.Deed{By: 1}},
		{"can't be done, and its own", puts(1, 1, 1, 99, "A")},
		{"Text of no deed, and its own", puts(1, 1, 1, 0, "\n")},
		{"far off, and its own", api.Deed{Kind: math.MaxInt, By: 1, No: math.MinInt, Seen: math.MaxInt, At: math.MinInt, Many: math.MaxInt}},
	} {
		if code := w.Hear(x.d); code != api.ErrOther {
			t.Errorf("%s: %d", x.name, code)
		}
		if told(w) != was {
			t.Errorf("%s: changed: %s, was %s", x.name, told(w), was)
		}
	}
	// By differs: then it is another writer's, and it is done.
	twin := busy(t)
	hears(t, twin, differs(func(d *api.Deed) { d.By = 3 }))
	if !slices.Equal(twin.Open(), w.Open()) || twin.Text() != "AAabx" {
		t.Errorf("%s", told(twin))
	}
	hears(t, w, eldest)
	for _, d := range []api.Deed{eldest, {By: 1}} {
		if code := w.Hear(d); code != api.ErrOther || len(w.Open()) != 1 {
			t.Errorf("the eldest was heard: Hear(%+v): %d", d, code)
		}
	}
	hears(t, w, second)
	was = told(w)
	for _, d := range []api.Deed{eldest, second, {By: 1}, puts(1, 3, 4, 0, "n")} {
		if code := w.Hear(d); code != api.ErrOther || told(w) != was {
			t.Errorf("none is open: Hear(%+v): %d", d, code)
		}
	}
}

// Writer 0 has the number of the zero deed's By: that is its own, and not its eldest one.
func TestHearOtherOfWriter0(t *testing.T) {
	w := comes(t, 0, 1, 0, nil)
	if code := w.Hear(api.Deed{}); code != api.ErrOther {
		t.Errorf("none is open: %d", code)
	}
	put(t, w, 0, "a")
	if code := w.Hear(api.Deed{}); code != api.ErrOther {
		t.Errorf("one is open: %d", code)
	}
	if code := comes(t, 1, 1, 0, nil).Hear(api.Deed{}); code != api.ErrKind {
		t.Errorf("of another one: %d", code)
	}
}

func TestHearOwnPut(t *testing.T) {
	w := comes(t, 2, 1, 0, nil)
	first, second := put(t, w, 0, "ab"), put(t, w, 1, "cd")
	for _, c := range w.Chars() {
		if c.In != api.Open || c.By != 2 {
			t.Errorf("what is open: %+v", c)
		}
	}
	hearsOwn(t, w, first)
	want := []api.Char{{C: 'a', By: 2, No: 1, In: 1}, {C: 'c', By: 2, No: 2, In: api.Open}, {C: 'd', By: 2, No: 2, K: 1, In: api.Open}, {C: 'b', By: 2, No: 1, K: 1, In: 1}}
	if !slices.Equal(w.Chars(), want) {
		t.Errorf("the first was heard: %+v, want %+v", w.Chars(), want)
	}
	hears(t, w, puts(0, 1, 1, 1, "x"))
	hearsOwn(t, w, second)
	l := w.Chars()
	if letters(l) != "acdxb" || l[0].In != 1 || l[1].In != 3 || l[2].In != 3 || l[3].In != 2 || l[4].In != 1 {
		t.Errorf("both were heard: %+v", l)
	}
	follows(t, w, 2, first, puts(0, 1, 1, 1, "x"), second)
}

func TestHearOwnTake(t *testing.T) {
	start := puts(0, 1, 0, 0, "abcdef")
	w := comes(t, 2, 1, 1, folded(t, start))
	first, second := take(t, w, 1, 2), take(t, w, 1, 2) // bc, then de
	for _, c := range w.Chars() {
		if c.Out != 0 || (c.Gone == 4) != strings.Contains("bcde", string(c.C)) {
			t.Errorf("what is open: %+v", c)
		}
	}
	hearsOwn(t, w, first)
	for _, c := range w.Chars() {
		if (c.Out == 2) != strings.Contains("bc", string(c.C)) {
			t.Errorf("the first was heard: %+v", c)
		}
	}
	follows(t, w, 2, start, first)
	hears(t, w, puts(1, 1, 1, 3, "x"))
	hearsOwn(t, w, second)
	for _, c := range w.Chars() {
		if (c.Out == 2) != strings.Contains("bc", string(c.C)) || (c.Out == 4) != strings.Contains("de", string(c.C)) {
			t.Errorf("both were heard: %+v", c)
		}
	}
	follows(t, w, 2, start, first, puts(1, 1, 1, 3, "x"), second)
	sees(t, w, "axf")
}

// It takes away what it put in itself, ahead of hearing either and in between.
func TestTakeOfItsOwn(t *testing.T) {
	w := comes(t, 1, 1, 0, nil)
	in := put(t, w, 0, "abc")
	out := take(t, w, 1, 1)
	sees(t, w, "ac")
	if b := of(t, w.Chars(), 'b'); b.In != api.Open || b.Out != 0 || b.Gone != 2 {
		t.Errorf("both are open: %+v", b)
	}
	hearsOwn(t, w, in)
	if b := of(t, w.Chars(), 'b'); b.In != 1 || b.Out != 0 || b.Gone != 2 {
		t.Errorf("its coming was heard: %+v", b)
	}
	if b := of(t, w.Known(), 'b'); b.In != 1 || b.Out != 0 || b.Gone != 0 {
		t.Errorf("its coming is known: %+v", b)
	}
	hears(t, w, puts(0, 1, 0, 0, "x"))
	hearsOwn(t, w, out)
	if b := of(t, w.Chars(), 'b'); b.In != 1 || b.Out != 3 || b.Gone != 2 {
		t.Errorf("its going was heard: %+v", b)
	}
	follows(t, w, 1, in, puts(0, 1, 0, 0, "x"), out)
	// One take of bytes that it and others put in, some of them heard and some not.
	more := put(t, w, 2, "yz")
	all := take(t, w, 0, 5)
	sees(t, w, "")
	hearsOwn(t, w, more)
	hearsOwn(t, w, all)
	follows(t, w, 1, in, puts(0, 1, 0, 0, "x"), out, more, all)
	for _, c := range w.Chars() {
		if c.C != 'b' && (c.Out != 5 || c.Gone != 2) {
			t.Errorf("%+v", c)
		}
	}
}

// Both take a byte away: Out is the lower number of the log, and both have their bits.
func TestBothTakeItAway(t *testing.T) {
	start := puts(0, 1, 0, 0, "abc")
	theirs := takes(2, 1, 1, 1, 2) // b and c
	t.Run("the other one is the first in the log", func(t *testing.T) {
		w := comes(t, 1, 1, 1, folded(t, start))
		mine := take(t, w, 0, 2) // a and b
		hears(t, w, theirs)
		if b := of(t, w.Chars(), 'b'); b.Out != 2 || b.Gone != 6 {
			t.Errorf("it is gone, and gone again: %+v", b)
		}
		if b := of(t, w.Known(), 'b'); b.Out != 2 || b.Gone != 4 {
			t.Errorf("what is known: %+v", b)
		}
		follows(t, w, 1, start, theirs)
		hearsOwn(t, w, mine)
		l := w.Chars()
		if a, b, c := of(t, l, 'a'), of(t, l, 'b'), of(t, l, 'c'); a.Out != 3 || a.Gone != 2 || b.Out != 2 || b.Gone != 6 || c.Out != 2 || c.Gone != 4 {
			t.Errorf("%+v", l)
		}
		follows(t, w, 1, start, theirs, mine)
	})
	t.Run("it is the first in the log", func(t *testing.T) {
		w := comes(t, 1, 1, 1, folded(t, start))
		mine := take(t, w, 0, 2)
		hearsOwn(t, w, mine)
		hears(t, w, theirs)
		l := w.Chars()
		if a, b, c := of(t, l, 'a'), of(t, l, 'b'), of(t, l, 'c'); a.Out != 2 || a.Gone != 2 || b.Out != 2 || b.Gone != 6 || c.Out != 3 || c.Gone != 4 {
			t.Errorf("%+v", l)
		}
		follows(t, w, 1, start, mine, theirs)
	})
	t.Run("two others were the first", func(t *testing.T) {
		w := comes(t, 1, 1, 1, folded(t, start))
		mine := take(t, w, 1, 1)
		more := takes(3, 1, 1, 0, 3)
		hears(t, w, theirs, more)
		hearsOwn(t, w, mine)
		if b := of(t, w.Chars(), 'b'); b.Out != 2 || b.Gone != 14 {
			t.Errorf("%+v", b)
		}
		follows(t, w, 1, start, theirs, more, mine)
	})
	t.Run("in between two others", func(t *testing.T) {
		w := comes(t, 1, 1, 1, folded(t, start))
		mine := take(t, w, 0, 3)
		more := takes(3, 1, 1, 0, 3)
		hears(t, w, theirs)
		hearsOwn(t, w, mine)
		hears(t, w, more)
		l := w.Chars()
		if a, b := of(t, l, 'a'), of(t, l, 'b'); a.Out != 3 || a.Gone != 10 || b.Out != 2 || b.Gone != 14 {
			t.Errorf("%+v", l)
		}
		follows(t, w, 1, start, theirs, mine, more)
	})
	t.Run("what it knows to be gone it can't take away", func(t *testing.T) {
		w := comes(t, 1, 1, 1, folded(t, start))
		hears(t, w, theirs)
		if d, code := w.Take(0, 2); code != api.ErrRange {
			t.Errorf("%+v %d", d, code)
		}
	})
}

func TestKnown(t *testing.T) {
	w := busy(t)
	if got := letters(w.Known()); got != "abcx" {
		t.Errorf("without what is open: %q", got)
	}
	if c := of(t, w.Known(), 'c'); c.Gone != 0 {
		t.Errorf("its bit, of what is open: %+v", c)
	}
	if c := of(t, w.Chars(), 'c'); c.Gone != 2 {
		t.Errorf("its list has it: %+v", c)
	}
	follows(t, w, 1, puts(0, 1, 0, 0, "abc"), puts(2, 1, 1, 3, "x"))
	// What it took away, and was heard, stays taken away; and what a younger deed took is as if it had not.
	eldest, second := w.Open()[0], w.Open()[1]
	take(t, w, 0, 2) // A and a
	hears(t, w, eldest, second)
	if c := of(t, w.Known(), 'c'); c.Gone != 2 || c.Out != 4 {
		t.Errorf("what was heard: %+v", c)
	}
	if a := of(t, w.Known(), 'A'); a.Gone != 0 || a.Out != 0 || a.In != 3 {
		t.Errorf("its own, that it took away: %+v", a)
	}
	if a := of(t, w.Known(), 'a'); a.Gone != 0 || a.Out != 0 {
		t.Errorf("another one's, that it took away: %+v", a)
	}
	follows(t, w, 1, puts(0, 1, 0, 0, "abc"), puts(2, 1, 1, 3, "x"), eldest, second)
}

// A bit that came with the list is of no open deed: Known leaves it.
func TestKnownOfBitsThatCame(t *testing.T) {
	l := []api.Char{{C: 'a', By: 0, No: 1, In: 1, Gone: 2}, {C: 'b', By: 0, No: 1, K: 1, In: 1, Out: 2, Gone: 6}, {C: 'c', By: 0, No: 1, K: 2, In: 1}}
	w := comes(t, 1, 3, 2, l)
	sees(t, w, "c")
	d := take(t, w, 0, 1)
	if !slices.Equal(w.Known(), l) {
		t.Errorf("%+v, want %+v", w.Known(), l)
	}
	hearsOwn(t, w, d)
	l[2].Out, l[2].Gone = 3, 2
	if !slices.Equal(w.Known(), l) || !slices.Equal(w.Chars(), l) {
		t.Errorf("%+v, want %+v", w.Known(), l)
	}
}

// A log that tells another's deed twice, and a list that is ahead of the writer's next deed, make bytes of one name. Each of its deeds has its number where it was done, and nowhere else.
func TestBytesOfOneName(t *testing.T) {
	twice := puts(0, 1, 0, 0, "a")
	for at := range 2 {
		w := comes(t, 1, 1, 0, nil)
		hears(t, w, twice, twice)
		was := w.Chars()
		d := take(t, w, at, 1)
		if !slices.Equal(w.Known(), was) {
			t.Errorf("at %d: %+v, want %+v", at, w.Known(), was)
		}
		hearsOwn(t, w, d)
		for i, c := range w.Chars() {
			if want := i == at; (c.Out == 3) != want || (c.Gone == 2) != want {
				t.Errorf("at %d: %+v", at, w.Chars())
			}
		}
	}
	for at := range 2 {
		w := comes(t, 1, 1, 1, []api.Char{{C: 'a', By: 1, No: 1, In: 1}})
		in := put(t, w, 1, "b")
		out := take(t, w, at, 1)
		hearsOwn(t, w, in)
		if l := w.Chars(); l[0].In != 1 || l[1].In != 2 {
			t.Errorf("at %d: %+v", at, l)
		}
		if l := w.Known(); len(l) != 2 || l[0].Gone != 0 || l[1].Gone != 0 {
			t.Errorf("at %d: it knows %+v", at, l)
		}
		hearsOwn(t, w, out)
		for i, c := range w.Chars() {
			if want := i == at; (c.Out == 3) != want || (c.Gone == 2) != want {
				t.Errorf("at %d: %+v", at, w.Chars())
			}
		}
	}
}

// Others put in where it has bytes that are open: its own stand ahead, as they will when the log has them.
func TestPutsAtOnePlace(t *testing.T) {
	start := puts(0, 1, 0, 0, "()")
	w := comes(t, 1, 1, 1, folded(t, start))
	heard := []api.Deed{start}
	hear := func(d api.Deed) {
		t.Helper()
		hears(t, w, d)
		heard = append(heard, d)
		follows(t, w, 1, heard...)
	}
	a := put(t, w, 1, "a")
	b := put(t, w, 2, "b")
	hear(puts(2, 1, 1, 1, "x"))
	sees(t, w, "(abx)")
	c := put(t, w, 3, "c")
	sees(t, w, "(abcx)")
	hear(puts(3, 1, 1, 1, "y"))
	sees(t, w, "(abcyx)")
	hear(puts(3, 2, 2, 3, "z"))
	sees(t, w, "(abcyxz)")
	hear(a)
	hear(puts(0, 2, 1, 1, "u"))
	sees(t, w, "(uabcyxz)")
	hear(b)
	hear(c)
	hear(puts(0, 3, 6, 3, "v"))
	sees(t, w, "(uavbcyxz)")
}

func TestExamples(t *testing.T) {
	ab, c := puts(0, 1, 0, 0, "ab"), puts(1, 1, 0, 0, "c")
	one, two := comes(t, 0, 1, 0, nil), comes(t, 1, 1, 0, nil)
	if d := put(t, one, 0, "ab"); d != ab {
		t.Errorf("%+v", d)
	}
	if d := put(t, two, 0, "c"); d != c {
		t.Errorf("%+v", d)
	}
	sees(t, one, "ab")
	sees(t, two, "c")
	hears(t, one, ab)
	sees(t, one, "ab")
	hears(t, two, ab)
	sees(t, two, "cab")
	hears(t, one, c)
	hears(t, two, c)
	sees(t, one, "cab")
	sees(t, two, "cab")
	if !slices.Equal(one.Chars(), two.Chars()) {
		t.Errorf("%+v and %+v", one.Chars(), two.Chars())
	}

	start := puts(0, 1, 0, 0, "abc")
	w := comes(t, 2, 1, 1, folded(t, start))
	bc := take(t, w, 1, 2)
	sees(t, w, "a")
	hears(t, w, takes(1, 1, 1, 1, 1), bc)
	sees(t, w, "a")
	if of(t, w.Chars(), 'b').Out != 2 || of(t, w.Chars(), 'c').Out != 3 {
		t.Errorf("%+v", w.Chars())
	}
}

func TestClear(t *testing.T) {
	// xabhello, of which e and the first l are gone at 3; a, b and h at 4; the second l at 6.
	deeds := []api.Deed{puts(0, 1, 0, 0, "hello"), puts(1, 1, 0, 0, "ab"), takes(2, 1, 1, 1, 2), takes(1, 2, 2, 0, 3), puts(3, 1, 4, 0, "x"), takes(0, 2, 3, 2, 2)}
	for _, x := range []struct {
		least int
		less  int
		want  string
	}{
		{math.MinInt, 0, "xabhello"}, {-1, 0, "xabhello"}, {0, 0, "xabhello"}, {1, 0, "xabhello"}, {2, 0, "xabhello"},
		{3, 2, "xabhlo"}, {4, 5, "xlo"}, {5, 5, "xlo"}, {6, 6, "xo"}, {7, 6, "xo"}, {api.Open, 6, "xo"}, {math.MaxInt, 6, "xo"},
	} {
		w := comes(t, 2, 2, 6, folded(t, deeds...))
		list := w.Chars()
		if less := w.Clear(x.least); less != x.less || letters(w.Chars()) != x.want || !slices.Equal(w.Chars(), clear.Of(list, x.least)) {
			t.Errorf("Clear(%d): %d, want %d; %q, want %q", x.least, less, x.less, letters(w.Chars()), x.want)
		}
		if !slices.Equal(w.Known(), w.Chars()) || w.Seen() != 6 || w.Least() != 6 || len(w.Open()) != 0 {
			t.Errorf("Clear(%d): %s", x.least, told(w))
		}
		sees(t, w, "xo")
		was := told(w)
		if less := w.Clear(x.least); less != 0 || told(w) != was {
			t.Errorf("Clear(%d) again: %d", x.least, less)
		}
		if d := put(t, w, 1, "y"); d != puts(2, 2, 6, 1, "y") {
			t.Errorf("%+v", d)
		}
		sees(t, w, "xyo")
	}
	if less := comes(t, 0, 1, 0, nil).Clear(math.MaxInt); less != 0 {
		t.Errorf("Clear of no bytes: %d", less)
	}
}

// It forgets as far as all have seen, with deeds that are open: none of them, and none that comes, is changed by it.
func TestClearUnderOpenDeeds(t *testing.T) {
	heard := []api.Deed{puts(0, 1, 0, 0, "abcdefg"), takes(2, 1, 1, 1, 2)} // bc are gone at 2
	w := comes(t, 1, 1, 2, folded(t, heard...))
	x, gone := put(t, w, 1, "x"), take(t, w, 2, 2) // right behind a; then d and e
	sees(t, w, "axfg")
	more := []api.Deed{takes(2, 2, 2, 1, 1), takes(3, 1, 2, 4, 1)} // d at 3, g at 4
	hears(t, w, more...)
	sees(t, w, "axf")
	// The open deeds had seen 2: no more may be forgotten yet.
	if less := w.Clear(2); less != 2 || letters(w.Chars()) != "axdefg" || letters(w.Known()) != "adefg" {
		t.Errorf("%d: %q, known %q", less, letters(w.Chars()), letters(w.Known()))
	}
	if d := of(t, w.Known(), 'd'); d.Gone != 4 || d.Out != 3 {
		t.Errorf("what another one took, too: %+v", d)
	}
	if !slices.Equal(w.Open(), []api.Deed{x, gone}) || w.Seen() != 4 || w.Least() != 2 {
		t.Errorf("%s", told(w))
	}
	sees(t, w, "axf")
	hears(t, w, puts(3, 2, 3, 1, "y"))
	sees(t, w, "axyf")
	hearsOwn(t, w, x)
	hearsOwn(t, w, gone)
	all := folded(t, slices.Concat(heard, more, []api.Deed{puts(3, 2, 3, 1, "y"), x, gone})...)
	if !slices.Equal(w.Chars(), clear.Of(all, 2)) {
		t.Errorf("%+v, want %+v", w.Chars(), clear.Of(all, 2))
	}
	if less := w.Clear(7); less != 3 || !slices.Equal(w.Chars(), clear.Of(all, 7)) {
		t.Errorf("%d: %+v, want %+v", less, w.Chars(), clear.Of(all, 7))
	}
	sees(t, w, "axyf")
}

// A least that is too high for what is open forgets bytes that a deed took away, and that deed is heard all the same.
func TestClearTooFar(t *testing.T) {
	w := comes(t, 1, 1, 1, folded(t, puts(0, 1, 0, 0, "abc")))
	d := take(t, w, 0, 2)
	hears(t, w, takes(2, 1, 1, 0, 1))
	if less := w.Clear(2); less != 1 || letters(w.Chars()) != "bc" || letters(w.Known()) != "bc" {
		t.Errorf("%d: %s", less, told(w))
	}
	hearsOwn(t, w, d)
	if l := w.Chars(); letters(l) != "bc" || l[0].Out != 3 || l[1].Out != 0 {
		t.Errorf("%+v", l)
	}
	sees(t, w, "c")
}

// filled is writer 1 with a list of so many bytes, all of which it sees; they came with 10 deeds of writer 0.
func filled(t *testing.T, many int) *Writer {
	t.Helper()
	l := make([]api.Char, many)
	for i := range l {
		l[i] = api.Char{C: 'x', No: 1 + i/api.MaxPut, K: i % api.MaxPut, In: 1 + i/api.MaxPut}
	}
	return comes(t, 1, 1, 10, l)
}

func TestFull(t *testing.T) {
	w := filled(t, api.MaxChars-1)
	was := told(w)
	if d, code := w.Put(0, "yz"); code != api.ErrFull || d != (api.Deed{}) || told(w) != was {
		t.Errorf("Put, one too many: %+v %d", d, code)
	}
	if code := w.Hear(puts(0, 11, 10, 0, "yz")); code != api.ErrFull || told(w) != was {
		t.Errorf("Hear, one too many: %d", code)
	}
	if d, code := w.Put(api.MaxChars, "yz"); code != api.ErrRange || d != (api.Deed{}) || told(w) != was {
		t.Errorf("what it sees is told ahead: %+v %d", d, code)
	}
	y := put(t, w, api.MaxChars-1, "y")
	was = told(w)
	for _, at := range []int{0, 100, api.MaxChars} {
		if d, code := w.Put(at, "z"); code != api.ErrFull || d != (api.Deed{}) || told(w) != was {
			t.Errorf("Put(%d), it is full: %+v %d", at, d, code)
		}
	}
	if code := w.Hear(puts(0, 11, 10, 0, "z")); code != api.ErrFull || told(w) != was {
		t.Errorf("Hear, it is full with what is open: %d", code)
	}
	// What is gone takes up room until it is forgotten; what is taken away needs none.
	out := take(t, w, 0, 2)
	if d, code := w.Put(0, "z"); code != api.ErrFull {
		t.Errorf("Put, two were taken away: %+v %d", d, code)
	}
	hears(t, w, takes(0, 11, 10, 0, 2))
	hearsOwn(t, w, y)
	hearsOwn(t, w, out)
	if d, code := w.Put(0, "z"); code != api.ErrFull {
		t.Errorf("Put, two are gone: %+v %d", d, code)
	}
	if code := w.Hear(puts(0, 12, 13, 0, "z")); code != api.ErrFull {
		t.Errorf("Hear, two are gone: %d", code)
	}
	if less := w.Clear(10); less != 0 {
		t.Errorf("Clear: %d", less)
	}
	if less := w.Clear(13); less != 2 {
		t.Errorf("Clear: %d", less)
	}
	put(t, w, 0, "z")
	hears(t, w, puts(0, 12, 13, 0, "u"))
	if d, code := w.Put(0, "z"); code != api.ErrFull || len(w.Chars()) != api.MaxChars {
		t.Errorf("Put, it is full again: %+v %d", d, code)
	}
	sees(t, w, "zu"+strings.Repeat("x", api.MaxChars-3)+"y")
}

// All of a full list can be taken away at once.
func TestTakeOfAll(t *testing.T) {
	w := filled(t, api.MaxChars)
	if d, code := w.Take(1, api.MaxChars); code != api.ErrRange || d != (api.Deed{}) {
		t.Errorf("one further: %+v %d", d, code)
	}
	d := take(t, w, 0, api.MaxChars)
	sees(t, w, "")
	if len(w.Known()) != api.MaxChars || w.Known()[0].Gone != 0 {
		t.Errorf("%+v", w.Known()[0])
	}
	hearsOwn(t, w, d)
	if less := w.Clear(11); less != api.MaxChars || len(w.Chars()) != 0 {
		t.Errorf("Clear: %d", less)
	}
}

// What is answered is the asker's: to change it, or what lies behind it, changes no writer and no other answer.
func TestAnswersAreNew(t *testing.T) {
	w := busy(t)
	was := told(w)
	chars1, known, open := w.Chars(), w.Known(), w.Open()
	chars2, known2, open2 := slices.Clone(chars1), slices.Clone(known), slices.Clone(open)
	for _, l := range [][]api.Char{w.Chars(), w.Known()} {
		for i := range l {
			l[i] = canary
		}
		l = append(l[:1], canary)
		for i := range l[:cap(l)] {
			l[:cap(l)][i] = canary
		}
	}
	l := w.Open()
	for i := range l {
		l[i] = api.Deed{Kind: 9, Text: "changed"}
	}
	_ = append(l[:1], api.Deed{Kind: 7})
	if told(w) != was {
		t.Errorf("changed: %s, was %s", told(w), was)
	}
	// And what was answered stays when the writer goes on.
	hears(t, w, open[0], open[1])
	put(t, w, 0, "new")
	take(t, w, 1, 3)
	hears(t, w, takes(0, 2, 2, 0, 1))
	w.Clear(5)
	if !slices.Equal(chars1, chars2) || !slices.Equal(known, known2) || !slices.Equal(open, open2) {
		t.Errorf("answers changed: %+v %+v %+v", chars1, known, open)
	}
}

// The memory of a Text that is handed in is not kept: it may be a piece of a long one.
func TestTextIsNotKept(t *testing.T) {
	w := comes(t, 0, 1, 0, nil)
	text := strings.Repeat("long", 1000)[1:5]
	put(t, w, 0, text)
	d := w.Open()[0]
	if d.Text != "ongl" || unsafe.StringData(d.Text) == unsafe.StringData(text) {
		t.Errorf("%+v", d)
	}
}

// Two writers know nothing of each other, be they of one number and one list.
func TestTwoWriters(t *testing.T) {
	l := folded(t, puts(0, 1, 0, 0, "abc"), takes(3, 1, 1, 0, 1))
	one, two := comes(t, 1, 1, 2, l), comes(t, 1, 1, 2, l)
	was := told(two)
	d := put(t, one, 1, "x")
	take(t, one, 0, 2)
	one.Send()
	hears(t, one, puts(2, 1, 2, 0, "y"), d)
	one.Clear(2)
	if told(two) != was {
		t.Errorf("the second: %s, was %s", told(two), was)
	}
	was = told(one)
	put(t, two, 0, "z")
	hears(t, two, takes(2, 1, 2, 0, 2))
	two.Clear(3)
	if d, ok := two.Send(); !ok || d != puts(1, 1, 2, 0, "z") {
		t.Errorf("the second sends %+v %v", d, ok)
	}
	if told(one) != was {
		t.Errorf("the first: %s, was %s", told(one), was)
	}
	if d, ok := one.Send(); !ok || d != takes(1, 2, 2, 0, 2) {
		t.Errorf("the first sends %+v %v", d, ok)
	}
}

// office is a log, and writers that speak to it.
type office struct {
	g       *log.Log
	writers map[int]*Writer
	cleared map[int]int  // how far each has forgotten
	deeds   []api.Deed   // of the log
	lists   [][]api.Char // fold.All of the first deeds, by how many
}

func newOffice() *office {
	return &office{g: log.New(), writers: map[int]*Writer{}, cleared: map[int]int{}, lists: [][]api.Char{nil}}
}

func (o *office) join(t *testing.T, me int) {
	t.Helper()
	next, code := o.g.Join(me)
	if code != 0 {
		t.Fatalf("Join(%d): %d", me, code)
	}
	o.writers[me] = comes(t, me, next, o.g.Len(), o.g.Chars())
	o.cleared[me] = 0
}

func (o *office) leave(me int) {
	o.g.Leave(me)
	delete(o.writers, me)
}

// send brings a deed to the log; false: there is none. Who can't bring what it did goes: it has forgotten what the log has not, and had room that the log has not.
func (o *office) send(t *testing.T, me int) bool {
	t.Helper()
	d, ok := o.writers[me].Send()
	if !ok {
		return false
	}
	n, code := o.g.Take(d)
	if code == api.ErrFull {
		o.leave(me)
		return false
	}
	if code != 0 || n != len(o.deeds)+1 {
		t.Fatalf("the log does not take %+v: %d %d", d, n, code)
	}
	o.deeds = append(o.deeds, d)
	o.lists = append(o.lists, folded(t, o.deeds...))
	return true
}

// hear tells a writer the next deed of the log; false: there is none. It says then what its Least is. Who has no room for it goes.
func (o *office) hear(t *testing.T, me int) bool {
	t.Helper()
	w := o.writers[me]
	d, ok := o.g.Deed(w.Seen() + 1)
	if !ok {
		return false
	}
	was := w.Text()
	code := w.Hear(d)
	if code == api.ErrFull {
		o.leave(me)
		return false
	}
	if code != 0 {
		t.Fatalf("%d can't hear %+v: %d", me, d, code)
	}
	if d.By == me && w.Text() != was {
		t.Fatalf("%d heard its own %+v and sees %q, saw %q", me, d, w.Text(), was)
	}
	if code := o.g.Says(me, w.Least()); code != 0 {
		t.Fatalf("%d can't say %d: %d", me, w.Least(), code)
	}
	return true
}

// clear lets a writer forget as far as it may.
func (o *office) clear(t *testing.T, me int) int {
	t.Helper()
	w := o.writers[me]
	least := o.g.Least()
	for _, d := range o.deeds[w.Seen():] {
		least = min(least, d.Seen)
	}
	was, list := w.Text(), w.Chars()
	less := w.Clear(least)
	if w.Text() != was || less != len(list)-len(w.Chars()) || !slices.Equal(w.Chars(), clear.Of(list, least)) {
		t.Fatalf("%d cleared as far as %d: %q, saw %q; %d less: %+v, was %+v", me, least, w.Text(), was, less, w.Chars(), list)
	}
	o.cleared[me] = max(o.cleared[me], least)
	return less
}

// holds holds each writer against the deeds that it has seen, and its own on top.
func (o *office) holds(t *testing.T) {
	t.Helper()
	for me, w := range o.writers {
		all := o.lists[w.Seen()]
		known := clear.Of(all, o.cleared[me])
		if !slices.Equal(w.Known(), known) {
			t.Fatalf("%d knows %+v, want %+v", me, w.Known(), known)
		}
		list, code := onTop(known, w.Open())
		if code != 0 || !slices.Equal(w.Chars(), list) {
			t.Fatalf("%d has %+v, want %+v (%d)", me, w.Chars(), list, code)
		}
		if w.Text() != string(chars.View(list, w.Seen(), me)) {
			t.Fatalf("%d sees %q, and has %+v", me, w.Text(), list)
		}
		// Nobody sees a difference when what is gone is forgotten; but what was forgotten leaves room.
		if whole, code := onTop(all, w.Open()); code != api.ErrFull && w.Text() != string(chars.View(whole, w.Seen(), me)) {
			t.Fatalf("%d sees %q, and would see %q if it had forgotten nothing", me, w.Text(), chars.View(whole, w.Seen(), me))
		}
	}
}

// settle lets all send and hear all that there is: they see the log's text then.
func (o *office) settle(t *testing.T) {
	t.Helper()
	for me := range api.MaxWriters {
		for o.writers[me] != nil && o.send(t, me) {
		}
	}
	for me := range api.MaxWriters {
		for o.writers[me] != nil && o.hear(t, me) {
		}
	}
	for me, w := range o.writers {
		if w.Text() != o.g.Text() || len(w.Open()) != 0 || w.Seen() != o.g.Len() || w.Least() != o.g.Len() {
			t.Fatalf("%d sees %q, the log is %q: %s", me, w.Text(), o.g.Text(), told(w))
		}
	}
}

// step is one that a writer that is there can take.
func (o *office) step(t *testing.T, r *rand.Rand, me int, met map[string]int) {
	t.Helper()
	w := o.writers[me]
	switch kind := r.Intn(20); {
	case kind < 6:
		at := r.Intn(len(w.Text()) + 1)
		if _, code := w.Put(at, "abcdefghijklmnopqrst"[r.Intn(17):][:1+r.Intn(3)]); code == 0 {
			met["put"]++
		}
	case kind < 9:
		if many := len(w.Text()); many > 0 {
			at := r.Intn(many)
			take(t, w, at, 1+r.Intn(min(3, many-at)))
			met["take"]++
		}
	case kind < 12:
		if o.send(t, me) {
			met["send"]++
		}
	case kind < 18:
		for range 1 + r.Intn(3) {
			if o.writers[me] != nil && o.hear(t, me) {
				met["hear"]++
			}
		}
	case kind == 18:
		met["cleared"] += o.clear(t, me)
	case r.Intn(10) == 0:
		o.leave(me)
		met["leave"]++
	}
}

// Several writers speak to one log, in whatever order: each has what the log has as it knows it, and its own deeds on top; and all come to the same text.
func TestOffice(t *testing.T) {
	r := rand.New(rand.NewSource(11))
	met := map[string]int{}
	for range 25 {
		o := newOffice()
		for range 300 {
			me := r.Intn(api.MaxWriters)
			if o.writers[me] == nil {
				o.join(t, me)
				met["join"]++
			}
			if o.g.Len() > 90 {
				break
			}
			o.step(t, r, me, met)
			o.holds(t)
			if r.Intn(60) == 0 && o.g.Len() < 60 {
				o.settle(t)
				o.holds(t)
			}
		}
		o.settle(t)
		o.holds(t)
		for me := range o.writers {
			o.clear(t, me)
		}
		o.holds(t)
	}
	for _, kind := range []string{"join", "put", "take", "send", "hear", "cleared", "leave"} {
		if met[kind] < 20 {
			t.Errorf("%s was met %d times: %v", kind, met[kind], met)
		}
	}
}

// item of a page: a byte, and the No of the open deed of the page's writer that took it away (0: none).
type item struct {
	api.Char
	took int
}

// page is a writer told by the chapter's words, in another way: each byte itself says what took it away, and each deed whether it was sent.
type page struct {
	me, next, seen int
	items          []item
	open           []api.Deed
	sent           map[int]bool // by No
}

func newPage(me, next, seen int, l []api.Char) *page {
	p := &page{me: me, next: next, seen: seen, sent: map[int]bool{}}
	for _, c := range l {
		p.items = append(p.items, item{Char: c})
	}
	return p
}

func (p *page) list() []api.Char {
	var l []api.Char
	for _, i := range p.items {
		l = append(l, i.Char)
	}
	return l
}

// do does a deed with a number to the items.
func (p *page) do(d api.Deed, number int) int {
	if code := deed.Check(d); code != 0 {
		return code
	}
	var seen []int // places of what its writer sees
	for at, i := range p.items {
		if chars.Sees(i.Char, d.Seen, d.By) {
			seen = append(seen, at)
		}
	}
	if len(seen) < d.At+d.Many {
		return api.ErrRange
	}
	if len(p.items)+len(d.Text) > 200 {
		return api.ErrFull
	}
	if d.Kind == api.DTake {
		for _, at := range seen[d.At : d.At+d.Many] {
			i := &p.items[at]
			i.Gone |= 1 << d.By
			if number == api.Open {
				i.took = d.No
			} else if i.Out == 0 {
				i.Out = number
			}
		}
		return 0
	}
	at := 0
	if d.At > 0 {
		at = seen[d.At-1] + 1
	}
	for d.By != p.me && at < len(p.items) && p.items[at].In == api.Open {
		at++
	}
	var more []item
	for k, c := range []byte(d.Text) {
		more = append(more, item{Char: api.Char{C: c, By: d.By, No: d.No, K: k, In: number}})
	}
	p.items = slices.Insert(p.items, at, more...)
	return 0
}

func (p *page) own(d api.Deed) (api.Deed, int) {
	d.By, d.No, d.Seen = p.me, p.next, p.seen
	if code := p.do(d, api.Open); code != 0 {
		return api.Deed{}, code
	}
	p.next++
	p.open = append(p.open, d)
	return d, 0
}

func (p *page) send() (api.Deed, bool) {
	for _, d := range p.open {
		if !p.sent[d.No] {
			p.sent[d.No] = true
			return d, true
		}
	}
	return api.Deed{}, false
}

func (p *page) least() int {
	for _, d := range p.open {
		if !p.sent[d.No] {
			return d.Seen
		}
	}
	return p.seen
}

func (p *page) hear(d api.Deed) int {
	if d.By != p.me {
		code := p.do(d, p.seen+1)
		if code == 0 {
			p.seen++
		}
		return code
	}
	if len(p.open) == 0 || p.open[0] != d {
		return api.ErrOther
	}
	p.open = p.open[1:]
	p.seen++
	for at := range p.items {
		i := &p.items[at]
		if i.In == api.Open && i.No == d.No {
			i.In = p.seen
		}
		if i.took == d.No {
			i.took = 0
			if i.Out == 0 || p.seen < i.Out {
				i.Out = p.seen
			}
		}
	}
	return 0
}

func (p *page) known() []api.Char {
	var l []api.Char
	for _, i := range p.items {
		if i.took != 0 {
			i.Gone ^= 1 << p.me
		}
		if i.In != api.Open {
			l = append(l, i.Char)
		}
	}
	return l
}

func (p *page) clear(least int) int {
	var left []item
	for _, i := range p.items {
		if i.Out == 0 || i.Out > least {
			left = append(left, i)
		}
	}
	less := len(p.items) - len(left)
	p.items = left
	return less
}

func (p *page) holds(w *Writer) bool {
	list := p.list()
	return w.Seen() == p.seen && w.Least() == p.least() && slices.Equal(w.Open(), p.open) && slices.Equal(w.Chars(), list) && slices.Equal(w.Known(), p.known()) && w.Text() == string(chars.View(list, p.seen, p.me))
}

// wildNumber is mostly what it is told, sometimes right beside it, and seldom far off.
func wildNumber(r *rand.Rand, around int) int {
	switch r.Intn(30) {
	case 0:
		return far[r.Intn(len(far))]
	case 1, 2:
		return around + r.Intn(3) - 1
	}
	return around
}

func wildText(r *rand.Rand, most int) string {
	text := "a~ bcdefghijklmnopqrstu"[:min(23, 1+r.Intn(most))]
	switch r.Intn(40) {
	case 0:
		return text + "\t"
	case 1:
		return ""
	}
	return text
}

// wildDeed is mostly one of another writer that can be done, and sometimes its own, heard or not. No log stands behind it: what its writer had seen may be anything, and it may come twice.
func wildDeed(r *rand.Rand, p *page, most int) api.Deed {
	if len(p.open) > 0 && r.Intn(3) == 0 {
		d := p.open[0]
		if r.Intn(8) == 0 {
			d = p.open[r.Intn(len(p.open))]
		}
		if r.Intn(12) == 0 {
			d.At, d.Seen, d.No = wildNumber(r, d.At), wildNumber(r, d.Seen), wildNumber(r, d.No)
		}
		return d
	}
	by := wildNumber(r, (p.me+1+r.Intn(3))%4)
	seen := max(0, p.seen-r.Intn(6))
	if r.Intn(10) == 0 {
		seen = r.Intn(api.MaxLog + 1)
	}
	there := chars.Count(p.list(), seen, by)
	d := puts(by, wildNumber(r, 1+r.Intn(5)), wildNumber(r, seen), wildNumber(r, r.Intn(there+1)), wildText(r, most))
	if r.Intn(3) == 0 {
		d.Kind, d.Text, d.Many = api.DTake, "", wildNumber(r, 1+r.Intn(3))
	}
	if r.Intn(50) == 0 {
		d.Kind, d.Many = wildNumber(r, 3), wildNumber(r, 0)
	}
	return d
}

// wildStep asks the same of a writer and of the page; false: they do not answer alike.
func wildStep(r *rand.Rand, w *Writer, p *page, most int) (asked string, code int, alike bool) {
	there := len(p.items)
	switch kind := r.Intn(20); {
	case kind < 4:
		at, text := wildNumber(r, r.Intn(there/2+1)), wildText(r, most)
		d, code := w.Put(at, text)
		wantD, want := p.own(api.Deed{Kind: api.DPut, At: at, Text: text})
		return fmt.Sprintf("put %d %q", at, text), code, d == wantD && code == want
	case kind < 8:
		at, many := wildNumber(r, r.Intn(there/2+1)), wildNumber(r, 1+r.Intn(3))
		d, code := w.Take(at, many)
		wantD, want := p.own(api.Deed{Kind: api.DTake, At: at, Many: many})
		return fmt.Sprintf("take %d %d", at, many), code, d == wantD && code == want
	case kind < 11:
		d, ok := w.Send()
		wantD, want := p.send()
		return "send", 0, d == wantD && ok == want
	case kind == 11:
		least := wildNumber(r, r.Intn(p.seen+1))
		less := w.Clear(least)
		return fmt.Sprintf("clear %d", least), 0, less == p.clear(least)
	}
	d := wildDeed(r, p, most)
	was := w.Text()
	code = w.Hear(d)
	alike = code == p.hear(d) && (d.By != p.me || w.Text() == was)
	return fmt.Sprintf("hear %+v", d), code, alike
}

// Whatever comes, each call ends and answers what the chapter says, and the writer is as the page is.
func TestWild(t *testing.T) {
	r := rand.New(rand.NewSource(12))
	met := map[string]int{}
	for round := range 120 {
		me, next, seen := r.Intn(4), 1+r.Intn(3), 0
		var l []api.Char
		if round%3 == 0 {
			l, seen = folded(t, puts(0, 1, 0, 0, "hello"), puts(1, 1, 0, 0, "x y"), takes(2, 1, 1, 1, 2), takes(3, 1, 2, 0, 1)), 4+r.Intn(3)
		}
		w, p := comes(t, me, next, seen, l), newPage(me, next, seen, l)
		most := []int{2, 5, 22}[round%3]
		for range 200 {
			asked, code, alike := wildStep(r, w, p, most)
			if !alike || !p.holds(w) {
				t.Fatalf("round %d: %s: %d: %s, and the page is %+v", round, asked, code, told(w), *p)
			}
			met[fmt.Sprint(strings.Fields(asked)[0], " ", code)]++
		}
	}
	for call, codes := range map[string][]int{
		"put":   {0, api.ErrRange, api.ErrText, api.ErrFull},
		"take":  {0, api.ErrRange},
		"send":  {0},
		"clear": {0},
		"hear":  {0, api.ErrRange, api.ErrKind, api.ErrForm, api.ErrText, api.ErrFull, api.ErrOther},
	} {
		for _, code := range codes {
			if met[fmt.Sprint(call, " ", code)] == 0 {
				t.Errorf("no %s met code %d: %v", call, code, met)
			}
		}
	}
}

// The same asked of two writers is answered alike.
func TestAlike(t *testing.T) {
	run := func() string {
		r := rand.New(rand.NewSource(13))
		w, p := comes(t, 2, 1, 0, nil), newPage(2, 1, 0, nil)
		text := ""
		for range 200 {
			asked, code, _ := wildStep(r, w, p, 3)
			text += fmt.Sprintln(asked, code, told(w))
		}
		return text
	}
	if run() != run() {
		t.Error("two writers were asked the same and told otherwise")
	}
}
