package story

import (
	"fmt"
	"math"
	"math/rand"
	"slices"
	"strings"
	"testing"

	"quillwork/api"
	"quillwork/fold"
	"quillwork/log"
)

// far: numbers that are beyond every bound, as far as both ends of int.
var far = []int{math.MinInt, math.MinInt + 1, -1 << 32, -api.Open, -201, -2, -1, 201, api.Open - 1, api.Open, api.Open + 1, 1 << 32, 1 << 62, math.MaxInt - 1, math.MaxInt}

func puts(by, no, seen, at int, text string) api.Deed {
	return api.Deed{Kind: api.DPut, By: by, No: no, Seen: seen, At: at, Text: text}
}

func takes(by, no, seen, at, many int) api.Deed {
	return api.Deed{Kind: api.DTake, By: by, No: no, Seen: seen, At: at, Many: many}
}

// char is the K-th byte of a deed, with nothing else told of it.
func char(by, no, k int) api.Char {
	return api.Char{By: by, No: no, K: k}
}

// comes lets deeds come that must be able to.
func comes(t *testing.T, g *log.Log, deeds ...api.Deed) {
	t.Helper()
	for _, d := range deeds {
		if _, code := g.Take(d); code != 0 {
			t.Fatalf("Take(%+v): %d", d, code)
		}
	}
}

// logOf is a log to which all writers came ahead of all deeds.
func logOf(t *testing.T, deeds ...api.Deed) *log.Log {
	t.Helper()
	g := log.New()
	for w := range api.MaxWriters {
		if _, code := g.Join(w); code != 0 {
			t.Fatalf("Join(%d): %d", w, code)
		}
	}
	comes(t, g, deeds...)
	return g
}

// deedsOf is all deeds of a log.
func deedsOf(g *log.Log) []api.Deed {
	var deeds []api.Deed
	for n := 1; n <= g.Len(); n++ {
		d, _ := g.Deed(n)
		deeds = append(deeds, d)
	}
	return deeds
}

// busyDeeds: b is taken away by two who did not know of each other, c by the second of them alone.
var busyDeeds = []api.Deed{
	puts(0, 1, 0, 0, "abc"),
	puts(1, 1, 0, 0, "xy"), // 1 did not know of abc
	takes(0, 2, 1, 1, 1),   // b
	takes(1, 2, 1, 3, 2),   // bc: 1 did not know that b was gone
	puts(2, 1, 2, 5, "!"),  // behind c, which is gone
	puts(0, 3, 4, 2, "-"),
	takes(1, 3, 4, 0, 1), // x, its own
}

// busyTexts: those of busyDeeds, and who put their bytes in.
var busyTexts = []struct {
	text string
	by   []int
}{
	{"", nil},
	{"abc", []int{0, 0, 0}},
	{"xyabc", []int{1, 1, 0, 0, 0}},
	{"xyac", []int{1, 1, 0, 0}},
	{"xya", []int{1, 1, 0}},
	{"xya!", []int{1, 1, 0, 2}},
	{"xy-a!", []int{1, 1, 0, 0, 2}},
	{"y-a!", []int{1, 0, 0, 2}},
}

// busyPlaces: where the bytes of busyDeeds stand in each of these texts.
var busyPlaces = []struct {
	x      api.Char
	places []int
}{
	{char(0, 1, 0), []int{-1, 0, 2, 2, 2, 2, 3, 2}},      // a
	{char(0, 1, 1), []int{-1, 1, 3, -1, -1, -1, -1, -1}}, // b
	{char(0, 1, 2), []int{-1, 2, 4, 3, -1, -1, -1, -1}},  // c
	{char(1, 1, 0), []int{-1, -1, 0, 0, 0, 0, 0, -1}},    // x
	{char(1, 1, 1), []int{-1, -1, 1, 1, 1, 1, 1, 0}},     // y
	{char(2, 1, 0), []int{-1, -1, -1, -1, -1, 3, 4, 3}},  // !
	{char(0, 3, 0), []int{-1, -1, -1, -1, -1, -1, 2, 1}}, // -
}

// standing is the bytes of the text of just those deeds.
func standing(t *testing.T, deeds []api.Deed) []api.Char {
	t.Helper()
	list, f := fold.All(deeds)
	if f != (api.Fault{}) {
		t.Fatalf("%+v can't be done: %+v", deeds, f)
	}
	var there []api.Char
	for _, c := range list {
		if c.Out == 0 {
			there = append(there, c)
		}
	}
	return there
}

// placeOf is where a byte of that By, No and K stands.
func placeOf(l []api.Char, x api.Char) int {
	for i, c := range l {
		if c.By == x.By && c.No == x.No && c.K == x.K {
			return i
		}
	}
	return -1
}

// noText holds that there was no text of the first n deeds.
func noText(t *testing.T, s *Story, n int) {
	t.Helper()
	if text, ok := s.Text(n); text != "" || ok {
		t.Errorf("Text(%d): %q %v", n, text, ok)
	}
	if by, ok := s.By(n); len(by) != 0 || ok {
		t.Errorf("By(%d): %v %v", n, by, ok)
	}
	for _, x := range []api.Char{{}, char(0, 1, 0), char(1, 1, 0), {C: 'a', No: 1, In: 1}} {
		if at := s.Where(n, x); at != -1 {
			t.Errorf("Where(%d, %+v): %d", n, x, at)
		}
	}
}

// isText holds that the text of the first n deeds has that text, and was put in by those.
func isText(t *testing.T, s *Story, n int, text string, by []int) {
	t.Helper()
	if got, ok := s.Text(n); got != text || !ok {
		t.Errorf("Text(%d): %q %v, want %q", n, got, ok, text)
	}
	if got, ok := s.By(n); !slices.Equal(got, by) || !ok {
		t.Errorf("By(%d): %v %v, want %v", n, got, ok, by)
	}
}

// holds holds a story against the deeds, each text against what just its deeds make.
func holds(t *testing.T, s *Story, deeds []api.Deed) {
	t.Helper()
	if s.Len() != len(deeds)+1 {
		t.Fatalf("Len: %d of %d deeds", s.Len(), len(deeds))
	}
	whole, _ := fold.All(deeds)
	for n := range len(deeds) + 1 {
		list, _ := fold.All(deeds[:n])
		there := standing(t, deeds[:n])
		var by []int
		for i, c := range there {
			by = append(by, c.By)
			if at := s.Where(n, c); at != i {
				t.Errorf("Where(%d, %+v): %d, want %d", n, c, at, i)
			}
		}
		isText(t, s, n, fold.Text(list), by)
		for _, c := range whole {
			if at := s.Where(n, c); at != placeOf(there, c) {
				t.Errorf("Where(%d, %+v): %d, want %d", n, c, at, placeOf(there, c))
			}
		}
	}
	for _, n := range append([]int{len(deeds) + 1, len(deeds) + 2}, far...) {
		noText(t, s, n)
	}
	if t.Failed() {
		t.Fatalf("of %+v", deeds)
	}
}

// told is all that a story tells of the bytes that are asked for.
func told(s *Story, asked []api.Char) string {
	var all strings.Builder
	fmt.Fprintf(&all, "len %d", s.Len())
	for n := -2; n <= s.Len()+2; n++ {
		text, ok := s.Text(n)
		by, known := s.By(n)
		fmt.Fprintf(&all, "\n%d: %q %v %v %v", n, text, ok, by, known)
		for _, x := range asked {
			fmt.Fprint(&all, " ", s.Where(n, x))
		}
	}
	return all.String()
}

// toldOfLog is all that a log tells.
func toldOfLog(g *log.Log) string {
	here := ""
	for w := range api.MaxWriters {
		here += fmt.Sprint(g.Here(w), " ")
	}
	return fmt.Sprintf("here %sleast %d text %q chars %+v deeds %+v", here, g.Least(), g.Text(), g.Chars(), deedsOf(g))
}

func TestNoDeeds(t *testing.T) {
	there := log.New()
	there.Join(2)
	for _, g := range []*log.Log{log.New(), there} {
		s := Of(g)
		if s == nil || s.Len() != 1 {
			t.Fatalf("%+v", s)
		}
		isText(t, s, 0, "", nil)
		for _, x := range []api.Char{{}, char(0, 1, 0), char(2, 1, 0)} {
			if at := s.Where(0, x); at != -1 {
				t.Errorf("Where(0, %+v): %d", x, at)
			}
		}
		holds(t, s, nil)
	}
}

// Of what is no log nothing is promised, but no call panics.
func TestNoLog(t *testing.T) {
	holds(t, Of(nil), nil)
}

func TestTexts(t *testing.T) {
	s := Of(logOf(t, busyDeeds...))
	if s.Len() != len(busyTexts) {
		t.Fatalf("Len: %d, want %d", s.Len(), len(busyTexts))
	}
	for n, want := range busyTexts {
		isText(t, s, n, want.text, want.by)
	}
	holds(t, s, busyDeeds)
}

// A byte that is not there yet, one that is there, one that one took away, one that two took away.
func TestWhere(t *testing.T) {
	s := Of(logOf(t, busyDeeds...))
	for _, b := range busyPlaces {
		for n, want := range b.places {
			if at := s.Where(n, b.x); at != want {
				t.Errorf("Where(%d, %+v): %d, want %d", n, b.x, at, want)
			}
		}
	}
}

// The examples of the document.
func TestExamples(t *testing.T) {
	s := Of(logOf(t, puts(0, 1, 0, 0, "ab"), puts(1, 1, 0, 0, "c")))
	isText(t, s, 1, "ab", []int{0, 0})
	isText(t, s, 2, "cab", []int{1, 0, 0})
	s = Of(logOf(t, puts(2, 1, 0, 0, "abc"), takes(0, 1, 1, 1, 1), takes(1, 1, 1, 1, 2)))
	isText(t, s, 1, "abc", []int{2, 2, 2})
	isText(t, s, 2, "ac", []int{2, 2})
	isText(t, s, 3, "a", []int{2})
	for k, places := range [][]int{{-1, 0, 0, 0}, {-1, 1, -1, -1}, {-1, 2, 1, -1}} {
		for n, want := range places {
			if at := s.Where(n, char(2, 1, k)); at != want {
				t.Errorf("Where(%d) of byte %d: %d, want %d", n, k, at, want)
			}
		}
	}
}

// The texts go from 0 to Len - 1; there are none beside these, nor far off.
func TestWhichTexts(t *testing.T) {
	for many := range len(busyDeeds) + 1 {
		s := Of(logOf(t, busyDeeds[:many]...))
		if s.Len() != many+1 {
			t.Errorf("Len: %d of %d deeds", s.Len(), many)
		}
		isText(t, s, 0, "", nil)
		isText(t, s, s.Len()-1, busyTexts[many].text, busyTexts[many].by)
		for _, n := range append([]int{s.Len(), s.Len() + 1, s.Len() + 63}, far...) {
			noText(t, s, n)
		}
	}
}

// What writers say, and that they come and go, makes no text; and who comes again is the same writer.
func TestComingAndGoing(t *testing.T) {
	g := logOf(t, puts(3, 1, 0, 0, "one"))
	g.Says(0, 1)
	g.Leave(3)
	g.Join(3)
	comes(t, g, puts(3, 2, 1, 3, "two"))
	g.Leave(3)
	g.Leave(0)
	s := Of(g)
	holds(t, s, deedsOf(g))
	isText(t, s, 2, "onetwo", []int{3, 3, 3, 3, 3, 3})
	if at := s.Where(2, char(3, 2, 0)); s.Len() != 3 || at != 3 {
		t.Errorf("Len %d, Where %d", s.Len(), at)
	}
}

// Deeds that the log did not take are not in its story.
func TestRefusedDeeds(t *testing.T) {
	g := logOf(t, puts(0, 1, 0, 0, "ab"))
	for _, d := range []api.Deed{puts(0, 1, 1, 0, "x"), puts(0, 2, 2, 0, "x"), puts(1, 1, 1, 3, "x"), takes(1, 1, 1, 0, 3), puts(4, 1, 1, 0, "x"), {}} {
		if _, code := g.Take(d); code == 0 {
			t.Fatalf("%+v was taken", d)
		}
	}
	s := Of(g)
	holds(t, s, []api.Deed{puts(0, 1, 0, 0, "ab")})
	noText(t, s, 2)
}

// A text whose bytes are all gone is there, without bytes; what is put in then is another byte, even if it looks the same.
func TestAllGone(t *testing.T) {
	s := Of(logOf(t, puts(0, 1, 0, 0, "a"), takes(1, 1, 1, 0, 1), puts(0, 2, 2, 0, "a"), takes(0, 3, 3, 0, 1)))
	for n, want := range []string{"", "a", "", "a", ""} {
		isText(t, s, n, want, slices.Repeat([]int{0}, len(want)))
	}
	for n, want := range []int{-1, 0, -1, -1, -1} {
		if at := s.Where(n, api.Char{C: 'a', No: 1}); at != want {
			t.Errorf("Where(%d) of the first: %d, want %d", n, at, want)
		}
	}
	for n, want := range []int{-1, -1, -1, 0, -1} {
		if at := s.Where(n, api.Char{C: 'a', No: 2}); at != want {
			t.Errorf("Where(%d) of the second: %d, want %d", n, at, want)
		}
	}
}

// Only By, No and K say which byte it is: what differs in one of them is another one, or none.
func TestWhereOtherBytes(t *testing.T) {
	s := Of(logOf(t, busyDeeds...))
	for n := range s.Len() {
		there := standing(t, busyDeeds[:n])
		for by := -2; by <= api.MaxWriters+1; by++ {
			for no := -1; no <= 5; no++ {
				for k := -1; k <= api.MaxPut; k++ {
					if at := s.Where(n, char(by, no, k)); at != placeOf(there, char(by, no, k)) {
						t.Errorf("Where(%d) of %d %d %d: %d", n, by, no, k, at)
					}
				}
			}
		}
		for _, c := range there {
			for _, x := range far {
				for _, other := range []api.Char{char(x, c.No, c.K), char(c.By, x, c.K), char(c.By, c.No, x)} {
					if at := s.Where(n, other); at != -1 {
						t.Errorf("Where(%d, %+v): %d", n, other, at)
					}
				}
			}
		}
	}
}

// What else is told of a byte is not asked.
func TestWhereSameByte(t *testing.T) {
	s := Of(logOf(t, busyDeeds...))
	numbers := append([]int{0, 1, 2, 3, 4, 7, 8, 15, 16, 120, 121}, far...)
	for n := range s.Len() {
		for _, b := range busyPlaces {
			alike := []api.Char{}
			for c := range 256 {
				x := b.x
				x.C = byte(c)
				alike = append(alike, x)
			}
			for _, number := range numbers {
				in, out, gone, all := b.x, b.x, b.x, b.x
				in.In, out.Out, gone.Gone = number, number, number
				all.In, all.Out, all.Gone = number, number, number
				alike = append(alike, in, out, gone, all)
			}
			for _, x := range alike {
				if at := s.Where(n, x); at != b.places[n] {
					t.Errorf("Where(%d, %+v): %d, want %d", n, x, at, b.places[n])
				}
			}
		}
	}
}

// The story is that of the log as it was: what comes to the log behind it changes nothing.
func TestAsItWas(t *testing.T) {
	whole, _ := fold.All(busyDeeds)
	g := logOf(t)
	stories, was := []*Story{Of(g)}, []string{told(Of(g), whole)}
	for _, d := range busyDeeds {
		comes(t, g, d)
		stories = append(stories, Of(g))
		was = append(was, told(Of(g), whole))
	}
	comes(t, g, takes(3, 1, 7, 0, 4), puts(3, 2, 8, 0, "new"))
	g.Leave(0)
	for many, s := range stories {
		if now := told(s, whole); now != was[many] {
			t.Errorf("of %d deeds: %s\nwas: %s", many, now, was[many])
		}
		holds(t, s, busyDeeds[:many])
	}
	holds(t, Of(g), deedsOf(g))
}

// A log in which deeds come one behind the other has room behind its lists: what comes there later is not in the story.
func TestAsItWasLong(t *testing.T) {
	g := logOf(t)
	var stories []*Story
	for n := range api.MaxLog {
		stories = append(stories, Of(g))
		comes(t, g, puts(n%4, n/4+1, n, n, string(rune('a'+n%26))))
	}
	for many, s := range stories {
		if text, ok := s.Text(many); !ok || text != g.Text()[:many] || s.Len() != many+1 {
			t.Errorf("of %d deeds: %q %v, len %d", many, text, ok, s.Len())
		}
		noText(t, s, many+1)
	}
}

// The last deed that a log has room for, and the last byte.
func TestFull(t *testing.T) {
	g := logOf(t)
	for n := range 10 {
		comes(t, g, puts(n%4, n/4+1, n, 0, strings.Repeat(string(rune('a'+n)), api.MaxPut)))
	}
	for n := 10; n < api.MaxLog; n++ {
		comes(t, g, takes(n%4, n/4+1, n, 1, 1))
	}
	if len(g.Chars()) != api.MaxChars || g.Len() != api.MaxLog {
		t.Fatalf("%d bytes, %d deeds", len(g.Chars()), g.Len())
	}
	s := Of(g)
	holds(t, s, deedsOf(g))
	if text, _ := s.Text(10); s.Len() != api.MaxLog+1 || len(text) != api.MaxChars {
		t.Errorf("%d texts, one of %d bytes", s.Len(), len(text))
	}
	if at := s.Where(10, char(0, 1, api.MaxPut-1)); at != api.MaxChars-1 {
		t.Errorf("the last byte: %d", at)
	}
}

// What By answers is the asker's: to change it, or what lies behind it, changes no story, no log and no other answer.
func TestByIsNew(t *testing.T) {
	g := logOf(t, busyDeeds...)
	s := Of(g)
	was, logWas := told(s, g.Chars()), toldOfLog(g)
	for n, want := range busyTexts {
		one, _ := s.By(n)
		two, _ := s.By(n)
		for i := range one[:cap(one)] {
			one[:cap(one)][i] = 9
		}
		one = append(one, 8)
		if !slices.Equal(two, want.by) {
			t.Errorf("By(%d): %v, want %v", n, two, want.by)
		}
	}
	if now := told(s, g.Chars()); now != was || toldOfLog(g) != logWas {
		t.Errorf("%s\nwas: %s", now, was)
	}
}

// What a log answers, and is changed then, changes no story of it.
func TestCharsAreNotShared(t *testing.T) {
	g := logOf(t, busyDeeds...)
	list := g.Chars()
	s := Of(g)
	for _, l := range [][]api.Char{list, g.Chars()} {
		clear(l[:cap(l)])
	}
	holds(t, s, busyDeeds)
}

// The same is answered whatever was asked ahead, and how often.
func TestOrderOfAsking(t *testing.T) {
	g := logOf(t, busyDeeds...)
	s, want := Of(g), told(Of(g), g.Chars())
	r := rand.New(rand.NewSource(3))
	for range 300 {
		n := r.Intn(s.Len()+4) - 2
		switch r.Intn(3) {
		case 0:
			s.Text(n)
		case 1:
			s.By(n)
		case 2:
			s.Where(n, char(r.Intn(3), 1+r.Intn(3), r.Intn(3)))
		}
		if r.Intn(20) == 0 && told(s, g.Chars()) != want {
			t.Fatalf("%s\nwant: %s", told(s, g.Chars()), want)
		}
	}
	for n := s.Len() - 1; n >= 0; n-- {
		isText(t, s, n, busyTexts[n].text, busyTexts[n].by)
	}
	holds(t, s, busyDeeds)
}

// Two stories know nothing of each other: of one log, of one log at two times, of two logs.
func TestTwoStories(t *testing.T) {
	g := logOf(t, busyDeeds[:3]...)
	early := Of(g)
	comes(t, g, busyDeeds[3:]...)
	late, again := Of(g), Of(g)
	other := []api.Deed{puts(3, 1, 0, 0, "other"), takes(0, 1, 1, 0, 2)}
	alone := Of(logOf(t, other...))
	if late == again {
		t.Error("two stories are one")
	}
	for n := range len(busyDeeds) + 2 {
		for _, s := range []*Story{late, alone, early, again} {
			by, _ := s.By(n)
			clear(by)
			s.Text(n)
			s.Where(n, char(0, 1, 0))
		}
	}
	holds(t, early, busyDeeds[:3])
	holds(t, late, busyDeeds)
	holds(t, again, busyDeeds)
	holds(t, alone, other)
}
