package log

import (
	"fmt"
	"math"
	"math/rand"
	"slices"
	"strings"
	"testing"
	"unsafe"

	"quillwork/api"
	"quillwork/chars"
	"quillwork/deed"
	"quillwork/fold"
)

// far: numbers that are beyond every bound.
var far = []int{math.MinInt, math.MinInt + 1, -1 << 32, -2, -1, 201, api.Open - 1, api.Open, api.Open + 1, 1 << 32, 1 << 62, math.MaxInt - 1, math.MaxInt}

// noWriters: numbers of nobody, right beside those of writers and far off.
var noWriters = append([]int{api.MaxWriters, api.MaxWriters + 1, 63, 64}, far...)

func puts(by, no, seen, at int, text string) api.Deed {
	return api.Deed{Kind: api.DPut, By: by, No: no, Seen: seen, At: at, Text: text}
}

func takes(by, no, seen, at, many int) api.Deed {
	return api.Deed{Kind: api.DTake, By: by, No: no, Seen: seen, At: at, Many: many}
}

// joins lets writers come that must be able to.
func joins(t *testing.T, g *Log, writers ...int) {
	t.Helper()
	for _, w := range writers {
		if _, code := g.Join(w); code != 0 {
			t.Fatalf("Join(%d): %d", w, code)
		}
	}
}

// comes lets deeds come that must be able to, and get the next number each.
func comes(t *testing.T, g *Log, deeds ...api.Deed) {
	t.Helper()
	for _, d := range deeds {
		want := g.Len() + 1
		if n, code := g.Take(d); n != want || code != 0 {
			t.Fatalf("Take(%+v): %d %d, want %d", d, n, code, want)
		}
	}
}

// says lets a writer say what it must be able to.
func says(t *testing.T, g *Log, w, seen int) {
	t.Helper()
	if code := g.Says(w, seen); code != 0 {
		t.Fatalf("Says(%d, %d): %d", w, seen, code)
	}
}

// leaves lets writers go that are there.
func leaves(t *testing.T, g *Log, writers ...int) {
	t.Helper()
	for _, w := range writers {
		if code := g.Leave(w); code != 0 {
			t.Fatalf("Leave(%d): %d", w, code)
		}
	}
}

// busy is a log of six deeds. Writers 0, 1 and 3 are there: 0 has said 2, 1 has said 5, 3 has said 6; 2 has put in one deed, said 3, and gone.
func busy(t *testing.T) *Log {
	t.Helper()
	g := New()
	joins(t, g, 0, 1, 2)
	comes(t, g, puts(0, 1, 0, 0, "hello"), puts(1, 1, 0, 0, "x y"), puts(2, 1, 1, 5, "!"), puts(0, 2, 2, 3, "-"), takes(1, 2, 3, 0, 2), takes(0, 3, 2, 5, 2))
	says(t, g, 2, 3)
	says(t, g, 1, 5)
	leaves(t, g, 2)
	joins(t, g, 3)
	return g
}

// nextNo is the No of the writer's next deed. With a Seen below 0 no deed comes, and only that of the right No is told to be old.
func nextNo(g *Log, w int) int {
	if !g.Here(w) {
		no, _ := g.Join(w)
		g.Leave(w)
		return no
	}
	for no := 1; no <= api.MaxLog+1; no++ {
		if _, code := g.Take(puts(w, no, -1, 0, "a")); code == api.ErrOld {
			return no
		}
	}
	return -1
}

// saidOf is how far the writer has said. To say that again changes nothing, and whatever is below is refused.
func saidOf(g *Log, w int) int {
	for seen := 0; g.Here(w) && seen <= g.Len(); seen++ {
		if g.Says(w, seen) == 0 {
			return seen
		}
	}
	return -1
}

// told is all that can be learnt of a log.
func told(g *Log) string {
	text := fmt.Sprintf("len %d least %d text %q chars %+v", g.Len(), g.Least(), g.Text(), g.Chars())
	for n := -1; n <= api.MaxLog+1; n++ {
		if d, ok := g.Deed(n); ok || d != (api.Deed{}) {
			text += fmt.Sprintf(" deed %d %v %+v", n, ok, d)
		}
	}
	for _, w := range noWriters {
		if g.Here(w) {
			text += fmt.Sprintf(" %d is here", w)
		}
	}
	for w := range api.MaxWriters {
		text += fmt.Sprintf(" writer %d here %v said %d next %d", w, g.Here(w), saidOf(g, w), nextNo(g, w))
	}
	return text
}

// done is fold.Do of all deeds of a log, one behind the other.
func done(t *testing.T, g *Log) []api.Char {
	t.Helper()
	var list []api.Char
	for n := 1; n <= g.Len(); n++ {
		d, ok := g.Deed(n)
		next, code := fold.Do(list, d, n)
		if !ok || code != 0 {
			t.Fatalf("deed %d: %+v %v can't be done: %d", n, d, ok, code)
		}
		list = next
	}
	return list
}

// folded holds what the log tells against its deeds.
func folded(t *testing.T, g *Log) {
	t.Helper()
	want := done(t, g)
	if got := g.Chars(); !slices.Equal(got, want) {
		t.Errorf("Chars: %+v, want %+v", got, want)
	}
	if got := g.Text(); got != fold.Text(want) {
		t.Errorf("Text: %q, want %q", got, fold.Text(want))
	}
}

func TestNew(t *testing.T) {
	g := New()
	if g == nil || g.Len() != 0 || g.Least() != 0 || g.Text() != "" || len(g.Chars()) != 0 {
		t.Fatalf("an empty log: %+v", g)
	}
	for _, n := range append([]int{0, 1, 2}, far...) {
		if d, ok := g.Deed(n); ok || d != (api.Deed{}) {
			t.Errorf("Deed(%d): %+v %v", n, d, ok)
		}
		if g.Here(n) {
			t.Errorf("%d is here", n)
		}
		if code := g.Leave(n); code != api.ErrNone {
			t.Errorf("Leave(%d): %d", n, code)
		}
		if code := g.Says(n, 0); code != api.ErrNone {
			t.Errorf("Says(%d, 0): %d", n, code)
		}
	}
}

func TestJoin(t *testing.T) {
	g := New()
	for _, x := range []struct{ w, no, code int }{
		{0, 1, 0}, {0, 0, api.ErrThere}, {api.MaxWriters - 1, 1, 0}, {api.MaxWriters - 1, 0, api.ErrThere},
		{api.MaxWriters, 0, api.ErrRange}, {-1, 0, api.ErrRange}, {1, 1, 0}, {0, 0, api.ErrThere}, {2, 1, 0},
	} {
		if no, code := g.Join(x.w); no != x.no || code != x.code {
			t.Errorf("Join(%d): %d %d, want %d %d", x.w, no, code, x.no, x.code)
		}
	}
	for w := range api.MaxWriters {
		if !g.Here(w) {
			t.Errorf("%d is not here", w)
		}
	}
	for _, w := range noWriters {
		if no, code := g.Join(w); no != 0 || code != api.ErrRange || g.Here(w) {
			t.Errorf("Join(%d): %d %d, here %v", w, no, code, g.Here(w))
		}
	}
}

// Who is there is told ErrThere whatever it has done, and its number is left out.
func TestJoinTwice(t *testing.T) {
	g := busy(t)
	was := told(g)
	for _, w := range []int{0, 1, 3} {
		if no, code := g.Join(w); no != 0 || code != api.ErrThere {
			t.Errorf("Join(%d): %d %d", w, no, code)
		}
	}
	if told(g) != was {
		t.Errorf("changed: %s, was %s", told(g), was)
	}
}

func TestJoinAgain(t *testing.T) {
	g := busy(t)
	leaves(t, g, 0, 1, 3)
	for _, x := range []struct{ w, no int }{{0, 4}, {1, 3}, {2, 2}, {3, 1}} {
		if no, code := g.Join(x.w); no != x.no || code != 0 {
			t.Errorf("Join(%d): %d %d, want %d", x.w, no, code, x.no)
		}
		if said := saidOf(g, x.w); said != 6 {
			t.Errorf("%d comes and has said %d", x.w, said)
		}
	}
	// It goes and comes without a deed: its next number stays.
	leaves(t, g, 0)
	if no, code := g.Join(0); no != 4 || code != 0 {
		t.Errorf("again: %d %d", no, code)
	}
	// A deed that was refused is none that came.
	g.Take(puts(0, 4, 6, 100, "z"))
	leaves(t, g, 0)
	if no, code := g.Join(0); no != 4 || code != 0 {
		t.Errorf("behind a refused deed: %d %d", no, code)
	}
	comes(t, g, puts(0, 4, 6, 0, "z"))
	leaves(t, g, 0)
	if no, code := g.Join(0); no != 5 || code != 0 {
		t.Errorf("behind one more deed: %d %d", no, code)
	}
	folded(t, g)
}

// A writer that comes behind deeds has said all: it can't speak of the text as it was.
func TestJoinHasSaidAll(t *testing.T) {
	g := New()
	joins(t, g, 0)
	comes(t, g, puts(0, 1, 0, 0, "a"), puts(0, 2, 0, 1, "b"))
	joins(t, g, 1)
	for _, x := range []struct{ seen, code int }{{0, api.ErrOld}, {1, api.ErrOld}, {3, api.ErrOld}, {2, 0}} {
		if code := g.Says(1, x.seen); code != x.code {
			t.Errorf("Says(1, %d): %d, want %d", x.seen, code, x.code)
		}
		want := 0
		if x.code == 0 {
			want = 3
		}
		if n, code := g.Take(puts(1, 1, x.seen, 2, "c")); n != want || code != x.code {
			t.Errorf("Take, seen %d: %d %d, want %d %d", x.seen, n, code, want, x.code)
		}
	}
	if g.Text() != "abc" {
		t.Errorf("%q", g.Text())
	}
}

func TestLeave(t *testing.T) {
	g := busy(t)
	for _, x := range []struct{ w, code int }{{2, api.ErrNone}, {0, 0}, {0, api.ErrNone}, {3, 0}, {3, api.ErrNone}, {1, 0}, {1, api.ErrNone}} {
		if code := g.Leave(x.w); code != x.code || g.Here(x.w) {
			t.Errorf("Leave(%d): %d, want %d; here %v", x.w, code, x.code, g.Here(x.w))
		}
	}
	if g.Len() != 6 || g.Text() != "y-hlo!" {
		t.Errorf("what was done is gone: %d %q", g.Len(), g.Text())
	}
	folded(t, g)
}

func TestHere(t *testing.T) {
	g := busy(t)
	for w, want := range []bool{true, true, false, true} {
		if g.Here(w) != want {
			t.Errorf("Here(%d): %v", w, !want)
		}
	}
	for _, w := range noWriters {
		if g.Here(w) {
			t.Errorf("%d is here", w)
		}
	}
}

func TestTakeNone(t *testing.T) {
	g := busy(t)
	was := told(g)
	for _, w := range append([]int{2}, noWriters...) {
		for _, d := range []api.Deed{puts(w, 2, 6, 0, "a"), takes(w, 1, 6, 0, 1), puts(w, 9, -1, 0, ""), {By: w}} {
			if n, code := g.Take(d); n != 0 || code != api.ErrNone {
				t.Errorf("Take(%+v): %d %d", d, n, code)
			}
		}
	}
	if told(g) != was {
		t.Errorf("changed: %s, was %s", told(g), was)
	}
	// Who is there when a deed was refused can bring it.
	joins(t, g, 2)
	comes(t, g, puts(2, 2, 6, 0, "a"))
}

func TestTakeOrder(t *testing.T) {
	g := busy(t)
	was := told(g)
	for _, x := range []struct{ w, next int }{{0, 4}, {1, 3}, {3, 1}} {
		for _, no := range append([]int{x.next - 2, x.next - 1, x.next + 1, x.next + 2, 0, 1 + api.MaxLog}, far...) {
			for _, d := range []api.Deed{puts(x.w, no, 6, 0, "a"), takes(x.w, no, 6, 0, 1), puts(x.w, no, -1, 0, "a"), {By: x.w, No: no, Seen: 7}} {
				if n, code := g.Take(d); n != 0 || code != api.ErrOrder {
					t.Errorf("Take(%+v): %d %d", d, n, code)
				}
			}
		}
	}
	if told(g) != was {
		t.Errorf("changed: %s, was %s", told(g), was)
	}
	comes(t, g, puts(0, 4, 6, 0, "a"), puts(1, 3, 6, 0, "b"), puts(3, 1, 6, 0, "c"))
	if n, code := g.Take(puts(0, 4, 6, 0, "a")); n != 0 || code != api.ErrOrder {
		t.Errorf("the same again: %d %d", n, code)
	}
	comes(t, g, puts(0, 5, 6, 0, "a"))
}

func TestTakeOld(t *testing.T) {
	for _, x := range []struct{ w, next, said int }{{0, 4, 2}, {1, 3, 5}, {3, 1, 6}} {
		g := busy(t)
		was := told(g)
		for _, seen := range append([]int{x.said - 1, 0, g.Len() + 1, api.MaxLog, api.MaxLog + 1}, far...) {
			for _, d := range []api.Deed{puts(x.w, x.next, seen, 0, "a"), takes(x.w, x.next, seen, 0, 1), puts(x.w, x.next, seen, 0, "\n"), {By: x.w, No: x.next, Seen: seen}} {
				if n, code := g.Take(d); n != 0 || code != api.ErrOld {
					t.Errorf("Take(%+v): %d %d", d, n, code)
				}
			}
		}
		if told(g) != was {
			t.Errorf("changed: %s, was %s", told(g), was)
		}
		for seen := x.said; seen <= 6; seen++ {
			g := busy(t)
			comes(t, g, puts(x.w, x.next, seen, 0, "a"))
			if said := saidOf(g, x.w); said != seen {
				t.Errorf("a deed of %d had seen %d, but it has said %d", x.w, seen, said)
			}
			folded(t, g)
		}
	}
}

// What a deed had seen its writer has said: neither a deed nor a word of it may go back.
func TestTakeSays(t *testing.T) {
	g := busy(t)
	comes(t, g, puts(0, 4, 4, 0, "a"))
	if code := g.Says(0, 3); code != api.ErrOld {
		t.Errorf("Says: %d", code)
	}
	if n, code := g.Take(puts(0, 5, 3, 0, "a")); n != 0 || code != api.ErrOld {
		t.Errorf("Take: %d %d", n, code)
	}
	if g.Least() != 4 {
		t.Errorf("Least: %d", g.Least())
	}
	comes(t, g, puts(0, 5, 4, 0, "b"))
	if code := g.Says(0, 4); code != 0 {
		t.Errorf("Says, as far as before: %d", code)
	}
	for w, want := range []int{4, 5, -1, 6} {
		if said := saidOf(g, w); said != want {
			t.Errorf("%d has said %d, want %d", w, said, want)
		}
	}
}

// filled is a log of so many deeds, all of them puts of writer 0; writers 0 and 1 are there and have said 0.
func filled(t *testing.T, many int) *Log {
	t.Helper()
	g := New()
	joins(t, g, 0, 1)
	for i := range many {
		comes(t, g, puts(0, i+1, 0, i, "x"))
	}
	return g
}

func TestTakeFull(t *testing.T) {
	g := filled(t, api.MaxLog-1)
	comes(t, g, puts(1, 1, 0, 0, "y"))
	if g.Len() != api.MaxLog {
		t.Fatalf("%d deeds", g.Len())
	}
	leaves(t, g, 0)
	was := told(g)
	for _, x := range []struct {
		name string
		d    api.Deed
		code int
	}{
		{"put", puts(1, 2, 0, 0, "y"), api.ErrFull},
		{"take", takes(1, 2, api.MaxLog, 0, 1), api.ErrFull},
		{"no deed: full comes first", api.Deed{By: 1, No: 2}, api.ErrFull},
		{"can't be done: full comes first", takes(1, 2, 0, 9, 9), api.ErrFull},
		{"what it had seen comes first", puts(1, 2, api.MaxLog+1, 0, "y"), api.ErrOld},
		{"what it had seen comes first, below 0", puts(1, 2, -1, 0, "y"), api.ErrOld},
		{"order comes first", puts(1, 1, 0, 0, "y"), api.ErrOrder},
		{"who went comes first", puts(0, api.MaxLog, 0, 0, "y"), api.ErrNone},
	} {
		if n, code := g.Take(x.d); n != 0 || code != x.code {
			t.Errorf("%s: %d %d, want %d", x.name, n, code, x.code)
		}
	}
	if told(g) != was {
		t.Errorf("changed: %s, was %s", told(g), was)
	}
	says(t, g, 1, api.MaxLog)
	if no, code := g.Join(0); no != api.MaxLog || code != 0 {
		t.Errorf("Join of a full log: %d %d", no, code)
	}
	folded(t, g)
}

// One writer has put in all: no deed may have its next number, but that the log is full is told ahead of it.
func TestTakeFullOfOne(t *testing.T) {
	g := filled(t, api.MaxLog)
	if n, code := g.Take(puts(0, api.MaxLog+1, 0, 0, "x")); n != 0 || code != api.ErrFull {
		t.Errorf("Take: %d %d", n, code)
	}
	leaves(t, g, 0)
	if no, code := g.Join(0); no != api.MaxLog+1 || code != 0 {
		t.Errorf("Join: %d %d", no, code)
	}
	if d, ok := g.Deed(api.MaxLog); !ok || d != puts(0, api.MaxLog, 0, api.MaxLog-1, "x") {
		t.Errorf("the last deed: %+v %v", d, ok)
	}
	if d, ok := g.Deed(api.MaxLog + 1); ok || d != (api.Deed{}) {
		t.Errorf("one behind: %+v %v", d, ok)
	}
}

// What deed.Check refuses, and what can't be done to the list, has fold.Do's code.
func TestTakeFold(t *testing.T) {
	g := busy(t)
	was := told(g)
	withMany, withText := puts(0, 4, 6, 0, "a"), takes(0, 4, 6, 0, 1)
	withMany.Many, withText.Text = 1, "a"
	deeds := []api.Deed{
		{By: 0, No: 4, Seen: 6}, {Kind: 3, By: 0, No: 4, Seen: 6, Text: "a"}, {Kind: -1, By: 1, No: 3, Seen: 5},
		withMany, withText, puts(0, 4, 2, 0, ""), puts(0, 4, 2, 0, "\n"), puts(1, 3, 5, 0, "\x7f"), puts(3, 1, 6, 0, strings.Repeat("a", api.MaxPut+1)),
		takes(0, 4, 6, 0, 0), takes(0, 4, 6, 0, api.MaxChars+1), puts(0, 4, 6, api.MaxChars+1, "a"),
		puts(0, 4, 6, 7, "a"), takes(0, 4, 6, 6, 1), takes(0, 4, 6, 0, 7), takes(1, 3, 5, 200, 200), puts(0, 4, 2, 8, "a"),
	}
	for _, n := range far {
		deeds = append(deeds, puts(0, 4, 6, n, "a"), takes(0, 4, 6, n, 1), takes(0, 4, 6, 0, n), takes(0, 4, 6, n, n), api.Deed{Kind: n, By: 0, No: 4, Seen: 6, Text: "a"})
	}
	met := map[int]int{}
	for _, d := range deeds {
		_, want := fold.Do(done(t, g), d, 7)
		if n, code := g.Take(d); want == 0 || n != 0 || code != want {
			t.Errorf("Take(%+v): %d %d, want %d", d, n, code, want)
		}
		met[want]++
	}
	for _, code := range []int{api.ErrKind, api.ErrRange, api.ErrForm, api.ErrText} {
		if met[code] == 0 {
			t.Errorf("no deed met code %d", code)
		}
	}
	if told(g) != was {
		t.Errorf("changed: %s, was %s", told(g), was)
	}
	comes(t, g, puts(0, 4, 6, 6, "a"))
}

// The list may be full when the log is not: bytes that are gone take up room.
func TestTakeFullOfBytes(t *testing.T) {
	g := New()
	joins(t, g, 0, 1)
	for i := range api.MaxChars / api.MaxPut {
		comes(t, g, puts(0, i+1, i, 0, strings.Repeat("x", api.MaxPut)))
	}
	was := told(g)
	if n, code := g.Take(puts(1, 1, 0, 0, "y")); n != 0 || code != api.ErrFull {
		t.Errorf("Take: %d %d", n, code)
	}
	if told(g) != was {
		t.Errorf("changed: %s, was %s", told(g), was)
	}
	comes(t, g, takes(1, 1, 10, 0, api.MaxChars))
	if n, code := g.Take(puts(1, 2, 11, 0, "y")); n != 0 || code != api.ErrFull {
		t.Errorf("Take, all is gone: %d %d", n, code)
	}
	if g.Text() != "" || len(g.Chars()) != api.MaxChars {
		t.Errorf("%q, %d bytes", g.Text(), len(g.Chars()))
	}
	folded(t, g)
}

func TestSays(t *testing.T) {
	g := busy(t)
	for _, x := range []struct{ w, seen, code, said int }{
		{0, 1, api.ErrOld, 2}, {0, 7, api.ErrOld, 2}, {0, 2, 0, 2}, {0, 4, 0, 4}, {0, 3, api.ErrOld, 4}, {0, 6, 0, 6}, {0, 5, api.ErrOld, 6}, {0, 6, 0, 6}, {0, 7, api.ErrOld, 6},
		{1, 4, api.ErrOld, 5}, {1, 6, 0, 6}, {3, 5, api.ErrOld, 6}, {3, 6, 0, 6}, {3, 0, api.ErrOld, 6},
		{2, 3, api.ErrNone, -1}, {2, 6, api.ErrNone, -1}, {2, 7, api.ErrNone, -1}, {2, -1, api.ErrNone, -1},
	} {
		if code := g.Says(x.w, x.seen); code != x.code {
			t.Errorf("Says(%d, %d): %d, want %d", x.w, x.seen, code, x.code)
		}
		if said := saidOf(g, x.w); said != x.said {
			t.Errorf("behind Says(%d, %d) it has said %d, want %d", x.w, x.seen, said, x.said)
		}
	}
	folded(t, g)
}

func TestSaysWrong(t *testing.T) {
	for _, g := range []*Log{busy(t), filled(t, api.MaxLog)} {
		was := told(g)
		for _, seen := range append([]int{g.Len() + 1, api.MaxLog + 1}, far...) {
			if code := g.Says(0, seen); code != api.ErrOld {
				t.Errorf("Says(0, %d): %d", seen, code)
			}
			for _, w := range append([]int{2}, noWriters...) {
				if code := g.Says(w, seen); code != api.ErrNone {
					t.Errorf("Says(%d, %d): %d", w, seen, code)
				}
			}
		}
		for _, w := range noWriters {
			if code := g.Says(w, g.Len()); code != api.ErrNone {
				t.Errorf("Says(%d, Len): %d", w, code)
			}
			if code := g.Leave(w); code != api.ErrNone {
				t.Errorf("Leave(%d): %d", w, code)
			}
		}
		if told(g) != was {
			t.Errorf("changed: %s, was %s", told(g), was)
		}
	}
}

// An empty log can be said to be seen, and no further.
func TestSaysOfNoDeeds(t *testing.T) {
	g := New()
	joins(t, g, 1)
	for _, x := range []struct{ seen, code int }{{0, 0}, {1, api.ErrOld}, {-1, api.ErrOld}, {0, 0}} {
		if code := g.Says(1, x.seen); code != x.code || g.Least() != 0 {
			t.Errorf("Says(1, %d): %d, want %d", x.seen, code, x.code)
		}
	}
}

func TestLeast(t *testing.T) {
	g := New()
	least := func(what string, want int) {
		t.Helper()
		if got := g.Least(); got != want {
			t.Errorf("%s: %d, want %d", what, got, want)
		}
	}
	least("no deeds, nobody", 0)
	joins(t, g, 0)
	comes(t, g, puts(0, 1, 0, 0, "a"), puts(0, 2, 0, 0, "b"), puts(0, 3, 0, 0, "c"))
	least("one, that has said nothing", 0)
	says(t, g, 0, 2)
	least("one, that has said 2", 2)
	leaves(t, g, 0)
	least("nobody", 3)
	joins(t, g, 3)
	least("one that has come", 3)
	joins(t, g, 1)
	comes(t, g, puts(1, 1, 3, 0, "d"), puts(1, 2, 4, 0, "e"))
	least("3 has said 3, 1 has said 4", 3)
	joins(t, g, 2)
	says(t, g, 3, 5)
	least("1 has said 4, the others all", 4)
	g.Says(1, 9)
	least("what is refused is not said", 4)
	leaves(t, g, 1)
	least("the one that had said least is gone", 5)
	comes(t, g, puts(2, 1, 5, 0, "f"))
	least("2 and 3 have said 5 of 6", 5)
	joins(t, g, 1)
	least("who comes has said all, the others have not", 5)
	says(t, g, 2, 6)
	says(t, g, 3, 6)
	least("all have said all", 6)
	leaves(t, g, 1, 2, 3)
	least("nobody again", 6)
}

func TestDeed(t *testing.T) {
	g := busy(t)
	want := []api.Deed{puts(0, 1, 0, 0, "hello"), puts(1, 1, 0, 0, "x y"), puts(2, 1, 1, 5, "!"), puts(0, 2, 2, 3, "-"), takes(1, 2, 3, 0, 2), takes(0, 3, 2, 5, 2)}
	if g.Len() != len(want) {
		t.Fatalf("%d deeds", g.Len())
	}
	for i, d := range want {
		if got, ok := g.Deed(i + 1); !ok || got != d {
			t.Errorf("Deed(%d): %+v %v, want %+v", i+1, got, ok, d)
		}
	}
	for _, n := range append([]int{0, 7, 8, api.MaxLog, api.MaxLog + 1}, far...) {
		if got, ok := g.Deed(n); ok || got != (api.Deed{}) {
			t.Errorf("Deed(%d): %+v %v", n, got, ok)
		}
	}
}

func TestExamples(t *testing.T) {
	g := New()
	joins(t, g, 0, 1)
	comes(t, g, puts(0, 1, 0, 0, "ab"), puts(1, 1, 0, 0, "c"))
	if g.Text() != "cab" {
		t.Errorf("two at the beginning at once: %q", g.Text())
	}
	folded(t, g)

	g = New()
	joins(t, g, 0, 1, 2)
	comes(t, g, puts(0, 1, 0, 0, "abc"), takes(1, 1, 1, 1, 1), takes(2, 1, 1, 1, 2))
	if l := g.Chars(); g.Text() != "a" || len(l) != 3 || l[1].Out != 2 || l[1].Gone != 6 || l[2].Out != 3 || l[2].Gone != 4 {
		t.Errorf("two take away at once: %q %+v", g.Text(), l)
	}
	folded(t, g)
}

// A busy log is as its deeds make it, step by step.
func TestBusy(t *testing.T) {
	g := busy(t)
	if g.Text() != "y-hlo!" {
		t.Errorf("%q", g.Text())
	}
	folded(t, g)
	joins(t, g, 2)
	comes(t, g, puts(2, 2, 6, 6, "?"), puts(3, 1, 6, 6, "+"), takes(1, 3, 5, 0, 1), puts(0, 4, 8, 0, "["))
	if g.Text() != "[-hlo!+?" {
		t.Errorf("%q", g.Text())
	}
	folded(t, g)
	if code := chars.Check(g.Chars(), g.Len()); code != 0 {
		t.Errorf("a list of code %d", code)
	}
}

// What Chars answers is the asker's: to change it, or what lies behind it, changes no log and no other answer.
func TestCharsIsNew(t *testing.T) {
	g := busy(t)
	was, want := told(g), g.Chars()
	one, two := g.Chars(), g.Chars()
	clear(one)
	one = append(one[:1], api.Char{C: '!', By: 9})
	clear(one[:cap(one)])
	if told(g) != was || !slices.Equal(two, want) {
		t.Errorf("changed: %s, was %s", told(g), was)
	}
	// And a list that was answered stays when deeds come.
	comes(t, g, takes(0, 4, 6, 0, 6), puts(0, 5, 6, 0, "new"))
	if !slices.Equal(two, want) {
		t.Errorf("an answer changed: %+v, want %+v", two, want)
	}
	folded(t, g)
}

// The memory of a Text that is handed in is not kept: it may be a piece of a long one.
func TestTextIsNotKept(t *testing.T) {
	g := New()
	joins(t, g, 0)
	text := strings.Repeat("long", 1000)[1:5]
	comes(t, g, puts(0, 1, 0, 0, text))
	d, ok := g.Deed(1)
	if !ok || d.Text != "ongl" || unsafe.StringData(d.Text) == unsafe.StringData(text) {
		t.Errorf("%+v %v", d, ok)
	}
}

// Two logs know nothing of each other.
func TestTwoLogs(t *testing.T) {
	one, two := New(), New()
	empty := told(two)
	joins(t, one, 0, 3)
	comes(t, one, puts(0, 1, 0, 0, "one"), puts(3, 1, 1, 3, "!"))
	if told(two) != empty {
		t.Errorf("the second: %s, was %s", told(two), empty)
	}
	was := told(one)
	joins(t, two, 3, 1)
	comes(t, two, puts(3, 1, 0, 0, "two"), takes(3, 2, 1, 0, 1))
	leaves(t, two, 3)
	if told(one) != was || one.Text() != "one!" || two.Text() != "wo" {
		t.Errorf("the first: %s, was %s", told(one), was)
	}
}

// book is a log told by the chapter's words, in another way: but for what was said, all is reckoned from the deeds.
type book struct {
	deeds []api.Deed
	said  map[int]int // of those that are there
}

func (b *book) next(w int) int {
	no := 1
	for _, d := range b.deeds {
		if d.By == w {
			no = d.No + 1
		}
	}
	return no
}

func (b *book) join(w int) (int, int) {
	if w < 0 || w > 3 {
		return 0, api.ErrRange
	}
	if _, there := b.said[w]; there {
		return 0, api.ErrThere
	}
	b.said[w] = len(b.deeds)
	return b.next(w), 0
}

func (b *book) leave(w int) int {
	if _, there := b.said[w]; !there {
		return api.ErrNone
	}
	delete(b.said, w)
	return 0
}

func (b *book) says(w, seen int) int {
	said, there := b.said[w]
	if !there {
		return api.ErrNone
	}
	if seen < said || seen > len(b.deeds) {
		return api.ErrOld
	}
	b.said[w] = seen
	return 0
}

func (b *book) take(d api.Deed) (int, int) {
	said, there := b.said[d.By]
	if !there {
		return 0, api.ErrNone
	}
	if d.No != b.next(d.By) {
		return 0, api.ErrOrder
	}
	if d.Seen < said || d.Seen > len(b.deeds) {
		return 0, api.ErrOld
	}
	if len(b.deeds) == 120 {
		return 0, api.ErrFull
	}
	if code := deed.Check(d); code != 0 {
		return 0, code
	}
	more := append(slices.Clone(b.deeds), d)
	if _, f := fold.All(more); f.Code != 0 {
		return 0, f.Code
	}
	b.deeds, b.said[d.By] = more, d.Seen
	return len(more), 0
}

func (b *book) least() int {
	least := len(b.deeds)
	for _, said := range b.said {
		least = min(least, said)
	}
	return least
}

// holds holds a log against the book.
func (b *book) holds(g *Log) bool {
	list, _ := fold.All(b.deeds)
	same := g.Len() == len(b.deeds) && g.Least() == b.least() && slices.Equal(g.Chars(), list) && g.Text() == fold.Text(list)
	for w := -2; w < 6; w++ {
		_, there := b.said[w]
		same = same && g.Here(w) == there
	}
	for n := -1; n <= len(b.deeds)+1; n++ {
		d, ok := g.Deed(n)
		is := n >= 1 && n <= len(b.deeds)
		same = same && ok == is && (is && d == b.deeds[n-1] || !is && d == api.Deed{})
	}
	return same
}

// wildNumber is mostly around what it is told, and sometimes far off.
func wildNumber(r *rand.Rand, around int) int {
	switch r.Intn(20) {
	case 0:
		return far[r.Intn(len(far))]
	case 1, 2:
		return around + r.Intn(3) - 1
	}
	return around
}

// wildDeed is mostly one that its writer can bring; its Text is short, if the log is to be long.
func wildDeed(r *rand.Rand, b *book, long bool) api.Deed {
	w := r.Intn(4)
	seen := b.said[w] + r.Intn(max(1, len(b.deeds)-b.said[w]+1))
	list, _ := fold.All(b.deeds)
	sees := chars.Count(list, seen, w)
	d := api.Deed{Kind: api.DPut, By: wildNumber(r, w), No: wildNumber(r, b.next(w)), Seen: wildNumber(r, seen), At: wildNumber(r, r.Intn(sees+1))}
	least, most := 0, api.MaxPut+1
	if long {
		least, most = 1, 2
	}
	d.Text = "a~ bcdefghijklmnopqrst"[:least+r.Intn(most-least+1)]
	if r.Intn(3) == 0 {
		d.Kind, d.Text, d.Many = api.DTake, "", wildNumber(r, 1+r.Intn(3))
	}
	if r.Intn(40) == 0 {
		d.Kind = wildNumber(r, 3)
	}
	if r.Intn(40) == 0 {
		d.Text += "\t"
	}
	return d
}

// wildStep asks the same of a log and of the book; false: they do not answer alike.
func wildStep(r *rand.Rand, g *Log, b *book, long bool) (asked string, code int, alike bool) {
	w := wildNumber(r, r.Intn(4))
	switch kind := r.Intn(20); {
	case kind < 3:
		no, code := g.Join(w)
		wantNo, want := b.join(w)
		return fmt.Sprintf("join %d", w), code, no == wantNo && code == want
	case kind == 3:
		code := g.Leave(w)
		return fmt.Sprintf("leave %d", w), code, code == b.leave(w)
	case kind < 7:
		seen := wildNumber(r, b.said[w]+r.Intn(3))
		code := g.Says(w, seen)
		return fmt.Sprintf("says %d %d", w, seen), code, code == b.says(w, seen)
	}
	d := wildDeed(r, b, long)
	n, code := g.Take(d)
	wantN, want := b.take(d)
	return fmt.Sprintf("take %+v", d), code, n == wantN && code == want
}

// Whatever comes, each call ends and answers what the chapter says, and the log is as the book is.
func TestWild(t *testing.T) {
	r := rand.New(rand.NewSource(5))
	met := map[string]int{}
	longest := 0
	for round := range 30 {
		g, b := New(), &book{said: map[int]int{}}
		long, steps := round%2 == 0, 100
		if long {
			steps = 500
		}
		for range steps {
			asked, code, alike := wildStep(r, g, b, long)
			if !alike || !b.holds(g) {
				t.Fatalf("%s: %d, behind %+v, said %v", asked, code, b.deeds, b.said)
			}
			met[fmt.Sprint(strings.Fields(asked)[0], " ", code)]++
		}
		folded(t, g)
		longest = max(longest, g.Len())
	}
	if longest != api.MaxLog {
		t.Errorf("the longest log had %d deeds", longest)
	}
	for call, codes := range map[string][]int{
		"join":  {0, api.ErrRange, api.ErrThere},
		"leave": {0, api.ErrNone},
		"says":  {0, api.ErrNone, api.ErrOld},
		"take":  {0, api.ErrNone, api.ErrOrder, api.ErrOld, api.ErrFull, api.ErrRange, api.ErrKind, api.ErrForm, api.ErrText},
	} {
		for _, code := range codes {
			if met[fmt.Sprint(call, " ", code)] == 0 {
				t.Errorf("no %s met code %d: %v", call, code, met)
			}
		}
	}
}

// The same asked of two logs is answered alike.
func TestAlike(t *testing.T) {
	run := func() string {
		r := rand.New(rand.NewSource(6))
		g, b := New(), &book{said: map[int]int{}}
		for range 200 {
			wildStep(r, g, b, true)
		}
		return told(g)
	}
	if one, two := run(), run(); one != two {
		t.Errorf("%s, then %s", one, two)
	}
}
