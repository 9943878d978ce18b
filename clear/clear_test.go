package clear

import (
	"math"
	"math/rand"
	"slices"
	"testing"

	"quillwork/api"
	"quillwork/chars"
	"quillwork/fold"
)

// far: numbers beyond every place and every log, as far as both ends of int.
var far = []int{math.MinInt, math.MinInt + 1, -1 << 32, -api.Open, -2, -1, 201, api.Open - 1, api.Open, api.Open + 1, 1 << 32, 1 << 62, math.MaxInt - 1, math.MaxInt}

// canary lies behind the length of a list, where nobody looks.
var canary = api.Char{C: '!', By: 9, No: -5, K: 7, In: 1, Out: 1, Gone: 1}

func puts(by, no, seen, at int, text string) api.Deed {
	return api.Deed{Kind: api.DPut, By: by, No: no, Seen: seen, At: at, Text: text}
}

func takes(by, no, seen, at, many int) api.Deed {
	return api.Deed{Kind: api.DTake, By: by, No: no, Seen: seen, At: at, Many: many}
}

// folded is fold.All of deeds that can be done.
func folded(t *testing.T, deeds ...api.Deed) []api.Char {
	t.Helper()
	l, f := fold.All(deeds)
	if f != (api.Fault{}) {
		t.Fatalf("%+v: %v", deeds, f)
	}
	return l
}

// written is a list of six deeds of four writers: xabhello, of which e and the first l are gone at 3; a, b and h at 4; the second l at 6.
func written(t *testing.T) []api.Char {
	t.Helper()
	return folded(t,
		puts(0, 1, 0, 0, "hello"),
		puts(1, 1, 0, 0, "ab"),
		takes(2, 1, 1, 1, 2),
		takes(1, 2, 2, 0, 3),
		puts(3, 1, 4, 0, "x"),
		takes(0, 2, 3, 2, 2), // h, that went at 4 already, and l
	)
}

// letters of all bytes of the list, seen or not.
func letters(l []api.Char) string {
	var text []byte
	for _, c := range l {
		text = append(text, c.C)
	}
	return string(text)
}

// roomy is the list with memory behind its length, that must stay as it is.
func roomy(l []api.Char, behind api.Char) (list, whole []api.Char) {
	whole = append(slices.Clone(l), slices.Repeat([]api.Char{behind}, 8)...)
	return whole[:len(l)], whole
}

// markAt is the mark at a place that there must be.
func markAt(t *testing.T, l []api.Char, place int) Mark {
	t.Helper()
	m, ok := At(l, place)
	if !ok {
		t.Fatalf("At(%q, %d): there is no such place", letters(l), place)
	}
	return m
}

func TestDone(t *testing.T) {
	for _, x := range []struct {
		name       string
		out, least int
		want       bool
	}{
		{"none took it", 0, 5, false},
		{"none took it, least is 0", 0, 0, false},
		{"none took it, least is below 0", 0, -1, false},
		{"none took it, least is as high as can be", 0, math.MaxInt, false},
		{"just least", 5, 5, true},
		{"one below", 4, 5, true},
		{"one above", 6, 5, false},
		{"far below", 1, api.MaxLog, true},
		{"far above", api.MaxLog, 1, false},
		{"the first number, just least", 1, 1, true},
		{"the first number, least is 0", 1, 0, false},
		{"the first number, least is below 0", 1, -1, false},
		{"the first number, least is as low as can be", 1, math.MinInt, false},
		{"no number yet", api.Open, api.MaxLog, false},
		{"no number yet, one below", api.Open, api.Open - 1, false},
		{"no number yet, just least", api.Open, api.Open, true},
		{"below 0, just least", -1, -1, true},
		{"below 0, least is 0", -1, 0, true},
		{"below 0, one above", -1, -2, false},
		{"both as low as can be", math.MinInt, math.MinInt, true},
		{"both as high as can be", math.MaxInt, math.MaxInt, true},
		{"from end to end", math.MinInt, math.MaxInt, true},
		{"from end to end, turned round", math.MaxInt, math.MinInt, false},
	} {
		// Nothing but Out says whether a byte is done.
		for _, c := range []api.Char{{}, {C: 'a', By: 1, No: 2, K: 3, In: 4}, {In: api.Open}, {In: 7, Gone: 15}, {By: math.MinInt, No: math.MaxInt, K: -1, In: math.MaxInt, Gone: math.MinInt}} {
			c.Out = x.out
			if got := Done(c, x.least); got != x.want {
				t.Errorf("%s: Done(%+v, %d): %v", x.name, c, x.least, got)
			}
		}
	}
}

func TestOf(t *testing.T) {
	l := written(t)
	if letters(l) != "xabhello" {
		t.Fatalf("the list is %q", letters(l))
	}
	for _, x := range []struct {
		least int
		want  string
	}{
		{math.MinInt, "xabhello"}, {-1, "xabhello"}, {0, "xabhello"}, {1, "xabhello"}, {2, "xabhello"},
		{3, "xabhlo"}, {4, "xlo"}, {5, "xlo"}, {6, "xo"}, {7, "xo"}, {api.Open, "xo"}, {math.MaxInt, "xo"},
	} {
		got := Of(l, x.least)
		if letters(got) != x.want {
			t.Errorf("Of, least %d: %q, want %q", x.least, letters(got), x.want)
		}
		for _, c := range got {
			if !slices.Contains(l, c) {
				t.Errorf("Of, least %d: %+v was not so", x.least, c)
			}
		}
		if again := Of(got, x.least); !slices.Equal(again, got) {
			t.Errorf("Of of Of, least %d: %+v, want %+v", x.least, again, got)
		}
	}
}

func TestOfEdges(t *testing.T) {
	a, b, c := api.Char{C: 'a', No: 1, In: 1, Out: 3, Gone: 1}, api.Char{C: 'b', No: 1, K: 1, In: 1}, api.Char{C: 'c', By: 1, No: 1, In: 2, Out: 4, Gone: 3}
	own := api.Char{C: 'o', By: 2, No: 1, In: api.Open}
	away := api.Char{C: 'w', By: 2, No: 2, In: api.Open, Gone: 4}
	for _, x := range []struct {
		name    string
		l, want []api.Char
		least   int
	}{
		{"all are done", []api.Char{a, c}, nil, 4},
		{"the first", []api.Char{a, b, c}, []api.Char{b, c}, 3},
		{"the last", []api.Char{b, a}, []api.Char{b}, 3},
		{"one that is not", []api.Char{c}, []api.Char{c}, 3},
		{"what has no number stays, also taken away", []api.Char{own, a, away}, []api.Char{own, away}, 9},
		{"taken away by what has no number", []api.Char{{C: 'g', No: 1, In: 1, Gone: 15}}, []api.Char{{C: 'g', No: 1, In: 1, Gone: 15}}, 9},
		{"the same byte twice, both done", []api.Char{a, b, a}, []api.Char{b}, 3},
		{"the same byte twice, neither done", []api.Char{b, b}, []api.Char{b, b}, 3},
		{"Out is 0, least below 0", []api.Char{b}, []api.Char{b}, -1},
	} {
		if got := Of(x.l, x.least); !slices.Equal(got, x.want) {
			t.Errorf("%s: %+v, want %+v", x.name, got, x.want)
		}
	}
}

func TestAt(t *testing.T) {
	l := written(t)
	for _, x := range []struct {
		place int
		want  Mark
		ok    bool
	}{
		{0, Mark{Start: true}, true},
		{1, Mark{By: 3, No: 1}, true},
		{2, Mark{By: 1, No: 1}, true},
		{3, Mark{By: 1, No: 1, K: 1}, true},
		{4, Mark{By: 0, No: 1}, true},
		{5, Mark{By: 0, No: 1, K: 1}, true},
		{8, Mark{By: 0, No: 1, K: 4}, true},
		{9, Mark{}, false}, {10, Mark{}, false}, {-1, Mark{}, false}, {-8, Mark{}, false},
	} {
		if m, ok := At(l, x.place); m != x.want || ok != x.ok {
			t.Errorf("At %d: %+v %v, want %+v %v", x.place, m, ok, x.want, x.ok)
		}
	}
	for _, place := range far {
		if m, ok := At(l, place); ok || m != (Mark{}) {
			t.Errorf("At %d: %+v %v", place, m, ok)
		}
	}
}

func TestPlace(t *testing.T) {
	l := written(t)
	for _, x := range []struct {
		name string
		m    Mark
		want int
	}{
		{"the start", Mark{Start: true}, 0},
		{"the first byte", Mark{By: 3, No: 1}, 1},
		{"in the midst, of a byte that is gone", Mark{By: 0, No: 1, K: 1}, 5},
		{"the last byte", Mark{By: 0, No: 1, K: 4}, 8},
		{"no byte: the zero mark", Mark{}, -1},
		{"no byte: another By", Mark{By: 2, No: 1, K: 4}, -1},
		{"no byte: another No", Mark{By: 0, No: 2, K: 4}, -1},
		{"no byte: another K", Mark{By: 0, No: 1, K: 5}, -1},
		{"no byte: all below 0", Mark{By: -1, No: -1, K: -1}, -1},
	} {
		if got := Place(l, x.m); got != x.want {
			t.Errorf("%s: %d, want %d", x.name, got, x.want)
		}
	}
	for _, n := range far {
		for _, m := range []Mark{{By: n, No: 1}, {By: 3, No: n}, {By: 3, No: 1, K: n}, {By: n, No: n, K: n}} {
			if got := Place(l, m); got != -1 {
				t.Errorf("Place of %+v: %d", m, got)
			}
		}
	}
}

// At the beginning stands Start alone: with By, No or K it is the mark of no place, not even of the byte that they name.
func TestStartIsAlone(t *testing.T) {
	l := written(t)
	marks := []Mark{{Start: true, By: 1}, {Start: true, No: 1}, {Start: true, K: 1}}
	for _, c := range l {
		marks = append(marks, Mark{Start: true, By: c.By, No: c.No, K: c.K})
	}
	for _, n := range far {
		marks = append(marks, Mark{Start: true, By: n}, Mark{Start: true, No: n}, Mark{Start: true, K: n})
	}
	for _, m := range marks {
		for _, list := range [][]api.Char{nil, l, l[1:]} {
			if got := Place(list, m); got != -1 {
				t.Errorf("Place of %+v: %d", m, got)
			}
			for _, least := range []int{-1, 0, 4, 9} {
				if s, ok := Slide(list, m, least); ok || s != (Mark{}) {
					t.Errorf("Slide of %+v, least %d: %+v %v", m, least, s, ok)
				}
			}
		}
	}
	// A byte that is all zeros is not the start, nor the start such a byte.
	zeros := []api.Char{{C: 'a', No: 1}, {C: 'z'}}
	if Place(zeros, Mark{}) != 2 || Place(zeros, Mark{Start: true}) != 0 || markAt(t, zeros, 2) != (Mark{}) {
		t.Errorf("zeros: %d %d %+v", Place(zeros, Mark{}), Place(zeros, Mark{Start: true}), markAt(t, zeros, 2))
	}
}

// A mark has nothing of its byte but the name: it stands where it stood, whatever becomes of the byte and of those around it.
func TestMarkKeepsToItsByte(t *testing.T) {
	l := written(t)
	for place := range len(l) + 1 {
		m := markAt(t, l, place)
		more, code := fold.Do(l, puts(2, 2, 6, 0, "new"), 7)
		if code != 0 {
			t.Fatalf("Do: %d", code)
		}
		more, code = fold.Do(more, takes(3, 2, 7, 0, 5), 8)
		if code != 0 {
			t.Fatalf("Do: %d", code)
		}
		want := place + 3
		if place == 0 {
			want = 0
		}
		if got := Place(more, m); got != want {
			t.Errorf("the mark of %d stands at %d, want %d", place, got, want)
		}
	}
}

func TestSlide(t *testing.T) {
	l := written(t)
	for _, x := range []struct {
		name  string
		l     []api.Char
		least int
		want  []int // of the mark at each place, where it slides to
	}{
		{"least below 0", l, -1, []int{0, 1, 2, 3, 4, 5, 6, 7, 8}},
		{"least 0", l, 0, []int{0, 1, 2, 3, 4, 5, 6, 7, 8}},
		{"one below the first that is gone", l, 2, []int{0, 1, 2, 3, 4, 5, 6, 7, 8}},
		{"just the first that is gone", l, 3, []int{0, 1, 2, 3, 4, 4, 4, 7, 8}},
		{"over several, as far as one that is not done", l, 4, []int{0, 1, 1, 1, 1, 1, 1, 7, 8}},
		{"one below the last that is gone", l, 5, []int{0, 1, 1, 1, 1, 1, 1, 7, 8}},
		{"all that are gone", l, 6, []int{0, 1, 1, 1, 1, 1, 1, 1, 8}},
		{"far above", l, math.MaxInt, []int{0, 1, 1, 1, 1, 1, 1, 1, 8}},
		{"far below", l, math.MinInt, []int{0, 1, 2, 3, 4, 5, 6, 7, 8}},
		{"as far as the start", l[1:], 4, []int{0, 0, 0, 0, 0, 0, 6, 7}},
		{"all as far as the start", l[1:7], 6, []int{0, 0, 0, 0, 0, 0, 0}},
		{"not as far as the start: the first is not done", l[1:], 3, []int{0, 1, 2, 3, 3, 3, 6, 7}},
	} {
		for place, want := range x.want {
			got, ok := Slide(x.l, markAt(t, x.l, place), x.least)
			if !ok || got != markAt(t, x.l, want) {
				t.Errorf("%s, from %d: %+v %v, want that at %d", x.name, place, got, ok, want)
			}
		}
	}
}

func TestSlideNowhere(t *testing.T) {
	l := written(t)
	marks := []Mark{{}, {By: 2, No: 1}, {By: 3, No: 1, K: 1}, {By: 3, No: 2}, {By: -1, No: -1, K: -1}}
	for _, n := range far {
		marks = append(marks, Mark{By: n, No: n, K: n}, Mark{By: n, No: 1}, Mark{By: 3, No: 1, K: n})
	}
	for _, m := range marks {
		for _, least := range append([]int{0, 3, 4, 6, 7}, far...) {
			if s, ok := Slide(l, m, least); ok || s != (Mark{}) {
				t.Errorf("Slide of %+v, least %d: %+v %v", m, least, s, ok)
			}
		}
	}
	// Behind a byte that was forgotten a mark stands no longer, if it did not slide ahead of that.
	gone := markAt(t, l, 4)
	cleared := Of(l, 4)
	if s, ok := Slide(cleared, gone, 4); ok || s != (Mark{}) || Place(cleared, gone) != -1 {
		t.Errorf("forgotten: %+v %v, at %d", s, ok, Place(cleared, gone))
	}
}

func TestNoBytes(t *testing.T) {
	for _, l := range [][]api.Char{nil, {}, make([]api.Char, 0, 4)} {
		for _, least := range append([]int{0, 1}, far...) {
			if got := Of(l, least); len(got) != 0 {
				t.Errorf("Of: %v", got)
			}
			if m, ok := Slide(l, Mark{Start: true}, least); !ok || m != (Mark{Start: true}) {
				t.Errorf("Slide of the start: %+v %v", m, ok)
			}
			if m, ok := Slide(l, Mark{}, least); ok || m != (Mark{}) {
				t.Errorf("Slide of no mark: %+v %v", m, ok)
			}
		}
		if m, ok := At(l, 0); !ok || m != (Mark{Start: true}) {
			t.Errorf("At 0: %+v %v", m, ok)
		}
		for _, place := range append([]int{1}, far...) {
			if m, ok := At(l, place); ok || m != (Mark{}) {
				t.Errorf("At %d: %+v %v", place, m, ok)
			}
		}
		if Place(l, Mark{Start: true}) != 0 || Place(l, Mark{}) != -1 || Place(l, Mark{No: 1}) != -1 {
			t.Error("Place")
		}
	}
}

// What is handed in stays as it was, also behind its length, and what lies there is not read.
func TestNothingIsChanged(t *testing.T) {
	l := written(t)
	for _, base := range [][]api.Char{nil, l, l[1:], l[1:7]} {
		for least := -1; least <= 8; least++ {
			list, whole := roomy(base, canary)
			was := slices.Clone(whole)
			for i := range whole {
				Done(whole[i], least)
			}
			if got := Of(list, least); slices.Contains(got, canary) || len(got) > len(base) {
				t.Errorf("Of, least %d: %v", least, got)
			}
			for place := -1; place <= len(whole)+1; place++ {
				m, ok := At(list, place)
				if ok != (place >= 0 && place <= len(base)) {
					t.Errorf("At %d of %d bytes: %+v %v", place, len(base), m, ok)
				}
				Place(list, m)
				Slide(list, m, least)
			}
			stray := behind(canary)
			if _, ok := Slide(list, stray, least); ok || Place(list, stray) != -1 {
				t.Errorf("what lies behind the length was found: %d", Place(list, stray))
			}
			if !slices.Equal(whole, was) {
				t.Errorf("least %d: what was handed in is changed: %+v, was %+v", least, whole, was)
			}
		}
	}
}

// An answer can be changed, as far as its memory goes, without what was handed in or another answer changing; nor does it hang on what was handed in.
func TestOfIsNew(t *testing.T) {
	for least := -1; least <= 7; least++ {
		list, whole := roomy(written(t), canary)
		was := slices.Clone(whole)
		one, two := Of(list, least), Of(list, least)
		want := slices.Clone(two)
		one = one[:cap(one)]
		for i := range one {
			one[i] = api.Char{C: '?'}
		}
		if !slices.Equal(whole, was) {
			t.Errorf("least %d: what was handed in is changed", least)
		}
		if !slices.Equal(two, want) {
			t.Errorf("least %d: two answers share memory", least)
		}
		clear(whole)
		if !slices.Equal(two, want) {
			t.Errorf("least %d: the answer hangs on what was handed in", least)
		}
	}
	// Of an empty list, too: what is laid behind the answer does not lie behind what was handed in.
	list, whole := roomy(nil, canary)
	got := append(Of(list, 3), api.Char{C: '?'})
	if len(got) != 1 || whole[0] != canary {
		t.Errorf("of an empty list: %v", whole[0])
	}
}

// wildDeeds can all be done, one behind the other; each had seen some of those ahead.
func wildDeeds(r *rand.Rand, many int) ([]api.Deed, []api.Char) {
	var deeds []api.Deed
	var list []api.Char
	var nos [api.MaxWriters]int
	for range many {
		d := puts(r.Intn(api.MaxWriters), 0, r.Intn(len(deeds)+1), 0, "abcdefgh"[:1+r.Intn(8)])
		sees := chars.Count(list, d.Seen, d.By)
		d.No, d.At = nos[d.By]+1, r.Intn(sees+1)
		if d.At < sees && r.Intn(3) > 0 {
			d.Kind, d.Text, d.Many = api.DTake, "", 1+r.Intn(min(4, sees-d.At))
		}
		next, code := fold.Do(list, d, len(deeds)+1)
		if code != 0 {
			continue
		}
		deeds, list = append(deeds, d), next
		nos[d.By]++
	}
	return deeds, list
}

// withOpen is the list with a writer's deeds on top that have no number yet.
func withOpen(r *rand.Rand, l []api.Char, seen int) []api.Char {
	by := r.Intn(api.MaxWriters)
	for no := 100; no < 104; no++ {
		sees := chars.Count(l, seen, by)
		d := puts(by, no, seen, r.Intn(sees+1), "OPEN"[:1+r.Intn(4)])
		if d.At < sees && r.Intn(2) == 0 {
			d = takes(by, no, seen, d.At, 1)
		}
		if next, code := fold.Do(l, d, api.Open); code == 0 {
			l = next
		}
	}
	return l
}

// eachList hands lists to the test that deeds make, and how many deeds the log has.
func eachList(t *testing.T, look func(l []api.Char, log int)) {
	t.Helper()
	look(written(t), 6)
	look(nil, 0)
	r := rand.New(rand.NewSource(7))
	for range 60 {
		deeds, l := wildDeeds(r, r.Intn(24))
		made := folded(t, deeds...)
		if !slices.Equal(made, l) {
			t.Fatalf("%+v: %+v, want %+v", deeds, made, l)
		}
		look(made, len(deeds))
		look(withOpen(r, made, len(deeds)), len(deeds))
	}
}

// Who has seen the log as far as least, or farther, sees the same without those that are done.
func TestNobodyMissesThem(t *testing.T) {
	forgotten := 0
	eachList(t, func(l []api.Char, log int) {
		for least := -1; least <= log+1; least++ {
			cleared := Of(l, least)
			forgotten += len(l) - len(cleared)
			for _, seen := range append([]int{api.Open, math.MaxInt}, numbers(least, log+2)...) {
				for by := -1; by <= api.MaxWriters; by++ {
					got, want := chars.View(cleared, seen, by), chars.View(l, seen, by)
					if string(got) != string(want) {
						t.Fatalf("%+v, least %d, seen %d, by %d: %q, want %q", l, least, seen, by, got, want)
					}
				}
			}
			if fold.Text(cleared) != fold.Text(l) {
				t.Fatalf("%+v, least %d: the text is %q, want %q", l, least, fold.Text(cleared), fold.Text(l))
			}
		}
	})
	if forgotten < 1000 {
		t.Errorf("only %d bytes were forgotten", forgotten)
	}
}

// numbers from the first to the last one.
func numbers(first, last int) []int {
	var l []int
	for n := first; n <= last; n++ {
		l = append(l, n)
	}
	return l
}

// Neither more nor less is forgotten than may be: those bytes of which all know that they are gone who have seen as far as least.
func TestJustThoseAreForgotten(t *testing.T) {
	eachList(t, func(l []api.Char, log int) {
		for least := range log + 1 {
			cleared := Of(l, least)
			for _, c := range l {
				stays := chars.Find(cleared, c) >= 0
				// A number that is no writer has no bit in Gone: it knows what the log alone says.
				if known := chars.Out(c, least, -1); stays == known {
					t.Fatalf("least %d: %+v stays: %v", least, c, stays)
				}
			}
			if code := chars.Check(cleared, log); code != 0 {
				t.Fatalf("least %d: there may be no such list: %d", least, code)
			}
		}
	})
}

// A deed that had seen as far as least comes to the same when it is done to the list that forgot.
func TestDeedsDoNotMissThem(t *testing.T) {
	r := rand.New(rand.NewSource(8))
	for range 400 {
		deeds, l := wildDeeds(r, 1+r.Intn(24))
		least := r.Intn(len(deeds) + 1)
		seen := least + r.Intn(len(deeds)+1-least)
		by, number := r.Intn(api.MaxWriters), len(deeds)+1
		sees := chars.Count(l, seen, by)
		d := puts(by, 100, seen, r.Intn(sees+1), "new")
		if d.At < sees && r.Intn(2) == 0 {
			d = takes(by, 100, seen, d.At, 1+r.Intn(sees-d.At))
		}
		whole, code := fold.Do(l, d, number)
		if code != 0 {
			continue
		}
		got, code := fold.Do(Of(l, least), d, number)
		if want := Of(whole, least); code != 0 || !slices.Equal(got, want) {
			t.Fatalf("%+v, least %d, %+v: %+v %d, want %+v", l, least, d, got, code, want)
		}
	}
}

// Each place has a mark of its own, and each mark stands at its place.
func TestThereAndBack(t *testing.T) {
	eachList(t, func(l []api.Char, log int) {
		met := map[Mark]int{}
		for place := range len(l) + 1 {
			m := markAt(t, l, place)
			if other, there := met[m]; there {
				t.Fatalf("%+v stands at %d and %d", m, other, place)
			}
			met[m] = place
			if got := Place(l, m); got != place {
				t.Fatalf("%+v, that At of %d answers, stands at %d", m, place, got)
			}
			if s, ok := Slide(l, m, 0); !ok || s != m {
				t.Fatalf("Slide of %+v, with nothing done: %+v %v", m, s, ok)
			}
		}
		for _, place := range []int{-1, len(l) + 1} {
			if m, ok := At(l, place); ok || m != (Mark{}) {
				t.Fatalf("At %d of %d bytes: %+v %v", place, len(l), m, ok)
			}
		}
	})
}

// A mark that slid has as many bytes ahead that one sees as it had, and has them, too, when those that are done are forgotten.
func TestSlideKeepsWhatIsAhead(t *testing.T) {
	slid := 0
	eachList(t, func(l []api.Char, log int) {
		for least := -1; least <= log+1; least++ {
			cleared := Of(l, least)
			for place := range len(l) + 1 {
				m, ok := Slide(l, markAt(t, l, place), least)
				to, left := Place(l, m), Place(cleared, m)
				if !ok || to < 0 || to > place || left < 0 {
					t.Fatalf("least %d, from %d: %+v %v, at %d, and %d of those that are left", least, place, m, ok, to, left)
				}
				slid += place - to
				for _, seen := range []int{least, least + 1, log, log + 2} {
					for by := -1; by <= api.MaxWriters; by++ {
						if seen < least {
							continue
						}
						was := chars.Count(l[:place], seen, by)
						if chars.Count(l[:to], seen, by) != was || chars.Count(cleared[:left], seen, by) != was {
							t.Fatalf("%+v, least %d, from %d to %d, seen %d, by %d: %d bytes are ahead no longer", l, least, place, to, seen, by, was)
						}
					}
				}
			}
		}
	})
	if slid < 1000 {
		t.Errorf("marks slid over only %d bytes", slid)
	}
}

// reckonedOf is Of, told by the chapter's words in another way.
func reckonedOf(l []api.Char, least int) []api.Char {
	var left []api.Char
	for _, c := range l {
		if c.Out == 0 || c.Out > least {
			left = append(left, c)
		}
	}
	return left
}

// reckonedPlace asks of each place whether it is the mark's.
func reckonedPlace(l []api.Char, m Mark) int {
	for place := range len(l) + 1 {
		switch {
		case place == 0 && m.Start && m.By == 0 && m.No == 0 && m.K == 0:
			return 0
		case place > 0 && !m.Start && l[place-1].By == m.By && l[place-1].No == m.No && l[place-1].K == m.K:
			return place
		}
	}
	return -1
}

// reckonedSlide goes from the front on: behind each byte that is not done a mark is held up.
func reckonedSlide(l []api.Char, m Mark, least int) (Mark, bool) {
	held, place := Mark{Start: true}, reckonedPlace(l, m)
	for i, c := range l {
		if i < place && (c.Out == 0 || c.Out > least) {
			held = Mark{By: c.By, No: c.No, K: c.K}
		}
	}
	if place < 0 {
		return Mark{}, false
	}
	return held, true
}

// wildNumber is mostly small, and sometimes far off.
func wildNumber(r *rand.Rand, small int) int {
	if r.Intn(10) == 0 {
		return far[r.Intn(len(far))]
	}
	return r.Intn(small)
}

// wildList is one that need never come to be; now and then a byte stands in it twice.
func wildList(r *rand.Rand) []api.Char {
	l := make([]api.Char, r.Intn(12))
	for i := range l {
		l[i] = api.Char{C: byte(r.Intn(256)), By: wildNumber(r, 3), No: wildNumber(r, 3), K: wildNumber(r, 3), In: wildNumber(r, 6), Gone: wildNumber(r, 16)}
		if r.Intn(3) > 0 {
			l[i].Out = wildNumber(r, 6)
		}
	}
	return l
}

// wildMark is mostly one that stands in the list.
func wildMark(r *rand.Rand, l []api.Char) Mark {
	m := Mark{Start: r.Intn(5) == 0}
	if len(l) > 0 && r.Intn(4) > 0 {
		c := l[r.Intn(len(l))]
		m.By, m.No, m.K = c.By, c.No, c.K
	} else if !m.Start || r.Intn(2) == 0 {
		m.By, m.No, m.K = wildNumber(r, 3), wildNumber(r, 3), wildNumber(r, 3)
	}
	return m
}

// Whatever comes, each call ends, answers what the chapter says, answers it again, and leaves what was handed in.
func TestWild(t *testing.T) {
	r := rand.New(rand.NewSource(9))
	stood, nowhere := 0, 0
	for range 100000 {
		l, whole := roomy(wildList(r), canary)
		was := slices.Clone(whole)
		m, least, place := wildMark(r, l), wildNumber(r, 8), wildNumber(r, 14)
		for range 2 {
			if got, want := Of(l, least), reckonedOf(l, least); !slices.Equal(got, want) {
				t.Fatalf("Of(%+v, %d): %+v, want %+v", l, least, got, want)
			}
			if got, want := Place(l, m), reckonedPlace(l, m); got != want {
				t.Fatalf("Place(%+v, %+v): %d, want %d", l, m, got, want)
			}
			got, ok := Slide(l, m, least)
			if want, is := reckonedSlide(l, m, least); got != want || ok != is {
				t.Fatalf("Slide(%+v, %+v, %d): %+v %v, want %+v %v", l, m, least, got, ok, want, is)
			}
			var want Mark
			is := place >= 0 && place <= len(l)
			switch {
			case is && place == 0:
				want.Start = true
			case is:
				want.By, want.No, want.K = l[place-1].By, l[place-1].No, l[place-1].K
			}
			if got, ok := At(l, place); got != want || ok != is {
				t.Fatalf("At(%+v, %d): %+v %v, want %+v %v", l, place, got, ok, want, is)
			}
			if ok {
				stood++
			} else {
				nowhere++
			}
		}
		if !slices.Equal(whole, was) {
			t.Fatalf("%+v is changed, was %+v", whole, was)
		}
	}
	if stood < 1000 || nowhere < 1000 {
		t.Errorf("%d marks stood, %d did not", stood, nowhere)
	}
}

// A byte whose name is at both ends of int has a mark as any other one.
func TestFarNames(t *testing.T) {
	var l []api.Char
	for i, n := range far {
		l = append(l, api.Char{By: n, No: far[len(far)-1-i], K: n, In: n, Out: n, Gone: n})
	}
	for i, c := range l {
		m := markAt(t, l, i+1)
		if m != (Mark{By: c.By, No: c.No, K: c.K}) || Place(l, m) != i+1 {
			t.Errorf("%+v: %+v at %d", c, m, Place(l, m))
		}
		// Out rises from byte to byte here: those as far as this one are done, and all others are not.
		if s, ok := Slide(l, m, c.Out); !ok || s != (Mark{Start: true}) {
			t.Errorf("Slide of %+v: %+v %v", m, s, ok)
		}
		if got := Of(l, c.Out); !slices.Equal(got, l[i+1:]) {
			t.Errorf("Of, least %d: %+v", c.Out, got)
		}
	}
}

// A very long list is no trouble.
func TestVeryMany(t *testing.T) {
	l := make([]api.Char, 100000)
	for i := range l {
		l[i] = api.Char{C: 'a', No: i + 1, In: 1, Out: 2, Gone: 1}
	}
	last := markAt(t, l, len(l))
	if Place(l, last) != len(l) || len(Of(l, 2)) != 0 || len(Of(l, 1)) != len(l) {
		t.Errorf("at %d, %d left", Place(l, last), len(Of(l, 2)))
	}
	if s, ok := Slide(l, last, 2); !ok || s != (Mark{Start: true}) {
		t.Errorf("Slide: %+v %v", s, ok)
	}
}
