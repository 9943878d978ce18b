package fold

import (
	"math"
	"math/rand"
	"slices"
	"strings"
	"testing"

	"quillwork/api"
	"quillwork/chars"
	"quillwork/deed"
)

// far: numbers that are beyond every bound of a deed.
var far = []int{math.MinInt, math.MinInt + 1, -1 << 32, -2, -1, 201, 1 << 32, math.MaxInt - 1, math.MaxInt}

func puts(by, no, seen, at int, text string) api.Deed {
	return api.Deed{Kind: api.DPut, By: by, No: no, Seen: seen, At: at, Text: text}
}

func takes(by, no, seen, at, many int) api.Deed {
	return api.Deed{Kind: api.DTake, By: by, No: no, Seen: seen, At: at, Many: many}
}

// plainBytes is a list of bytes that everybody sees who has seen a deed.
func plainBytes(many int) []api.Char {
	l := make([]api.Char, many)
	for i := range l {
		l[i] = api.Char{C: byte('a' + i%26), By: i % 4, No: 1 + i/80, K: i / 4 % 20, In: 1}
	}
	return l
}

// mixed has one byte of each fate; writer 1 that has seen 2 deeds sees a, d, e, h.
func mixed() []api.Char {
	return []api.Char{
		{C: 'a', By: 0, No: 1, In: 1},
		{C: 'b', By: 2, No: 1, In: 3},
		{C: 'c', By: 0, No: 1, K: 1, In: 1, Out: 2, Gone: 4},
		{C: 'd', By: 1, No: 1, In: api.Open},
		{C: 'e', By: 0, No: 1, K: 2, In: 1, Out: 3, Gone: 4},
		{C: 'f', By: 3, No: 1, In: 2, Gone: 2},
		{C: 'g', By: 1, No: 2, In: api.Open, Gone: 2},
		{C: 'h', By: 3, No: 1, K: 1, In: 2},
		{C: 'i', By: 3, No: 2, In: api.Open},
	}
}

// letters of all bytes of the list, seen or not.
func letters(l []api.Char) string {
	s := ""
	for _, c := range l {
		s += string(rune(c.C))
	}
	return s
}

func TestNew(t *testing.T) {
	for _, x := range []struct {
		name string
		d    api.Deed
		in   int
		want []api.Char
	}{
		{"no text", api.Deed{}, 3, nil},
		{"a take", takes(1, 2, 3, 4, 5), 6, nil},
		{"one", puts(0, 1, 0, 0, "a"), 1, []api.Char{{C: 'a', No: 1, In: 1}}},
		{"several", puts(3, 7, 5, 9, "x y"), 12, []api.Char{{C: 'x', By: 3, No: 7, In: 12}, {C: ' ', By: 3, No: 7, K: 1, In: 12}, {C: 'y', By: 3, No: 7, K: 2, In: 12}}},
		{"open", puts(2, 1, 0, 0, "q"), api.Open, []api.Char{{C: 'q', By: 2, No: 1, In: api.Open}}},
		{"by bytes", api.Deed{Kind: api.DPut, By: 1, No: 1, Text: "é"}, 1, []api.Char{{C: 0xc3, By: 1, No: 1, In: 1}, {C: 0xa9, By: 1, No: 1, K: 1, In: 1}}},
		{"unchecked", api.Deed{Kind: 9, By: -1, No: math.MinInt, Seen: 5, At: -7, Many: 8, Text: "\x00"}, math.MinInt, []api.Char{{By: -1, No: math.MinInt, In: math.MinInt}}},
	} {
		if got := New(x.d, x.in); !slices.Equal(got, x.want) {
			t.Errorf("%s: %v, want %v", x.name, got, x.want)
		}
	}
	text := strings.Repeat("ab", 50000)
	l := New(puts(1, 2, 0, 0, text), math.MaxInt)
	if len(l) != len(text) || l[99999] != (api.Char{C: 'b', By: 1, No: 2, K: 99999, In: math.MaxInt}) {
		t.Errorf("long: %d bytes", len(l))
	}
}

// refused: deeds that Check has a code for, some of which would run over if their numbers were added.
func refused() []api.Deed {
	l := []api.Deed{{}, {Kind: 3, No: 1, Text: "a"}, puts(0, 1, 0, 0, ""), puts(0, 1, 0, 0, "\n"), puts(0, 1, 0, 0, strings.Repeat("a", 21)), takes(0, 1, 0, 0, 0)}
	withMany, withText := puts(0, 1, 0, 0, "a"), takes(0, 1, 0, 0, 1)
	withMany.Many, withText.Text = 1, "a"
	l = append(l, withMany, withText, puts(4, 1, 0, 0, "a"), takes(-1, 1, 0, 0, 1), puts(0, 0, 0, 0, "a"), takes(0, 121, 0, 0, 1), puts(0, 1, -1, 0, "a"), takes(0, 1, 121, 0, 1))
	for _, n := range far {
		l = append(l, puts(n, 1, 0, 0, "a"), takes(n, 1, 0, 0, 1), puts(0, 1, 0, n, "a"), puts(0, 1, n, 0, "a"))
		for _, m := range far {
			l = append(l, takes(0, 1, 1, n, m))
		}
	}
	return l
}

// Check's code comes ahead of all others, and with it there is no list.
func TestRefused(t *testing.T) {
	for _, d := range refused() {
		want := deed.Check(d)
		if want == 0 {
			t.Fatalf("%+v is a deed", d)
		}
		for _, l := range [][]api.Char{nil, {}, mixed(), plainBytes(200), plainBytes(201)} {
			if got := May(l, d); got != want {
				t.Errorf("May of %d bytes, %+v: %d, want %d", len(l), d, got, want)
			}
			for _, number := range []int{1, 0, api.Open} {
				if got, code := Do(l, d, number); code != want || got != nil {
					t.Errorf("Do of %d bytes, %+v, %d: %v %d, want %d", len(l), d, number, got, code, want)
				}
			}
		}
		if got, f := All([]api.Deed{d}); f != (api.Fault{Code: want}) || got != nil {
			t.Errorf("All of %+v: %v %v, want %d", d, got, f, want)
		}
	}
}

func TestMaySees(t *testing.T) {
	for _, x := range []struct {
		name string
		l    []api.Char
		d    api.Deed
		want int
	}{
		{"put, no bytes", nil, puts(0, 1, 0, 0, "a"), 0},
		{"put, no bytes, beyond", nil, puts(0, 1, 0, 1, "a"), api.ErrRange},
		{"put, an empty list, beyond", []api.Char{}, puts(0, 1, 0, 200, "a"), api.ErrRange},
		{"take, no bytes", nil, takes(0, 1, 0, 0, 1), api.ErrRange},
		{"put at the end", mixed(), puts(1, 3, 2, 4, "x"), 0},
		{"put beyond", mixed(), puts(1, 3, 2, 5, "x"), api.ErrRange},
		{"take the last", mixed(), takes(1, 3, 2, 3, 1), 0},
		{"take one too many", mixed(), takes(1, 3, 2, 3, 2), api.ErrRange},
		{"take at the end", mixed(), takes(1, 3, 2, 4, 1), api.ErrRange},
		{"take beyond", mixed(), takes(1, 3, 2, 5, 1), api.ErrRange},
		{"take all", mixed(), takes(1, 3, 2, 0, 4), 0},
		{"take all and one", mixed(), takes(1, 3, 2, 0, 5), api.ErrRange},
		{"greatest sum", mixed(), takes(1, 3, 2, 200, 200), api.ErrRange},
		{"has seen nothing: its own alone", mixed(), puts(1, 3, 0, 1, "x"), 0},
		{"has seen nothing, beyond", mixed(), puts(1, 3, 0, 2, "x"), api.ErrRange},
		{"has seen more: b, but not e", mixed(), puts(1, 3, 3, 4, "x"), 0},
		{"has seen more, beyond", mixed(), puts(1, 3, 3, 5, "x"), api.ErrRange},
		{"who took c and e away", mixed(), puts(2, 2, 2, 4, "x"), 0},
		{"who took c and e away, beyond", mixed(), puts(2, 2, 2, 5, "x"), api.ErrRange},
		{"take of 200", plainBytes(200), takes(0, 1, 1, 0, 200), 0},
		{"take of 200 of 199", plainBytes(199), takes(0, 1, 1, 0, 200), api.ErrRange},
		{"put behind 199", plainBytes(199), puts(0, 9, 1, 199, "x"), 0},
		{"put behind 200 of 199", plainBytes(199), puts(0, 9, 1, 200, "x"), api.ErrRange},
	} {
		if got := May(x.l, x.d); got != x.want {
			t.Errorf("%s: %d, want %d", x.name, got, x.want)
		}
		got, code := Do(x.l, x.d, 5)
		if code != x.want || (code != 0 && got != nil) {
			t.Errorf("Do, %s: %v %d, want %d", x.name, got, code, x.want)
		}
	}
}

// Bytes that are gone, or not seen, take up room as well.
func TestMayFull(t *testing.T) {
	gone := plainBytes(200)
	for i := range gone {
		gone[i].Out, gone[i].Gone = 2, 1
	}
	for _, x := range []struct {
		name string
		l    []api.Char
		d    api.Deed
		want int
	}{
		{"180 and 20", plainBytes(180), puts(0, 9, 1, 0, strings.Repeat("x", 20)), 0},
		{"181 and 20", plainBytes(181), puts(0, 9, 1, 0, strings.Repeat("x", 20)), api.ErrFull},
		{"181 and 19", plainBytes(181), puts(0, 9, 1, 0, strings.Repeat("x", 19)), 0},
		{"199 and 1", plainBytes(199), puts(0, 9, 1, 0, "x"), 0},
		{"199 and 2", plainBytes(199), puts(0, 9, 1, 0, "xy"), api.ErrFull},
		{"200 and 1", plainBytes(200), puts(0, 9, 1, 200, "x"), api.ErrFull},
		{"200 that are gone and 1", gone, puts(0, 9, 2, 0, "x"), api.ErrFull},
		{"199 that are gone and 1", gone[:199], puts(0, 9, 2, 0, "x"), 0},
		{"200 that it has not seen and 1", plainBytes(200), puts(3, 9, 0, 0, "x"), api.ErrFull},
		{"range comes first", gone, puts(0, 9, 2, 1, "x"), api.ErrRange},
		{"take of 200", plainBytes(200), takes(0, 9, 1, 7, 1), 0},
		{"take of 201", plainBytes(201), takes(0, 9, 1, 7, 1), api.ErrFull},
		{"take of 201, range comes first", plainBytes(201), takes(0, 9, 1, 199, 3), api.ErrRange},
		{"take of very many", plainBytes(100000), takes(0, 9, 1, 200, 200), api.ErrFull},
	} {
		if got := May(x.l, x.d); got != x.want {
			t.Errorf("%s: %d, want %d", x.name, got, x.want)
		}
		got, code := Do(x.l, x.d, 5)
		if code != x.want || (code != 0 && got != nil) || (code == 0 && len(got) != len(x.l)+len(x.d.Text)) {
			t.Errorf("Do, %s: %d bytes, %d, want %d", x.name, len(got), code, x.want)
		}
	}
}

func TestDoPut(t *testing.T) {
	for _, x := range []struct {
		name string
		d    api.Deed
		want string
	}{
		{"at the beginning", puts(1, 3, 2, 0, "X"), "Xabcdefghi"},
		{"behind a: ahead of what it does not see", puts(1, 3, 2, 1, "X"), "aXbcdefghi"},
		{"behind d", puts(1, 3, 2, 2, "XY"), "abcdXYefghi"},
		{"behind e, that is gone later", puts(1, 3, 2, 3, "X"), "abcdeXfghi"},
		{"at its end: behind what another has open", puts(1, 3, 2, 4, "X"), "abcdefghiX"},
		{"at its end: ahead of what it has open itself", puts(3, 3, 2, 4, "X"), "abcdefghXi"},
		{"behind what it has open itself", puts(3, 3, 2, 5, "X"), "abcdefghiX"},
		{"another that has seen more", puts(0, 2, 3, 2, "X"), "abXcdefghi"},
		{"it has seen nothing: behind d", puts(1, 3, 0, 1, "X"), "abcdXefghi"},
		{"it has seen nothing and has nothing", puts(2, 2, 0, 0, "X"), "Xabcdefghi"},
	} {
		for _, number := range []int{1, 4, 120, api.Open - 1, api.Open, api.Open + 1, math.MaxInt} {
			got, code := Do(mixed(), x.d, number)
			if code != 0 || letters(got) != x.want {
				t.Errorf("%s, %d: %s %d, want %s", x.name, number, letters(got), code, x.want)
				continue
			}
			at := strings.Index(x.want, x.d.Text)
			if many := len(x.d.Text); !slices.Equal(got[at:at+many], New(x.d, number)) || !slices.Equal(slices.Delete(slices.Clone(got), at, at+many), mixed()) {
				t.Errorf("%s, %d: %v", x.name, number, got)
			}
		}
	}
}

// A word tells a byte each: its letter, its writer, and whether it is open.
func spelled(words string) []api.Char {
	var l []api.Char
	for i, w := range strings.Fields(words) {
		c := api.Char{C: w[0], By: int(w[1] - '0'), No: 1, K: i, In: 1}
		if w[2:] == "o" {
			c.In = api.Open
		}
		l = append(l, c)
	}
	return l
}

func TestDoPutBehindOpen(t *testing.T) {
	for _, x := range []struct {
		name, list string
		by, at     int
		want       string
	}{
		{"one of another", "a0 p3o z0", 1, 1, "apXz"},
		{"two of another", "a0 p3o q3o z0", 1, 1, "apqXz"},
		{"of several others", "a0 p3o q2o r0o z0", 1, 1, "apqrXz"},
		{"at the beginning", "p3o q2o z0", 1, 0, "pqXz"},
		{"up to the end", "a0 p3o q3o", 1, 1, "apqX"},
		{"nothing else", "p3o q2o", 1, 0, "pqX"},
		{"its own stands there", "a0 p1o z0", 1, 1, "aXpz"},
		{"another's, then its own", "a0 p3o q1o r3o z0", 1, 1, "apXqrz"},
		{"its own, then another's", "a0 p1o q3o z0", 1, 1, "aXpqz"},
		{"behind its own, then another's", "a0 p1o q3o z0", 1, 2, "apqXz"},
		{"not one behind the other", "a0 p3o y0 q3o z0", 1, 1, "apXyqz"},
		{"a numbered one stands there", "a0 y0 p3o z0", 1, 1, "aXypz"},
		{"ahead of the place", "a0 p3o y0 z0", 1, 2, "apyXz"},
	} {
		for _, number := range []int{2, api.Open} {
			got, code := Do(spelled(x.list), puts(x.by, 2, 1, x.at, "X"), number)
			if code != 0 || letters(got) != x.want {
				t.Errorf("%s, %d: %s %d, want %s", x.name, number, letters(got), code, x.want)
			}
		}
	}
	// What is open is passed by though its writer took it away, and though the one that puts in did.
	l := spelled("a0 p3o q3o y0")
	l[1].Gone, l[2].Gone = 8, 2
	if got, code := Do(l, puts(1, 2, 1, 1, "X"), 2); code != 0 || letters(got) != "apqXy" {
		t.Errorf("gone: %s %d", letters(got), code)
	}
	// A byte that has a number is not passed by, also where the one that puts in does not see it.
	l = spelled("a0 p3 q3 y0")
	l[1].In, l[2].In = 2, api.Open-1
	if got, code := Do(l, puts(1, 2, 1, 1, "X"), 3); code != 0 || letters(got) != "aXpqy" {
		t.Errorf("not seen: %s %d", letters(got), code)
	}
}

func TestDoTake(t *testing.T) {
	for _, x := range []struct {
		name string
		d    api.Deed
		bit  int
		want string // the letters of those that are taken
	}{
		{"the first", takes(1, 3, 2, 0, 1), 2, "a"},
		{"over what it does not see", takes(1, 3, 2, 0, 3), 2, "ade"},
		{"in the midst", takes(1, 3, 2, 1, 2), 2, "de"},
		{"the last", takes(1, 3, 2, 3, 1), 2, "h"},
		{"all", takes(1, 3, 2, 0, 4), 2, "adeh"},
		{"another sees others", takes(0, 2, 2, 0, 4), 1, "aefh"},
		{"its own, open", takes(3, 3, 2, 3, 2), 8, "hi"},
		{"it has seen more", takes(0, 2, 3, 1, 2), 1, "bf"},
		{"who took away already", takes(2, 2, 2, 1, 2), 4, "bf"},
	} {
		for _, number := range []int{1, 2, 3, 4, 120, api.Open - 1, api.Open, api.Open + 1, math.MaxInt} {
			want := mixed()
			for i := range want {
				c := &want[i]
				if !strings.Contains(x.want, string(rune(c.C))) {
					continue
				}
				c.Gone += x.bit
				if number != api.Open && (c.Out == 0 || c.Out > number) {
					c.Out = number
				}
			}
			if got, code := Do(mixed(), x.d, number); code != 0 || !slices.Equal(got, want) {
				t.Errorf("%s, %d: %v %d, want %v", x.name, number, got, code, want)
			}
		}
	}
}

func TestDoTakeOut(t *testing.T) {
	for _, x := range []struct {
		name              string
		out, gone, number int
		wantOut, wantGone int
	}{
		{"was 0", 0, 0, 7, 7, 2},
		{"was 0, another took it and has no number", 0, 8, 7, 7, 10},
		{"was lower", 6, 1, 7, 6, 3},
		{"was the same", 7, 1, 7, 7, 3},
		{"was higher", 8, 1, 7, 7, 3},
		{"was 0, open", 0, 0, api.Open, 0, 2},
		{"was lower, open", 6, 5, api.Open, 6, 7},
		{"was as high, open", api.Open, 5, api.Open, api.Open, 7},
		{"was higher, open", api.Open + 1, 5, api.Open, api.Open + 1, 7},
		{"was 0, just below Open", 0, 0, api.Open - 1, api.Open - 1, 2},
		{"was 0, just above Open", 0, 0, api.Open + 1, api.Open + 1, 2},
		{"was 0, the first number", 0, 0, 1, 1, 2},
		{"was higher, the first number", 6, 1, 1, 1, 3},
		{"other bits stay", 0, 13 | 1<<40, 7, 7, 15 | 1<<40},
	} {
		l := []api.Char{{C: 'a', In: 1, No: 1, Out: x.out, Gone: x.gone}}
		got, code := Do(l, takes(1, 1, 5, 0, 1), x.number)
		if want := (api.Char{C: 'a', In: 1, No: 1, Out: x.wantOut, Gone: x.wantGone}); code != 0 || len(got) != 1 || got[0] != want {
			t.Errorf("%s: %v %d, want %v", x.name, got, code, want)
		}
	}
}

func TestDoNumber(t *testing.T) {
	for _, number := range []int{math.MinInt, math.MinInt + 1, -api.Open, -2, -1, 0, 1, 2, api.Open, math.MaxInt} {
		want := 0
		if number < 1 {
			want = api.ErrRange
		}
		for _, d := range []api.Deed{puts(1, 3, 2, 1, "x"), takes(1, 3, 2, 1, 1)} {
			if got, code := Do(mixed(), d, number); code != want || (got == nil) != (want != 0) {
				t.Errorf("%d: %v %d, want %d", number, got, code, want)
			}
		}
	}
	// May's code comes first.
	if got, code := Do(plainBytes(200), puts(0, 9, 1, 0, "x"), 0); code != api.ErrFull || got != nil {
		t.Errorf("full, and no number: %v %d", got, code)
	}
}

func TestAll(t *testing.T) {
	for _, x := range []struct {
		name string
		l    []api.Deed
		want []api.Char
		text string
	}{
		{"nil", nil, nil, ""},
		{"empty", []api.Deed{}, nil, ""},
		{"one", []api.Deed{puts(2, 1, 0, 0, "ab")}, []api.Char{{C: 'a', By: 2, No: 1, In: 1}, {C: 'b', By: 2, No: 1, K: 1, In: 1}}, "ab"},
		{"two at the beginning at once", []api.Deed{puts(0, 1, 0, 0, "ab"), puts(1, 1, 0, 0, "c")},
			[]api.Char{{C: 'c', By: 1, No: 1, In: 2}, {C: 'a', No: 1, In: 1}, {C: 'b', No: 1, K: 1, In: 1}}, "cab"},
		{"one takes b, another one bc", []api.Deed{puts(0, 1, 0, 0, "abc"), takes(1, 1, 1, 1, 1), takes(2, 1, 1, 1, 2)},
			[]api.Char{{C: 'a', No: 1, In: 1}, {C: 'b', No: 1, K: 1, In: 1, Out: 2, Gone: 6}, {C: 'c', No: 1, K: 2, In: 1, Out: 3, Gone: 4}}, "a"},
		{"put where another took away", []api.Deed{puts(0, 1, 0, 0, "abc"), takes(1, 1, 1, 0, 3), puts(2, 1, 1, 2, "x"), puts(1, 2, 3, 1, "y")},
			[]api.Char{{C: 'a', No: 1, In: 1, Out: 2, Gone: 2}, {C: 'b', No: 1, K: 1, In: 1, Out: 2, Gone: 2}, {C: 'x', By: 2, No: 1, In: 3}, {C: 'y', By: 1, No: 2, In: 4}, {C: 'c', No: 1, K: 2, In: 1, Out: 2, Gone: 2}}, "xy"},
		{"one behind the other", []api.Deed{puts(0, 1, 0, 0, "a"), puts(0, 2, 0, 1, "b"), takes(0, 3, 0, 0, 1), puts(0, 4, 0, 1, "c")},
			[]api.Char{{C: 'a', No: 1, In: 1, Out: 3, Gone: 1}, {C: 'b', No: 2, In: 2}, {C: 'c', No: 4, In: 4}}, "bc"},
	} {
		got, f := All(x.l)
		if f != (api.Fault{}) || !slices.Equal(got, x.want) || Text(got) != x.text {
			t.Errorf("%s: %v %v %q, want %v", x.name, got, f, Text(got), x.want)
		}
	}
}

func TestAllFault(t *testing.T) {
	full := []api.Deed{}
	for i := range 10 {
		full = append(full, puts(0, i+1, i, 20*i, strings.Repeat("x", 20)))
	}
	if l, f := All(full); len(l) != 200 || f != (api.Fault{}) {
		t.Errorf("just full: %d bytes, %v", len(l), f)
	}
	for _, x := range []struct {
		name string
		l    []api.Deed
		want api.Fault
	}{
		{"the first", []api.Deed{{}, puts(0, 1, 0, 0, "a")}, api.Fault{Code: api.ErrKind, At: 0}},
		{"the last", []api.Deed{puts(0, 1, 0, 0, "a"), takes(0, 2, 0, 0, 2)}, api.Fault{Code: api.ErrRange, At: 1}},
		{"the first of several", []api.Deed{puts(0, 1, 0, 0, "a"), puts(0, 2, 0, 0, "\n"), {}, puts(0, 3, 0, 9, "b")}, api.Fault{Code: api.ErrText, At: 1}},
		{"between", []api.Deed{puts(0, 1, 0, 0, "a"), puts(1, 1, 0, 1, "b"), puts(1, 2, 1, 1, "b")}, api.Fault{Code: api.ErrRange, At: 1}},
		{"taken already", []api.Deed{puts(0, 1, 0, 0, "a"), takes(1, 1, 1, 0, 1), takes(1, 2, 1, 0, 1)}, api.Fault{Code: api.ErrRange, At: 2}},
		{"full", append(slices.Clone(full), puts(1, 1, 0, 0, "x")), api.Fault{Code: api.ErrFull, At: 10}},
		{"very many", slices.Repeat([]api.Deed{puts(0, 1, 0, 0, "x")}, 100000), api.Fault{Code: api.ErrFull, At: 200}},
	} {
		if got, f := All(x.l); f != x.want || got != nil {
			t.Errorf("%s: %v %v, want %v", x.name, got, f, x.want)
		}
	}
}

// The log has no more than MaxLog, but that is not asked here: more deeds have numbers, too.
func TestAllBeyondMaxLog(t *testing.T) {
	l := slices.Repeat([]api.Deed{puts(0, 1, 0, 0, "x")}, 150)
	got, f := All(l)
	if f != (api.Fault{}) || len(got) != 150 || got[0].In != 150 || got[149].In != 1 {
		t.Errorf("%d bytes, %v", len(got), f)
	}
}

func TestText(t *testing.T) {
	for _, x := range []struct {
		name string
		l    []api.Char
		want string
	}{
		{"nil", nil, ""},
		{"empty", []api.Char{}, ""},
		{"mixed", mixed(), "abfh"},
		{"put in by what has none", []api.Char{{C: 'a', In: api.Open}, {C: 'b', In: api.Open, Out: 3, Gone: 1}}, ""},
		{"taken away by what has none", []api.Char{{C: 'a', In: 1, Gone: 15}}, "a"},
		{"taken away by what has one", []api.Char{{C: 'a', In: 1, Out: 2, Gone: 1}, {C: 'b', In: 1, Out: api.MaxLog, Gone: 1}, {C: 'c', In: 1, Out: 5}}, ""},
		{"around Open", []api.Char{{C: 'a', In: api.Open - 1}, {C: 'b', In: api.Open}, {C: 'c', In: api.Open + 1}}, "ac"},
		{"bytes, whatever they are", []api.Char{{C: 0, In: 1}, {C: 255, In: 1}, {C: '\n', In: 1}}, "\x00\xff\n"},
		{"the same byte twice", []api.Char{{C: 'a', In: 1}, {C: 'a', In: 1}}, "aa"},
	} {
		if got := Text(x.l); got != x.want {
			t.Errorf("%s: %q, want %q", x.name, got, x.want)
		}
	}
	if got := Text(plainBytes(100000)); len(got) != 100000 {
		t.Errorf("very many: %d", len(got))
	}
}

// Out alone, not Gone, says whether a deed with a number took a byte away: Open is the number of what has none yet.
func TestTextOut(t *testing.T) {
	for _, x := range []struct {
		name string
		out  int
		want string
	}{
		{"none", 0, "a"},
		{"the first number", 1, ""},
		{"an ordinary number", 2, ""},
		{"the last number of a log", api.MaxLog, ""},
		{"just below Open", api.Open - 1, ""},
		{"Open", api.Open, "a"},
		{"just above Open", api.Open + 1, ""},
	} {
		for gone := range 1 << api.MaxWriters {
			c := api.Char{C: 'a', No: 1, In: 1, Out: x.out, Gone: gone}
			if got := Text([]api.Char{c}); got != x.want {
				t.Errorf("%s, Gone is %d: %q, want %q", x.name, gone, got, x.want)
			}
			around := []api.Char{{C: '(', No: 2, In: 2}, c, {C: ')', No: 2, K: 1, In: 2}}
			if got := Text(around); got != "("+x.want+")" {
				t.Errorf("%s, Gone is %d, between others: %q, want %q", x.name, gone, got, "("+x.want+")")
			}
			c.In = api.Open
			if got := Text([]api.Char{c}); got != "" {
				t.Errorf("%s, Gone is %d, put in by what has no number: %q", x.name, gone, got)
			}
		}
	}
}

// A byte is in the text until what takes it away has a number.
func TestTextWhenTheTakeIsNumbered(t *testing.T) {
	for _, out := range []int{0, api.Open} {
		l := []api.Char{{C: 'a', No: 1, In: 1, Out: out}, {C: 'b', No: 1, K: 1, In: 1}}
		d := takes(1, 1, 1, 0, 1)
		open, code := Do(l, d, api.Open)
		if code != 0 || Text(open) != "ab" {
			t.Errorf("Out was %d, open: %q, code %d", out, Text(open), code)
		}
		numbered, code := Do(l, d, 2)
		if code != 0 || Text(numbered) != "b" {
			t.Errorf("Out was %d, numbered: %q, code %d", out, Text(numbered), code)
		}
	}
}

// roomy is the list with memory behind its length, that must stay as it is.
func roomy[T any](l []T, behind T) (list, whole []T) {
	whole = append(slices.Clone(l), slices.Repeat([]T{behind}, 40)...)
	return whole[:len(l)], whole
}

// What is handed in stays as it was, also behind its length; and an answer can be changed without it.
func TestNothingIsShared(t *testing.T) {
	canary := api.Char{C: '!', By: 9, No: -5, In: 1}
	for _, base := range [][]api.Char{nil, mixed(), plainBytes(180)} {
		for _, d := range []api.Deed{puts(1, 3, 2, 0, "x"), puts(1, 3, 2, 4, "xyz"), takes(1, 3, 2, 0, 4), takes(1, 3, 2, 3, 1), puts(1, 3, 2, 199, "x"), {}} {
			for _, number := range []int{0, 3, api.Open} {
				l, whole := roomy(base, canary)
				was := slices.Clone(whole)
				May(l, d)
				Text(l)
				got, _ := Do(l, d, number)
				again, _ := Do(l, d, number)
				for i := range got {
					got[i] = api.Char{}
				}
				got = append(got, canary)
				clear(got[:cap(got)])
				if !slices.Equal(whole, was) {
					t.Errorf("%+v, %d: what was handed in is changed", d, number)
				}
				if third, _ := Do(l, d, number); !slices.Equal(again, third) {
					t.Errorf("%+v, %d: two answers share memory", d, number)
				}
			}
		}
	}
}

func TestAllSharesNothing(t *testing.T) {
	deeds, whole := roomy([]api.Deed{puts(0, 1, 0, 0, "abc"), takes(1, 1, 1, 1, 1), puts(2, 1, 1, 3, "x")}, puts(3, 1, 0, 0, "!"))
	was := slices.Clone(whole)
	got, _ := All(deeds)
	again, _ := All(deeds)
	clear(got)
	if third, f := All(deeds); f != (api.Fault{}) || !slices.Equal(whole, was) || !slices.Equal(again, third) || len(again) != 4 {
		t.Errorf("%v %v %v", again, third, f)
	}
	one, two := New(deeds[0], 1), New(deeds[0], 1)
	clear(one)
	if Text(two) != "abc" {
		t.Errorf("New shares memory: %v", two)
	}
}

// reckoned is Do told by the chapter's words, in another way.
func reckoned(l []api.Char, d api.Deed, number int) ([]api.Char, int) {
	if code := deed.Check(d); code != 0 {
		return nil, code
	}
	var seen []int
	for i, c := range l {
		if (c.By == d.By || d.Seen >= c.In) && (c.Gone>>d.By)&1 == 0 && (c.Out == 0 || c.Out > d.Seen) {
			seen = append(seen, i)
		}
	}
	switch {
	case len(seen)-d.At-d.Many < 0:
		return nil, api.ErrRange
	case d.Kind == api.DPut && len(l)+len(d.Text) > 200, len(l) > 200:
		return nil, api.ErrFull
	case number <= 0:
		return nil, api.ErrRange
	}
	if d.Kind == api.DTake {
		list := append([]api.Char{}, l...)
		for _, i := range seen[d.At : d.At+d.Many] {
			list[i].Gone = l[i].Gone | []int{1, 2, 4, 8}[d.By]
			if number == api.Open {
				continue
			}
			if list[i].Out = number; l[i].Out != 0 {
				list[i].Out = min(number, l[i].Out)
			}
		}
		return list, 0
	}
	at := 0
	if d.At > 0 {
		at = seen[d.At-1] + 1
	}
	ahead, behind := l[:at], l[at:]
	stop := slices.IndexFunc(behind, func(c api.Char) bool { return c.In != api.Open || c.By == d.By })
	if stop < 0 {
		stop = len(behind)
	}
	list := append([]api.Char{}, ahead...)
	list = append(list, behind[:stop]...)
	for k, b := range []byte(d.Text) {
		list = append(list, api.Char{C: b, By: d.By, No: d.No, K: k, In: number})
	}
	return append(list, behind[stop:]...), 0
}

// wildNumber is mostly small, and sometimes far off.
func wildNumber(r *rand.Rand, small int) int {
	switch r.Intn(40) {
	case 0:
		return far[r.Intn(len(far))]
	case 1:
		return api.Open + r.Intn(3) - 1
	}
	return r.Intn(small)
}

// wildList is one that need never come to be.
func wildList(r *rand.Rand) []api.Char {
	many := r.Intn(12)
	if r.Intn(10) == 0 {
		many = 175 + r.Intn(30)
	}
	l := make([]api.Char, many)
	for i := range l {
		l[i] = api.Char{C: byte(r.Intn(256)), By: wildNumber(r, 4), No: wildNumber(r, 5), K: wildNumber(r, 20), In: wildNumber(r, 6)}
		if r.Intn(3) == 0 {
			l[i].In = api.Open
		}
		if r.Intn(3) == 0 {
			l[i].Out, l[i].Gone = wildNumber(r, 8), wildNumber(r, 16)
		}
	}
	return l
}

func wildDeed(r *rand.Rand, many int) api.Deed {
	d := api.Deed{Kind: 1 + r.Intn(2), By: r.Intn(4), No: 1 + r.Intn(5), Seen: r.Intn(6), At: r.Intn(many/2 + 2)}
	if d.Kind == api.DPut {
		d.Text = "abcdefghijklmnopqrst"[:1+r.Intn(20)]
	} else {
		d.Many = 1 + r.Intn(many/2+1)
	}
	if r.Intn(10) == 0 {
		for _, p := range []*int{&d.Kind, &d.By, &d.No, &d.Seen, &d.At, &d.Many} {
			if r.Intn(4) == 0 {
				*p = wildNumber(r, 7)
			}
		}
	}
	return d
}

// Whatever comes, Do ends, answers what the chapter says, and leaves what was handed in.
func TestDoWild(t *testing.T) {
	r := rand.New(rand.NewSource(3))
	met := map[int]int{}
	for range 200000 {
		l := wildList(r)
		d, number := wildDeed(r, len(l)), wildNumber(r, 9)
		if r.Intn(4) == 0 {
			number = api.Open
		}
		was := slices.Clone(l)
		got, code := Do(l, d, number)
		want, wantCode := reckoned(was, d, number)
		if code != wantCode || !slices.Equal(got, want) || !slices.Equal(l, was) {
			t.Fatalf("%v, %+v, %d: %v %d, want %v %d", was, d, number, got, code, want, wantCode)
		}
		if _, wantMay := reckoned(was, d, 1); May(l, d) != wantMay {
			t.Fatalf("May of %v, %+v: %d, want %d", was, d, May(l, d), wantMay)
		}
		met[code]++
	}
	for _, code := range []int{0, api.ErrRange, api.ErrKind, api.ErrForm, api.ErrText, api.ErrFull} {
		if met[code] == 0 {
			t.Errorf("no deed met code %d", code)
		}
	}
}

// All is Do one behind the other, and its lists are such as there may be.
func TestAllWild(t *testing.T) {
	r := rand.New(rand.NewSource(4))
	for range 2000 {
		var deeds []api.Deed
		var want []api.Char
		var nos [4]int
		var fault api.Fault
		for range r.Intn(60) {
			d := wildDeed(r, 8)
			if chars.Writer(d.By) {
				d.No = nos[d.By] + 1
			}
			d.Seen = r.Intn(len(deeds) + 1)
			next, code := reckoned(want, d, len(deeds)+1)
			if code != 0 && r.Intn(20) > 0 {
				continue // mostly left out, so that few lists end early
			}
			deeds = append(deeds, d)
			if code != 0 {
				fault, want = api.Fault{Code: code, At: len(deeds) - 1}, nil
				deeds = append(deeds, wildDeed(r, 8))
				break
			}
			nos[d.By]++
			want = next
		}
		got, f := All(deeds)
		if f != fault || !slices.Equal(got, want) {
			t.Fatalf("%+v: %v %v, want %v %v", deeds, got, f, want, fault)
		}
		if code := chars.Check(got, len(deeds)); code != 0 {
			t.Fatalf("%+v: a list of code %d", deeds, code)
		}
		if all := string(chars.View(got, len(deeds), -1)); Text(got) != all {
			t.Fatalf("%+v: %q, but who has seen all sees %q", deeds, Text(got), all)
		}
	}
}
