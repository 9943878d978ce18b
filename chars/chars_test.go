package chars

import (
	"math"
	"slices"
	"testing"

	"quillwork/api"
)

// edges: numbers at which an answer may turn, and those far beyond.
var edges = []int{math.MinInt, math.MinInt + 1, -65, -64, -1, 0, 1, 2, 3, 4, 5, 15, 16, 19, 20, 62, 63, 64, 65, api.MaxLog, api.Open - 1, api.Open, api.Open + 1, math.MaxInt - 1, math.MaxInt}

// sample: one byte of each fate.
func sample() []api.Char {
	return []api.Char{
		{C: 'a', By: 0, No: 1, K: 0, In: 1},
		{C: 'b', By: 1, No: 1, K: 0, In: api.Open},
		{C: 'c', By: 2, No: 1, K: 0, In: 2, Out: 3, Gone: 1},
		{C: 'd', By: 2, No: 2, K: 0, In: 4, Gone: 8},
		{C: 'e', By: 2, No: 2, K: 1, In: 4},
	}
}

func TestWriter(t *testing.T) {
	for _, w := range edges {
		if got, want := Writer(w), w == 0 || w == 1 || w == 2 || w == 3; got != want {
			t.Errorf("Writer(%d): %v", w, got)
		}
	}
}

func TestIn(t *testing.T) {
	for _, x := range []struct {
		name     string
		c        api.Char
		seen, by int
		want     bool
	}{
		{"below seen", api.Char{By: 0, In: 2}, 3, 1, true},
		{"at seen", api.Char{By: 0, In: 3}, 3, 1, true},
		{"above seen", api.Char{By: 0, In: 4}, 3, 1, false},
		{"above seen, its own", api.Char{By: 1, In: 4}, 3, 1, true},
		{"open, another's", api.Char{By: 0, In: api.Open}, api.MaxLog, 1, false},
		{"open, its own", api.Char{By: 1, In: api.Open}, 0, 1, true},
		{"open, seen as far as that", api.Char{By: 0, In: api.Open}, api.Open, 1, true},
		{"no writer asks, at seen", api.Char{By: 0, In: 3}, 3, -1, true},
		{"no writer asks, above seen", api.Char{By: 0, In: 4}, 3, 4, false},
		{"no writer asks, of what has its number", api.Char{By: -1, In: 4}, 3, -1, true},
		{"seen below 0", api.Char{By: 0, In: 0}, -1, 1, false},
		{"gone, but put in", api.Char{By: 0, In: 1, Out: 2, Gone: 15}, 3, 1, true},
	} {
		if got := In(x.c, x.seen, x.by); got != x.want {
			t.Errorf("%s: %v", x.name, got)
		}
	}
}

func TestOut(t *testing.T) {
	for _, x := range []struct {
		name     string
		c        api.Char
		seen, by int
		want     bool
	}{
		{"0 is none", api.Char{In: 1}, 9, 0, false},
		{"below seen", api.Char{In: 1, Out: 2, Gone: 1}, 3, 1, true},
		{"at seen", api.Char{In: 1, Out: 3, Gone: 1}, 3, 1, true},
		{"above seen", api.Char{In: 1, Out: 4, Gone: 1}, 3, 1, false},
		{"above seen, by itself", api.Char{In: 1, Out: 4, Gone: 2}, 3, 1, true},
		{"no number yet, by itself", api.Char{In: 1, Gone: 8}, 0, 3, true},
		{"no number yet, by another", api.Char{In: 1, Gone: 7}, 9, 3, false},
		{"it put it in, another took it", api.Char{By: 3, In: 1, Out: 4, Gone: 1}, 3, 3, false},
		{"no writer has a bit: -1", api.Char{In: 1, Gone: -1}, 9, -1, false},
		{"no writer has a bit: 4", api.Char{In: 1, Gone: -1}, 9, 4, false},
		{"no writer has a bit: 63", api.Char{In: 1, Gone: -1}, 9, 63, false},
		{"no writer, at seen", api.Char{In: 1, Out: 3, Gone: 1}, 3, -1, true},
		{"Out below 0", api.Char{In: 1, Out: -1}, 0, 0, true},
	} {
		if got := Out(x.c, x.seen, x.by); got != x.want {
			t.Errorf("%s: %v", x.name, got)
		}
	}
}

func TestEachWriterHasABitOfItsOwn(t *testing.T) {
	for gone := range 1 << api.MaxWriters {
		for by, bit := range []int{1, 2, 4, 8} {
			c := api.Char{In: 1, Gone: gone}
			if got, want := Out(c, 9, by), gone/bit%2 == 1; got != want {
				t.Errorf("Out, Gone %d, by %d: %v", gone, by, got)
			}
		}
	}
}

func TestSees(t *testing.T) {
	for _, x := range []struct {
		name     string
		c        api.Char
		seen, by int
		want     bool
	}{
		{"put in", api.Char{In: 1}, 1, 1, true},
		{"not yet", api.Char{In: 2}, 1, 1, false},
		{"its own, open", api.Char{By: 1, In: api.Open}, 0, 1, true},
		{"its own, open, and away", api.Char{By: 1, In: api.Open, Gone: 2}, 0, 1, false},
		{"put in, away later", api.Char{In: 1, Out: 3, Gone: 1}, 2, 1, true},
		{"put in, and away", api.Char{In: 1, Out: 3, Gone: 1}, 3, 1, false},
		{"away, but never put in", api.Char{In: 5, Out: 3, Gone: 1}, 4, 1, false},
	} {
		if got := Sees(x.c, x.seen, x.by); got != x.want {
			t.Errorf("%s: %v", x.name, got)
		}
	}
}

func TestView(t *testing.T) {
	for _, x := range []struct {
		seen, by int
		want     string
	}{
		{-1, 3, ""}, {0, 3, ""}, {1, 3, "a"}, {2, 3, "ac"}, {3, 3, "a"}, {4, 3, "ae"},
		{0, 0, "a"}, {2, 0, "a"}, {4, 0, "ade"},
		{0, 1, "b"}, {2, 1, "abc"}, {4, 1, "abde"},
		{0, 2, "cde"}, {3, 2, "ade"},
		{4, -1, "ade"}, {4, 4, "ade"}, {api.Open, -1, "abde"},
	} {
		l := sample()
		if got := string(View(l, x.seen, x.by)); got != x.want {
			t.Errorf("View, seen %d, by %d: %q, want %q", x.seen, x.by, got, x.want)
		}
		if got := Count(l, x.seen, x.by); got != len(x.want) {
			t.Errorf("Count, seen %d, by %d: %d, want %d", x.seen, x.by, got, len(x.want))
		}
	}
}

func TestViewTellsAnyByte(t *testing.T) {
	var l []api.Char
	for b := range 256 {
		l = append(l, api.Char{C: byte(b), In: 1})
	}
	got := View(l, 1, 0)
	if len(got) != 256 || Count(l, 1, 0) != 256 {
		t.Fatalf("%d bytes, Count %d", len(got), Count(l, 1, 0))
	}
	for b, x := range got {
		if int(x) != b {
			t.Errorf("byte %d: %d", b, x)
		}
	}
}

func TestBehind(t *testing.T) {
	for _, x := range []struct {
		seen, by, n, want int
	}{
		{2, 1, 0, 0}, {2, 1, 1, 1}, {2, 1, 2, 2}, {2, 1, 3, 3}, {2, 1, 4, -1},
		{2, 3, 1, 1}, {2, 3, 2, 3}, {2, 3, 3, -1},
		{4, 3, 2, 5}, {4, 3, 3, -1},
		{0, 2, 0, 0}, {0, 2, 1, 3}, {0, 2, 3, 5},
		{0, 3, 0, 0}, {0, 3, 1, -1},
		{2, 1, -1, -1}, {2, 1, math.MinInt, -1}, {2, 1, math.MaxInt, -1},
		{4, -1, 3, 5}, {4, -1, 0, 0},
	} {
		if got := Behind(sample(), x.seen, x.by, x.n); got != x.want {
			t.Errorf("Behind, seen %d, by %d, n %d: %d, want %d", x.seen, x.by, x.n, got, x.want)
		}
	}
}

// TestBehindCutsTheView: whatever the list, as many are seen ahead of the place as were asked for, and the last byte ahead is one of them.
func TestBehindCutsTheView(t *testing.T) {
	l := sample()
	for _, seen := range edges {
		for by := -1; by <= api.MaxWriters; by++ {
			many := Count(l, seen, by)
			for n := 1; n <= many; n++ {
				place := Behind(l, seen, by, n)
				if place < 1 || place > len(l) || Count(l[:place], seen, by) != n || !Sees(l[place-1], seen, by) {
					t.Errorf("seen %d, by %d, n %d: %d", seen, by, n, place)
				}
			}
			if got := Behind(l, seen, by, many+1); got != -1 {
				t.Errorf("seen %d, by %d, one too many: %d", seen, by, got)
			}
		}
	}
}

func TestNoBytes(t *testing.T) {
	for _, l := range [][]api.Char{nil, {}} {
		if len(View(l, 9, 0)) != 0 || Count(l, 9, 0) != 0 {
			t.Error("something is seen")
		}
		if Behind(l, 9, 0, 0) != 0 || Behind(l, 9, 0, 1) != -1 || Behind(l, 9, 0, -1) != -1 {
			t.Error("Behind")
		}
		if Find(l, api.Char{}) != -1 {
			t.Error("Find")
		}
		if Check(l, 0) != 0 || Check(l, -1) != 0 {
			t.Error("Check")
		}
	}
}

func TestSame(t *testing.T) {
	a := api.Char{C: 'a', By: 1, No: 2, K: 3, In: 4, Out: 5, Gone: 6}
	for _, x := range []struct {
		name string
		b    api.Char
		want bool
	}{
		{"all", a, true},
		{"all else differs", api.Char{C: 'b', By: 1, No: 2, K: 3}, true},
		{"By", api.Char{C: 'a', By: 0, No: 2, K: 3, In: 4, Out: 5, Gone: 6}, false},
		{"No", api.Char{C: 'a', By: 1, No: 0, K: 3, In: 4, Out: 5, Gone: 6}, false},
		{"K", api.Char{C: 'a', By: 1, No: 2, K: 0, In: 4, Out: 5, Gone: 6}, false},
	} {
		if Same(a, x.b) != x.want || Same(x.b, a) != x.want {
			t.Errorf("%s: not %v", x.name, x.want)
		}
	}
}

func TestFind(t *testing.T) {
	l := sample()
	for i, c := range l {
		if got := Find(l, api.Char{By: c.By, No: c.No, K: c.K, C: '?', In: 99}); got != i {
			t.Errorf("Find of place %d: %d", i, got)
		}
	}
	for _, c := range []api.Char{{By: 3, No: 1}, {By: 0, No: 2}, {By: 0, No: 1, K: 1}, {By: -1, No: -1, K: -1}} {
		if got := Find(l, c); got != -1 {
			t.Errorf("Find of %v: %d", c, got)
		}
	}
	if got := Find(append(l, l...), l[2]); got != 2 {
		t.Errorf("the first of two: %d", got)
	}
}

func TestCheckOfOne(t *testing.T) {
	for _, x := range []struct {
		name string
		c    api.Char
		log  int
		want int
	}{
		{"lowest", api.Char{By: 0, No: 1, K: 0, In: 1}, 1, 0},
		{"highest", api.Char{By: 3, No: math.MaxInt, K: 19, In: 8, Out: 9, Gone: 15}, 9, 0},
		{"any C", api.Char{C: 200, No: 1, In: 1}, 1, 0},
		{"open, in an empty log", api.Char{No: 1, In: api.Open}, 0, 0},
		{"open, taken away", api.Char{No: 1, In: api.Open, Gone: 1}, 0, 0},
		{"taken away without a number yet", api.Char{No: 1, In: 1, Gone: 5}, 1, 0},
		{"By is -1", api.Char{By: -1, No: 1, In: 1}, 9, api.ErrRange},
		{"By is 4", api.Char{By: 4, No: 1, In: 1}, 9, api.ErrRange},
		{"No is 0", api.Char{No: 0, In: 1}, 9, api.ErrRange},
		{"No is below 0", api.Char{No: -1, In: 1}, 9, api.ErrRange},
		{"K is -1", api.Char{No: 1, K: -1, In: 1}, 9, api.ErrRange},
		{"K is 20", api.Char{No: 1, K: 20, In: 1}, 9, api.ErrRange},
		{"Gone is -1", api.Char{No: 1, In: 1, Gone: -1}, 9, api.ErrRange},
		{"Gone is 16", api.Char{No: 1, In: 1, Gone: 16}, 9, api.ErrRange},
		{"In is 0", api.Char{No: 1, In: 0}, 9, api.ErrRange},
		{"In is below 0", api.Char{No: 1, In: -1}, 9, api.ErrRange},
		{"In is above log", api.Char{No: 1, In: 10}, 9, api.ErrRange},
		{"In is below Open", api.Char{No: 1, In: api.Open - 1}, 9, api.ErrRange},
		{"In is above Open", api.Char{No: 1, In: api.Open + 1}, 9, api.ErrRange},
		{"Out is -1", api.Char{No: 1, In: 1, Out: -1, Gone: 1}, 9, api.ErrRange},
		{"Out is above log", api.Char{No: 1, In: 1, Out: 10, Gone: 1}, 9, api.ErrRange},
		{"Out is Open", api.Char{No: 1, In: 1, Out: api.Open, Gone: 1}, 9, api.ErrRange},
		{"log is 0", api.Char{No: 1, In: 1}, 0, api.ErrRange},
		{"log is below 0", api.Char{No: 1, In: api.Open}, -1, api.ErrRange},
		{"Out is In", api.Char{No: 1, In: 3, Out: 3, Gone: 1}, 9, api.ErrForm},
		{"Out is below In", api.Char{No: 1, In: 3, Out: 2, Gone: 1}, 9, api.ErrForm},
		{"Out, but In is Open", api.Char{No: 1, In: api.Open, Out: 9, Gone: 1}, 9, api.ErrForm},
		{"Out, but nobody took it", api.Char{No: 1, In: 3, Out: 4}, 9, api.ErrForm},
		{"range ahead of form: By", api.Char{By: 4, No: 1, In: 3, Out: 3}, 9, api.ErrRange},
		{"range ahead of form: In", api.Char{No: 1, In: 12, Out: 3}, 9, api.ErrRange},
	} {
		if got := Check([]api.Char{x.c}, x.log); got != x.want {
			t.Errorf("%s: %d, want %d", x.name, got, x.want)
		}
	}
}

func TestCheckOfSeveral(t *testing.T) {
	good := api.Char{No: 1, In: 1}
	other := api.Char{No: 2, In: 1}
	again := api.Char{C: 'x', No: 1, In: 2, Out: 3, Gone: 1}
	wild := api.Char{By: 4, No: 3, In: 1}
	bent := api.Char{No: 4, In: 3, Out: 3, Gone: 1}
	for _, x := range []struct {
		name string
		l    []api.Char
		want int
	}{
		{"fine", []api.Char{good, other}, 0},
		{"again", []api.Char{good, again}, api.ErrThere},
		{"again, further behind", []api.Char{good, other, again}, api.ErrThere},
		{"again, ahead of one out of range", []api.Char{good, again, wild}, api.ErrThere},
		{"out of range, ahead of one again", []api.Char{good, wild, again}, api.ErrRange},
		{"out of form, ahead of one out of range", []api.Char{good, bent, wild}, api.ErrForm},
		{"again, out of form by itself", []api.Char{good, {No: 1, In: 3, Out: 3, Gone: 1}}, api.ErrForm},
		{"again, out of range by itself", []api.Char{good, {No: 1, In: 10}}, api.ErrRange},
		{"the last alone is bad", []api.Char{good, other, bent}, api.ErrForm},
	} {
		if got := Check(x.l, 9); got != x.want {
			t.Errorf("%s: %d, want %d", x.name, got, x.want)
		}
	}
}

func TestCheckOfMany(t *testing.T) {
	var l []api.Char
	for i := range api.MaxChars {
		l = append(l, api.Char{No: 1 + i/api.MaxPut, K: i % api.MaxPut, In: 1})
	}
	if got := Check(l, 1); got != 0 {
		t.Errorf("as many as there may be: %d", got)
	}
	if got := Check(append(slices.Clone(l), api.Char{No: 100, In: 1}), 1); got != api.ErrMany {
		t.Errorf("one more: %d", got)
	}
	if got := Check(make([]api.Char, api.MaxChars+1), 1); got != api.ErrMany {
		t.Errorf("one more, and all out of range: %d", got)
	}
	l[api.MaxChars-1] = l[0]
	if got := Check(l, 1); got != api.ErrThere {
		t.Errorf("the last is the first again: %d", got)
	}
}

// TestWildInputs: no call panics, and what a list answers is what its bytes answer one by one.
func TestWildInputs(t *testing.T) {
	var l []api.Char
	for i, n := range edges {
		m := edges[len(edges)-1-i]
		l = append(l, api.Char{C: byte(i), By: n, No: m, K: n, In: m, Out: n, Gone: m}, api.Char{C: byte(i), By: m, No: n, K: m, In: n, Gone: n})
	}
	for _, seen := range edges {
		for _, by := range edges {
			var want []byte
			for _, c := range l {
				if Sees(c, seen, by) {
					want = append(want, c.C)
				}
				if Sees(c, seen, by) != (In(c, seen, by) && !Out(c, seen, by)) {
					t.Fatalf("Sees of %v, seen %d, by %d", c, seen, by)
				}
			}
			if got := View(l, seen, by); !slices.Equal(got, want) || Count(l, seen, by) != len(want) {
				t.Errorf("seen %d, by %d: %v, want %v", seen, by, got, want)
			}
			for _, n := range edges {
				if got := Behind(l, seen, by, n); (got == -1) != (n < 0 || n > len(want)) {
					t.Errorf("Behind, seen %d, by %d, n %d: %d", seen, by, n, got)
				}
			}
		}
		for _, c := range l {
			if got := Check([]api.Char{c}, seen); got != 0 && got != api.ErrRange && got != api.ErrForm {
				t.Errorf("Check of %v, log %d: %d", c, seen, got)
			}
			if Find(l, c) < 0 {
				t.Errorf("Find of %v: nowhere", c)
			}
		}
	}
}

// TestNothingIsChanged: the list that is handed in stays as it is, and what lies behind its length is neither read nor written.
func TestNothingIsChanged(t *testing.T) {
	whole := append(sample(), api.Char{C: 'z', By: 0, No: 9, In: 1}, api.Char{C: 'y', By: 0, No: 10, In: 1})
	kept := slices.Clone(whole)
	l := whole[:5]
	if got := string(View(l, 4, 0)); got != "ade" {
		t.Errorf("View: %q", got)
	}
	if Count(l, 4, 0) != 3 || Behind(l, 4, 0, 4) != -1 || Find(l, whole[5]) != -1 || Check(l, 4) != 0 {
		t.Error("what lies behind the length was read")
	}
	if !slices.Equal(whole, kept) {
		t.Error("the list was changed")
	}
}

// TestViewIsNew: neither another answer nor the list hangs on an answer, nor an answer on the list.
func TestViewIsNew(t *testing.T) {
	l := sample()
	first, second := View(l, 4, 0), View(l, 4, 0)
	for i := range first[:cap(first)] {
		first[:cap(first)][i] = '!'
	}
	if string(second) != "ade" || string(View(l, 4, 0)) != "ade" {
		t.Error("two answers share memory")
	}
	l[0].C = '?'
	if string(second) != "ade" {
		t.Error("the answer hangs on the list")
	}
	if string(View(l, 4, 0)) != "?de" {
		t.Error("an earlier list was kept")
	}
}
