package desks

import (
	"fmt"
	"math/rand"
	"slices"
	"strings"
	"testing"

	"quillwork/api"
	"quillwork/chars"
	"quillwork/fold"
	"quillwork/log"
	"quillwork/writer"
)

// office is what the chapter says of steps, done with a log and writers of its own.
type office struct {
	*log.Log
	at map[int]*writer.Writer
}

func newOffice() *office {
	return &office{log.New(), map[int]*writer.Writer{}}
}

func (o *office) do(s api.Step) int {
	at, there := o.at[s.W]
	switch {
	case s.Kind < 1 || s.Kind > 7:
		return api.ErrKind
	case s.Kind == api.SJoin:
		next, code := o.Join(s.W)
		if code == 0 {
			o.at[s.W] = writer.New(s.W, next, o.Len(), o.Chars())
		}
		return code
	case !there:
		return api.ErrNone
	}
	code, goes := o.step(s, at)
	if goes {
		o.Leave(s.W)
		delete(o.at, s.W)
	}
	return code
}

// step is what one that is there does: a code, and whether it goes.
func (o *office) step(s api.Step, at *writer.Writer) (int, bool) {
	switch s.Kind {
	case api.SPut:
		_, code := at.Put(s.At, s.Text)
		return code, false
	case api.STake:
		_, code := at.Take(s.At, s.Many)
		return code, false
	case api.SSend:
		d, ok := at.Send()
		if !ok {
			return api.ErrNone, false
		}
		_, code := o.Take(d)
		return code, code != 0
	case api.SHear:
		d, ok := o.Deed(at.Seen() + 1)
		if !ok {
			return api.ErrNone, false
		}
		if code := at.Hear(d); code != 0 {
			return code, true
		}
		return o.Says(s.W, at.Least()), false
	case api.SClear:
		least := o.Least()
		for _, d := range deedsOf(o)[at.Seen():] {
			least = min(least, d.Seen)
		}
		at.Clear(least)
		return 0, false
	}
	return 0, true
}

// settle goes by what there is to send and to hear, not by codes.
func (o *office) settle() {
	for w := range api.MaxWriters {
		for range o.unsent(w) {
			o.do(send(w))
		}
	}
	for w := range api.MaxWriters {
		for o.at[w] != nil && o.at[w].Seen() < o.Len() {
			o.do(hear(w))
		}
	}
}

// unsent is how many of the deeds that it has open the log has not.
func (o *office) unsent(w int) int {
	many := 0
	if o.at[w] != nil {
		for _, d := range o.at[w].Open() {
			if !slices.Contains(deedsOf(o), d) {
				many++
			}
		}
	}
	return many
}

// sameLog: do both tell the same?
func sameLog(a, b teller) bool {
	same := a.Len() == b.Len() && a.Least() == b.Least() && a.Text() == b.Text() && slices.Equal(a.Chars(), b.Chars())
	for w := -1; w <= api.MaxWriters; w++ {
		same = same && a.Here(w) == b.Here(w)
	}
	for n := -1; n <= b.Len()+1; n++ {
		x, xok := a.Deed(n)
		y, yok := b.Deed(n)
		same = same && x == y && xok == yok
	}
	return same
}

// sameWriter: do both tell the same, or is there neither?
func sameWriter(a, b *writer.Writer) bool {
	if a == nil || b == nil {
		return a == b
	}
	return a.Seen() == b.Seen() && a.Least() == b.Least() && a.Text() == b.Text() && slices.Equal(a.Open(), b.Open()) && slices.Equal(a.Chars(), b.Chars()) && slices.Equal(a.Known(), b.Known())
}

// holds holds desks against the office.
func (o *office) holds(t *testing.T, d *Desks, what any) {
	t.Helper()
	if !sameLog(d, o) {
		t.Fatalf("%+v: the log: %s\nwant: %+v %d %q", what, toldOfLog(d), deedsOf(o), o.Least(), o.Text())
	}
	for w := -1; w <= api.MaxWriters; w++ {
		if !sameWriter(d.Writer(w), o.at[w]) {
			t.Fatalf("%+v: %d: %s\nwant: %s", what, w, toldOfWriter(d.Writer(w)), toldOfWriter(o.at[w]))
		}
	}
}

// onTop holds that each sees the log as it has seen it, and its own deeds on top, whatever it has forgotten. (Of what has room.)
func onTop(t *testing.T, d *Desks, what any) {
	t.Helper()
	for w := range api.MaxWriters {
		at := d.Writer(w)
		if at == nil {
			continue
		}
		list, f := fold.All(deedsOf(d)[:at.Seen()])
		code := f.Code
		for _, x := range at.Open() {
			if code == 0 {
				list, code = fold.Do(list, x, api.Open)
			}
		}
		if code == api.ErrFull {
			continue
		}
		if want := string(chars.View(list, at.Seen(), w)); code != 0 || at.Text() != want {
			t.Fatalf("%+v: %d sees %q, want %q (%d)", what, w, at.Text(), want, code)
		}
	}
}

// manner of a script: how often what is done, of a hundred; how long texts are; and how often a step is wild, of a thousand.
type manner struct {
	join, put, take, send, hear, clear int // and else leave
	most, wild                         int
}

var (
	calm  = manner{join: 8, put: 25, take: 14, send: 20, hear: 26, clear: 6, most: 3, wild: 0}
	plain = manner{join: 8, put: 20, take: 14, send: 22, hear: 26, clear: 8, most: 3, wild: 30}
	brisk = manner{join: 10, put: 22, take: 16, send: 30, hear: 20, clear: 2, most: 1, wild: 10}
	heavy = manner{join: 10, put: 38, take: 8, send: 16, hear: 20, clear: 7, most: 20, wild: 10}
	slow  = manner{join: 6, put: 26, take: 20, send: 22, hear: 14, clear: 11, most: 2, wild: 0}
)

const alphabet = "abcdefghijklmnopqrstuvwxyz ~ABCDEFGHIJKLMNOPQRSTUVWXYZ"

// step is one of that manner by whoever it is, mostly one that can be done.
func (m manner) step(r *rand.Rand, o *office) api.Step {
	w := r.Intn(api.MaxWriters)
	there := 0
	if at := o.at[w]; at != nil {
		there = len(at.Text())
	}
	s := api.Step{W: w}
	switch n := r.Intn(100); {
	case n < m.join:
		s = join(w)
	case n < m.join+m.put:
		from := r.Intn(len(alphabet) - m.most)
		s = put(w, r.Intn(there+1), alphabet[from:from+1+r.Intn(m.most)])
	case n < m.join+m.put+m.take:
		at := r.Intn(max(1, there))
		s = take(w, at, 1+r.Intn(max(1, min(4, there-at))))
	case n < m.join+m.put+m.take+m.send:
		s = send(w)
	case n < m.join+m.put+m.take+m.send+m.hear:
		s = hear(w)
	case n < m.join+m.put+m.take+m.send+m.hear+m.clear:
		s = forget(w)
	case r.Intn(3) == 0:
		s = leave(w)
	default:
		s = hear(w)
	}
	if r.Intn(1000) < m.wild {
		return wilder(r, s)
	}
	return s
}

// wilder is the step with one thing in it that may be wrong.
func wilder(r *rand.Rand, s api.Step) api.Step {
	switch n := far[r.Intn(len(far))]; r.Intn(6) {
	case 0:
		s.Kind = noKinds[r.Intn(len(noKinds))]
	case 1:
		s.W = noWriters[r.Intn(len(noWriters))]
	case 2:
		s.Kind, s.At = api.SPut, n
	case 3:
		s.Kind, s.Many = api.STake, n
	case 4:
		s.Kind, s.At = api.STake, n
	default:
		s.Kind, s.Text = api.SPut, []string{"", "\n", "a\x7f", strings.Repeat("a", 21)}[r.Intn(4)]
	}
	return s
}

// script lets desks and the office do the same steps, and holds them against each other behind each. Now and then all settle.
func script(t *testing.T, r *rand.Rand, m manner, steps int, met map[string]int) *Desks {
	t.Helper()
	d, o := New(), newOffice()
	for n := range steps {
		s := m.step(r, o)
		there := o.at[s.W] != nil
		code, want := d.Do(s), o.do(s)
		if code != want {
			t.Fatalf("step %d, %+v: %d, want %d", n, s, code, want)
		}
		o.holds(t, d, s)
		onTop(t, d, s)
		met[fmt.Sprint(max(0, min(s.Kind, 8)), " ", code)]++
		if code != 0 && there && o.at[s.W] == nil {
			met[fmt.Sprint(s.Kind, " goes")]++
		}
		if r.Intn(70) == 0 {
			settleBoth(t, d, o, met)
		}
	}
	settleBoth(t, d, o, met)
	return d
}

// settleBoth settles desks and the office, and holds what must be so then.
func settleBoth(t *testing.T, d *Desks, o *office, met map[string]int) {
	t.Helper()
	was := len(o.at)
	d.Settle()
	o.settle()
	o.holds(t, d, "settle")
	onTop(t, d, "settle")
	settled(t, d)
	if len(o.at) < was {
		met["settle goes"]++
	}
	met[fmt.Sprint("settle ", was)]++
}

// Whoever does what in whatever order: each step has the code, and behind it the log and each writer are, as the chapter says.
func TestScripts(t *testing.T) {
	r := rand.New(rand.NewSource(71))
	met := map[string]int{}
	longest, widest := 0, 0
	for round := range 60 {
		m := []manner{calm, plain, brisk, heavy, slow}[round%5]
		steps := 250
		if round%5 == 2 {
			steps = 600
		}
		d := script(t, r, m, steps, met)
		longest, widest = max(longest, d.Len()), max(widest, len(d.Chars()))
	}
	if longest != api.MaxLog || widest < api.MaxChars-2 {
		t.Errorf("the longest log had %d deeds, the widest one %d bytes", longest, widest)
	}
	for kind, codes := range map[int][]int{
		0:          {api.ErrKind}, // and all that are below
		8:          {api.ErrKind}, // and all that are above
		api.SJoin:  {0, api.ErrRange, api.ErrThere},
		api.SPut:   {0, api.ErrNone, api.ErrRange, api.ErrText, api.ErrFull},
		api.STake:  {0, api.ErrNone, api.ErrRange},
		api.SSend:  {0, api.ErrNone, api.ErrFull},
		api.SHear:  {0, api.ErrNone, api.ErrFull},
		api.SClear: {0, api.ErrNone},
		api.SLeave: {0, api.ErrNone},
	} {
		for _, code := range codes {
			if met[fmt.Sprint(kind, " ", code)] == 0 {
				t.Errorf("no step of kind %d met code %d: %v", kind, code, met)
			}
		}
	}
	for _, what := range []string{"4 goes", "5 goes", "settle goes", "settle 1", "settle 2", "settle 3", "settle 4"} {
		if met[what] == 0 {
			t.Errorf("%s was not met: %v", what, met)
		}
	}
}

// roomy is the steps of a script in which nothing gets full: of all that is put in no list has more than MaxChars, and no log more than MaxLog.
func roomy(r *rand.Rand, m manner, steps int) []api.Step {
	o := newOffice()
	var list []api.Step
	bytes, deeds := 0, 0
	for range steps {
		s := m.step(r, o)
		if s.Kind == api.SPut || s.Kind == api.STake {
			bytes, deeds = bytes+len(s.Text), deeds+1
		}
		if bytes > api.MaxChars || deeds > api.MaxLog {
			break
		}
		o.do(s)
		list = append(list, s)
	}
	return list
}

// texts is what the log says and what each that is there sees.
func texts(d *Desks) [1 + api.MaxWriters]string {
	list := [1 + api.MaxWriters]string{d.Text()}
	for w := range api.MaxWriters {
		if at := d.Writer(w); at != nil {
			list[1+w] = "sees " + at.Text()
		}
	}
	return list
}

// Nobody sees a difference when what is gone is forgotten.
func TestWithoutClear(t *testing.T) {
	r := rand.New(rand.NewSource(72))
	less := 0
	for round := range 80 {
		m := []manner{calm, plain, slow, slow}[round%4]
		with, without := New(), New()
		for _, s := range roomy(r, m, 400) {
			code := with.Do(s)
			if s.Kind == api.SClear {
				if texts(with) != texts(without) {
					t.Fatalf("%+v changed %q, was %q", s, texts(with), texts(without))
				}
				continue
			}
			if want := without.Do(s); code != want || texts(with) != texts(without) {
				t.Fatalf("%+v: %d %q, and without clearing %d %q", s, code, texts(with), want, texts(without))
			}
			if !sameLog(with, without) {
				t.Fatalf("%+v: %s\nand without clearing: %s", s, toldOfLog(with), toldOfLog(without))
			}
			for w := range api.MaxWriters {
				if at := with.Writer(w); at != nil {
					less += len(without.Writer(w).Chars()) - len(at.Chars())
				}
			}
		}
		settle(t, with)
		settle(t, without)
		if texts(with) != texts(without) {
			t.Fatalf("settled: %q, and without clearing %q", texts(with), texts(without))
		}
	}
	if less == 0 {
		t.Error("nothing was ever forgotten")
	}
}

// One that comes late sees the log's text; what it puts in, and takes away, there all the others see at that place, even if they have not heard all yet.
func TestLate(t *testing.T) {
	r := rand.New(rand.NewSource(73))
	for range 120 {
		d := New()
		for _, s := range roomy(r, calm, 60+r.Intn(60)) {
			d.Do(s)
		}
		late := r.Intn(api.MaxWriters)
		d.Do(leave(late))
		for w := range api.MaxWriters {
			for d.Do(send(w)) == 0 {
			}
		}
		does(t, d, join(late))
		text := d.Text()
		if at := d.Writer(late); at.Text() != text || at.Seen() != d.Len() || !slices.Equal(at.Chars(), d.Chars()) {
			t.Fatalf("%d came late, the log says %q: %s", late, text, toldOfWriter(at))
		}
		if len(d.Chars())+3 > api.MaxChars || d.Len()+2 > api.MaxLog {
			continue
		}
		place := r.Intn(len(text) + 1)
		does(t, d, put(late, place, "NEW"))
		want := text[:place] + "NEW" + text[place:]
		if len(text) > place {
			does(t, d, take(late, place+3, 1))
			want = text[:place] + "NEW" + text[place+1:]
		}
		settle(t, d)
		for w := range api.MaxWriters {
			if at := d.Writer(w); at != nil && at.Text() != want {
				t.Fatalf("%d sees %q, want %q", w, at.Text(), want)
			}
		}
	}
}

// The same asked of two desks is answered alike.
func TestAlike(t *testing.T) {
	run := func() string {
		r := rand.New(rand.NewSource(74))
		d, o := New(), newOffice()
		var codes []int
		for range 250 {
			s := plain.step(r, o)
			o.do(s)
			codes = append(codes, d.Do(s))
		}
		d.Settle()
		return fmt.Sprint(codes, told(d))
	}
	if one, two := run(), run(); one != two {
		t.Errorf("%s\nthen %s", one, two)
	}
}
