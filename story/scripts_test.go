package story

import (
	"fmt"
	"math/rand"
	"strings"
	"testing"

	"quillwork/api"
	"quillwork/chars"
	"quillwork/desks"
	"quillwork/fold"
	"quillwork/log"
)

// letters: those of each writer, so that each byte says itself who put it in.
var letters = [api.MaxWriters]string{"abcdefghijklmnopqrstuvwxyz", "ABCDEFGHIJKLMNOPQRSTUVWXYZ", "0123456789", " !#$%&()*+,-./:;<=>?@~"}

// owner is the writer whose letter it is.
func owner(c byte) int {
	for w, own := range letters {
		if strings.IndexByte(own, c) >= 0 {
			return w
		}
	}
	return -1
}

// owned holds that each byte is told to be of the writer whose letter it is.
func owned(t *testing.T, s *Story) {
	t.Helper()
	for n := range s.Len() {
		text, _ := s.Text(n)
		by, _ := s.By(n)
		if len(by) != len(text) {
			t.Fatalf("%d: %q, by %v", n, text, by)
		}
		for i, w := range by {
			if w != owner(text[i]) {
				t.Fatalf("%d: %q, by %v", n, text, by)
			}
		}
	}
}

// piece is 1 to most letters of the writer.
func piece(r *rand.Rand, w, most int) string {
	text := make([]byte, 1+r.Intn(most))
	for i := range text {
		text[i] = letters[w][r.Intn(len(letters[w]))]
	}
	return string(text)
}

// scribe brings deeds to a log; of each writer it knows the No of its last one, and how far it has said that it has seen the log.
type scribe struct {
	last, said [api.MaxWriters]int
	most       int // bytes that are put in at once
	lag        int // how many of the last deeds a writer may not have seen
}

// next is a deed that its writer can bring, but that there may be no room for it.
func (b *scribe) next(r *rand.Rand, g *log.Log) api.Deed {
	w := r.Intn(api.MaxWriters)
	least := max(b.said[w], g.Len()-b.lag)
	seen := least + r.Intn(g.Len()-least+1)
	sees := chars.Count(g.Chars(), seen, w)
	at := r.Intn(sees + 1)
	if r.Intn(5) < 2 && at < sees {
		return takes(w, b.last[w]+1, seen, at, 1+r.Intn(min(4, sees-at)))
	}
	return puts(w, b.last[w]+1, seen, at, piece(r, w, b.most))
}

// step does one thing to each of the logs, which must be alike, and holds that all answer alike.
func (b *scribe) step(t *testing.T, r *rand.Rand, logs ...*log.Log) {
	t.Helper()
	g := logs[0]
	w := r.Intn(api.MaxWriters)
	seen := b.said[w] + r.Intn(g.Len()-b.said[w]+1)
	d := b.next(r, g)
	kind := r.Intn(12)
	var told []string
	for _, x := range logs {
		switch kind {
		case 0: // comes again
			code := x.Leave(w)
			no, joined := x.Join(w)
			b.said[w] = x.Len()
			told = append(told, fmt.Sprint(code, no, joined))
		case 1:
			code := x.Says(w, seen)
			b.said[w] = seen
			told = append(told, fmt.Sprint(code))
		default:
			n, code := x.Take(d)
			if code == 0 {
				b.last[d.By], b.said[d.By] = d.No, d.Seen
			}
			told = append(told, fmt.Sprint(n, code))
		}
	}
	for _, x := range told {
		if x != told[0] {
			t.Fatalf("%+v: %v", d, told)
		}
	}
}

// Logs of deeds by several writers, some of whom did not know of each other: each text is what just its deeds make.
func TestLogsOfMany(t *testing.T) {
	r := rand.New(rand.NewSource(8))
	longest, fullest, twice := 0, 0, 0
	for round := range 48 {
		g := logOf(t)
		b := &scribe{most: []int{1, 2, 5, api.MaxPut}[round%4], lag: []int{0, 2, 6, api.MaxLog}[round/4%4]}
		for range []int{10, 40, 200}[round%3] {
			b.step(t, r, g)
		}
		s := Of(g)
		holds(t, s, deedsOf(g))
		owned(t, s)
		longest, fullest = max(longest, g.Len()), max(fullest, len(g.Chars()))
		for _, c := range g.Chars() {
			if c.Gone&(c.Gone-1) != 0 {
				twice++
			}
		}
	}
	if longest != api.MaxLog || fullest < api.MaxChars-2 || twice == 0 {
		t.Errorf("%d deeds, %d bytes, %d taken away by several", longest, fullest, twice)
	}
}

// A log of which stories are told at all times is as one of which none is, and each story stays as it was told.
func TestLogIsNotChanged(t *testing.T) {
	r := rand.New(rand.NewSource(9))
	for range 3 {
		g, twin := logOf(t), logOf(t)
		b := &scribe{most: 3, lag: 5}
		var stories []*Story
		for range 60 {
			b.step(t, r, g, twin)
			s := Of(g)
			told(s, g.Chars())
			stories = append(stories, s)
			if toldOfLog(g) != toldOfLog(twin) {
				t.Fatalf("%s\nwant: %s", toldOfLog(g), toldOfLog(twin))
			}
		}
		for _, s := range stories {
			holds(t, s, deedsOf(twin)[:s.Len()-1])
		}
		if toldOfLog(g) != toldOfLog(twin) {
			t.Fatalf("%s\nwant: %s", toldOfLog(g), toldOfLog(twin))
		}
	}
}

// wild is mostly around what it is told, and sometimes far off.
func wild(r *rand.Rand, around int) int {
	if r.Intn(8) == 0 {
		return far[r.Intn(len(far))]
	}
	return around
}

// Whatever is asked for, each call ends and answers what just the first deeds make.
func TestWild(t *testing.T) {
	r := rand.New(rand.NewSource(10))
	met := map[string]int{}
	for range 10 {
		g := logOf(t)
		b := &scribe{most: 4, lag: 4}
		for range 30 {
			b.step(t, r, g)
		}
		s, deeds := Of(g), deedsOf(g)
		for range 2000 {
			n := wild(r, r.Intn(s.Len()+4)-2)
			x := api.Char{C: byte(r.Intn(256)), By: wild(r, r.Intn(5)), No: wild(r, r.Intn(9)), K: wild(r, r.Intn(5)-1), In: wild(r, r.Intn(9)), Out: wild(r, r.Intn(9)), Gone: wild(r, r.Intn(16))}
			if n < 0 || n >= s.Len() {
				noText(t, s, n)
				met["no text"]++
				continue
			}
			want := placeOf(standing(t, deeds[:n]), x)
			if at := s.Where(n, x); at != want {
				t.Fatalf("Where(%d, %+v): %d, want %d", n, x, at, want)
			}
			met[fmt.Sprint("there ", want >= 0)]++
		}
	}
	if met["no text"] == 0 || met["there true"] == 0 || met["there false"] == 0 {
		t.Errorf("%v", met)
	}
}

// deskStep is a step of whoever it is; what can't be done changes nothing that is asked for here.
func deskStep(r *rand.Rand, d *desks.Desks) api.Step {
	w := r.Intn(api.MaxWriters)
	sees := 0
	if at := d.Writer(w); at != nil {
		sees = len(at.Text())
	}
	kinds := []int{api.SJoin, api.SPut, api.SPut, api.STake, api.SSend, api.SSend, api.SHear, api.SHear, api.SHear, api.SClear}
	if r.Intn(50) == 0 {
		return api.Step{Kind: api.SLeave, W: w}
	}
	return api.Step{Kind: kinds[r.Intn(len(kinds))], W: w, At: r.Intn(sees + 1), Many: 1 + r.Intn(2), Text: piece(r, w, 3)}
}

// The log of desks has a story, too: what a writer knows of it is the text of as many deeds as it has seen.
func TestDesks(t *testing.T) {
	r := rand.New(rand.NewSource(11))
	knew, longest := 0, 0
	for range 20 {
		d := desks.New()
		for step := range 200 {
			d.Do(deskStep(r, d))
			if step%10 != 0 {
				continue
			}
			s := Of(d.Log)
			for w := range api.MaxWriters {
				at := d.Writer(w)
				if at == nil {
					continue
				}
				if text, ok := s.Text(at.Seen()); !ok || text != fold.Text(at.Known()) {
					t.Fatalf("%d has seen %d: %q %v, want %q", w, at.Seen(), text, ok, fold.Text(at.Known()))
				}
				knew++
			}
		}
		s := Of(d.Log)
		holds(t, s, deedsOf(d.Log))
		owned(t, s)
		if text, ok := s.Text(s.Len() - 1); !ok || text != d.Text() {
			t.Errorf("%q %v, want %q", text, ok, d.Text())
		}
		longest = max(longest, d.Len())
	}
	if knew == 0 || longest < 20 {
		t.Errorf("%d times one knew of the log; the longest had %d deeds", knew, longest)
	}
}

// What is answered hangs on the log alone.
func TestAlike(t *testing.T) {
	run := func() string {
		r := rand.New(rand.NewSource(12))
		g := logOf(t)
		b := &scribe{most: 3, lag: 3}
		for range 60 {
			b.step(t, r, g)
		}
		return told(Of(g), g.Chars())
	}
	if one, two := run(), run(); one != two {
		t.Errorf("%s, then %s", one, two)
	}
}
