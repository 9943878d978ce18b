package deed

import (
	"math"
	"math/rand"
	"regexp"
	"strconv"
	"strings"
	"testing"

	"quillwork/api"
)

// put and take: ordinary deeds, that a test may turn in one point.
func put() api.Deed {
	return api.Deed{Kind: api.DPut, By: 1, No: 2, Seen: 3, At: 4, Text: "abc"}
}

func take() api.Deed {
	return api.Deed{Kind: api.DTake, By: 1, No: 2, Seen: 3, At: 4, Many: 5}
}

// far: numbers that are beyond every bound.
var far = []int{math.MinInt, math.MinInt + 1, -1 << 32, -2, -1, 201, 1 << 32, math.MaxInt - 1, math.MaxInt}

// every byte that may be put in.
func every() string {
	s := ""
	for b := 32; b <= 126; b++ {
		s += string(rune(b))
	}
	return s
}

func TestCheckKind(t *testing.T) {
	for _, x := range []struct {
		d    api.Deed
		want int
	}{
		{put(), 0}, {take(), 0}, {api.Deed{}, api.ErrKind},
	} {
		if got := Check(x.d); got != x.want {
			t.Errorf("%+v: %d, want %d", x.d, got, x.want)
		}
	}
	for _, kind := range append([]int{0, 3, 4, 7}, far...) {
		for _, d := range []api.Deed{put(), take()} {
			d.Kind = kind
			if got := Check(d); got != api.ErrKind {
				t.Errorf("kind %d: %d", kind, got)
			}
		}
	}
}

// bounds of the numbers of a deed, with how to set each.
var bounds = []struct {
	name      string
	low, high int
	set       func(d *api.Deed, n int)
}{
	{"By", 0, 3, func(d *api.Deed, n int) { d.By = n }},
	{"No", 1, 120, func(d *api.Deed, n int) { d.No = n }},
	{"Seen", 0, 120, func(d *api.Deed, n int) { d.Seen = n }},
	{"At", 0, 200, func(d *api.Deed, n int) { d.At = n }},
	{"Many", 1, 200, func(d *api.Deed, n int) { d.Many = n }},
}

func TestCheckBounds(t *testing.T) {
	for _, b := range bounds {
		for _, base := range []api.Deed{put(), take()} {
			if b.name == "Many" && base.Kind == api.DPut {
				continue
			}
			for _, n := range append([]int{b.low - 1, b.low, b.low + 1, b.high - 1, b.high, b.high + 1}, far...) {
				d, want := base, api.ErrRange
				b.set(&d, n)
				if b.low <= n && n <= b.high {
					want = 0
				}
				if got := Check(d); got != want {
					t.Errorf("%s %d: %d, want %d", b.name, n, got, want)
				}
			}
		}
	}
}

func TestCheckForm(t *testing.T) {
	for _, n := range append([]int{1, 2, 200}, far...) {
		d := put()
		d.Many = n
		if got := Check(d); got != api.ErrForm {
			t.Errorf("put with Many %d: %d", n, got)
		}
	}
	for _, s := range []string{"a", " ", "\n", "\x00", strings.Repeat("a", 21)} {
		d := take()
		d.Text = s
		if got := Check(d); got != api.ErrForm {
			t.Errorf("take with Text %q: %d", s, got)
		}
	}
}

func TestCheckText(t *testing.T) {
	for _, x := range []struct {
		text string
		want int
	}{
		{"", api.ErrText}, {"a", 0}, {" ", 0}, {"~", 0}, {" a b ", 0},
		{strings.Repeat("a", 19), 0}, {strings.Repeat(" ", 20), 0}, {strings.Repeat("a", 21), api.ErrText},
		{strings.Repeat("a", 100000), api.ErrText},
		{"é", api.ErrText}, {"\u3042", api.ErrText}, {"a\xff", api.ErrText}, {"\xc3", api.ErrText},
		{strings.Repeat("a", 19) + "\n", api.ErrText}, {"\n" + strings.Repeat("a", 19), api.ErrText}, {"a\nb", api.ErrText},
	} {
		d := put()
		d.Text = x.text
		if got := Check(d); got != x.want {
			t.Errorf("%q: %d, want %d", x.text, got, x.want)
		}
	}
	for b := range 256 {
		want := api.ErrText
		if 32 <= b && b <= 126 {
			want = 0
		}
		d := put()
		d.Text = "x" + string([]byte{byte(b)})
		if got := Check(d); got != want {
			t.Errorf("byte %d: %d, want %d", b, got, want)
		}
	}
}

// Each of these has a fault of the code that is told, and of all that the chapter names behind it.
func TestCheckFirst(t *testing.T) {
	for _, x := range []struct {
		name string
		d    api.Deed
		want int
	}{
		{"all, no kind", api.Deed{Kind: 3, By: 4, Many: 1}, api.ErrKind},
		{"put: range, form, text", api.Deed{Kind: api.DPut, By: 4, No: 1, Many: 1}, api.ErrRange},
		{"put: range, text", api.Deed{Kind: api.DPut, No: 0, Text: "\n"}, api.ErrRange},
		{"put: form, text", api.Deed{Kind: api.DPut, No: 1, Many: 1, Text: "\n"}, api.ErrForm},
		{"put: form, text is missing", api.Deed{Kind: api.DPut, No: 1, Many: -1}, api.ErrForm},
		{"take: range, form, range", api.Deed{Kind: api.DTake, No: 1, At: 201, Text: "a"}, api.ErrRange},
		{"take: form, range", api.Deed{Kind: api.DTake, No: 1, Text: "a"}, api.ErrForm},
		{"take: form, range above", api.Deed{Kind: api.DTake, No: 1, Many: 201, Text: "a"}, api.ErrForm},
		{"take: range", api.Deed{Kind: api.DTake, No: 1}, api.ErrRange},
	} {
		if got := Check(x.d); got != x.want {
			t.Errorf("%s: %d, want %d", x.name, got, x.want)
		}
	}
}

// told and read again: the lines of deeds that there can be.
var lines = []struct {
	d    api.Deed
	line string
}{
	{put(), "put 1 2 3 4 abc"},
	{take(), "take 1 2 3 4 5"},
	{api.Deed{Kind: api.DPut, By: 0, No: 1, Seen: 0, At: 0, Text: "a"}, "put 0 1 0 0 a"},
	{api.Deed{Kind: api.DTake, By: 0, No: 1, Seen: 0, At: 0, Many: 1}, "take 0 1 0 0 1"},
	{api.Deed{Kind: api.DPut, By: 3, No: 120, Seen: 120, At: 200, Text: "~"}, "put 3 120 120 200 ~"},
	{api.Deed{Kind: api.DTake, By: 3, No: 120, Seen: 120, At: 200, Many: 200}, "take 3 120 120 200 200"},
	{api.Deed{Kind: api.DPut, By: 2, No: 10, Seen: 20, At: 30, Text: " "}, "put 2 10 20 30  "},
	{api.Deed{Kind: api.DPut, By: 2, No: 10, Seen: 20, At: 30, Text: "  a"}, "put 2 10 20 30   a"},
	{api.Deed{Kind: api.DPut, By: 2, No: 10, Seen: 20, At: 30, Text: "a  "}, "put 2 10 20 30 a  "},
	{api.Deed{Kind: api.DPut, By: 2, No: 10, Seen: 20, At: 30, Text: "a  b c"}, "put 2 10 20 30 a  b c"},
	{api.Deed{Kind: api.DPut, By: 2, No: 10, Seen: 20, At: 30, Text: "put 1 2 3 4 a"}, "put 2 10 20 30 put 1 2 3 4 a"},
	{api.Deed{Kind: api.DPut, By: 2, No: 10, Seen: 20, At: 30, Text: "007"}, "put 2 10 20 30 007"},
	{api.Deed{Kind: api.DPut, By: 2, No: 10, Seen: 20, At: 30, Text: "12345678901234567890"}, "put 2 10 20 30 12345678901234567890"},
	{api.Deed{Kind: api.DPut, By: 2, No: 10, Seen: 20, At: 30, Text: "                    "}, "put 2 10 20 30                     "},
}

func TestLine(t *testing.T) {
	for _, x := range lines {
		if got, code := Line(x.d); got != x.line || code != 0 {
			t.Errorf("%+v: %q %d, want %q", x.d, got, code, x.line)
		}
	}
}

func TestParse(t *testing.T) {
	for _, x := range lines {
		if got, code := Parse(x.line); got != x.d || code != 0 {
			t.Errorf("%q: %+v %d, want %+v", x.line, got, code, x.d)
		}
	}
}

func TestEveryByteThereAndBack(t *testing.T) {
	for _, c := range every() {
		d := put()
		d.Text = string(c) + "x" + string(c)
		s, code := Line(d)
		if want := "put 1 2 3 4 " + d.Text; s != want || code != 0 {
			t.Errorf("%q: %q %d", d.Text, s, code)
		}
		if got, code := Parse(s); got != d || code != 0 {
			t.Errorf("%q: %+v %d", s, got, code)
		}
	}
}

// With a code there is no text, whatever of the deed is fine.
func TestLineCode(t *testing.T) {
	turned := []api.Deed{{}, {Kind: api.DPut}, {Kind: api.DTake}, {Kind: 3, No: 1, Text: "a"}}
	for _, b := range bounds {
		for _, d := range []api.Deed{put(), take()} {
			b.set(&d, b.high+1)
			turned = append(turned, d)
		}
	}
	for _, s := range []string{"", "\x1f", "\x7f", "a\nb", "\xff", strings.Repeat("a", 21)} {
		d := put()
		d.Text = s
		turned = append(turned, d)
	}
	d := take()
	d.Text = "a"
	for _, d := range append(turned, d) {
		s, code := Line(d)
		if code == 0 || code != Check(d) || s != "" {
			t.Errorf("%+v: %q %d, want %d", d, s, code, Check(d))
		}
	}
}

func TestParseCode(t *testing.T) {
	for s, want := range map[string]int{
		"":                    api.ErrForm,
		" ":                   api.ErrForm,
		"     ":               api.ErrForm,
		"      ":              api.ErrForm,
		"put":                 api.ErrForm,
		"take":                api.ErrForm,
		"put ":                api.ErrForm,
		"put 1 2 3":           api.ErrForm,
		"put 1 2 3 4":         api.ErrForm,
		"take 1 2 3 4":        api.ErrForm,
		"take 1 2 3 4 ":       api.ErrForm,
		"take 1 2 3 4 5 ":     api.ErrForm,
		"take 1 2 3 4 5 6":    api.ErrForm,
		"take 1 2 3 4  5":     api.ErrForm,
		"take 1 2 3 4 5 x":    api.ErrForm,
		" take 1 2 3 4 5":     api.ErrForm,
		"take  1 2 3 4 5":     api.ErrForm,
		"take 1 2  3 4 5":     api.ErrForm,
		" put 1 2 3 4 a":      api.ErrForm,
		"put  1 2 3 4 a":      api.ErrForm,
		"put 1  2 3 4 a":      api.ErrForm,
		"put 1 2 3  4 a":      api.ErrForm,
		"put\t1 2 3 4 5 a":    api.ErrForm,
		"put 1\t2 3 4 5 a":    api.ErrForm,
		"put 1 2 3 4\ta":      api.ErrForm,
		"put 1 2 3 4\n a":     api.ErrForm,
		"take 1 2 3 4 5\n":    api.ErrForm,
		"take 1 2 3 4 5\x00":  api.ErrForm,
		"set 1 2 3 4 5":       api.ErrForm,
		"Put 1 2 3 4 a":       api.ErrForm,
		"PUT 1 2 3 4 a":       api.ErrForm,
		"puts 1 2 3 4 a":      api.ErrForm,
		"pu 1 2 3 4 a":        api.ErrForm,
		"tak 1 2 3 4 5":       api.ErrForm,
		"takes 1 2 3 4 5":     api.ErrForm,
		"1 1 2 3 4 a":         api.ErrForm,
		"2 1 2 3 4 5":         api.ErrForm,
		"\xff 1 2 3 4 5":      api.ErrForm,
		"put\xff 1 2 3 4 a":   api.ErrForm,
		"put \xff 2 3 4 a":    api.ErrForm,
		"take 1 2 3 4 \xff":   api.ErrForm,
		"take 1 2 3 4 x":      api.ErrForm,
		"take 1 2 3 4 \u0665": api.ErrForm,

		// Words of a deed, but of none that there can be.
		"put 1 2 3 4 ":                       api.ErrText,
		"put 1 2 3 4 \n":                     api.ErrText,
		"put 1 2 3 4 a\n":                    api.ErrText,
		"put 1 2 3 4 \x1f":                   api.ErrText,
		"put 1 2 3 4 \x7f":                   api.ErrText,
		"put 1 2 3 4 \xff":                   api.ErrText,
		"put 1 2 3 4 é":                      api.ErrText,
		"put 1 2 3 4 123456789012345678901":  api.ErrText,
		"put 1 2 3 4                      ":  api.ErrText,
		"put 4 2 3 4 a":                      api.ErrRange,
		"put 1 0 3 4 a":                      api.ErrRange,
		"put 1 121 3 4 a":                    api.ErrRange,
		"put 1 2 121 4 a":                    api.ErrRange,
		"put 1 2 3 201 a":                    api.ErrRange,
		"put 1 2 3 201 ":                     api.ErrRange,
		"take 1 2 3 4 0":                     api.ErrRange,
		"take 1 2 3 4 201":                   api.ErrRange,
		"take 1 2 3 4 9223372036854775807":   api.ErrRange,
		"take 1 2 3 4 -9223372036854775808":  api.ErrRange,
		"take 1 2 3 4 -1":                    api.ErrRange,
		"put -1 2 3 4 a":                     api.ErrRange,
		"put -9223372036854775808 2 3 4 a":   api.ErrRange,
		"put 9223372036854775807 2 3 4 a":    api.ErrRange,
		"take 1 2 3 4 9223372036854775808":   api.ErrForm,
		"take 1 2 3 4 -9223372036854775809":  api.ErrForm,
		"take 1 2 3 4 18446744073709551621":  api.ErrForm,
		"put 9223372036854775808 2 3 4 a":    api.ErrForm,
		"put 18446744073709551617 2 3 4 abc": api.ErrForm,

		// Not such words comes ahead of what Check tells.
		"put 9 2 3 4":    api.ErrForm,
		"put 9 2 3 x a":  api.ErrForm,
		"put 9 2 3 x ":   api.ErrForm,
		"take 9 2 3 4 x": api.ErrForm,
		"set 9 2 3 4 0":  api.ErrForm,
	} {
		if d, code := Parse(s); code != want || d != (api.Deed{}) {
			t.Errorf("%q: %+v %d, want %d", s, d, code, want)
		}
	}
}

// Words that are no numbers as short as can be, at each place where a number stands.
func TestParseNumbers(t *testing.T) {
	wrong := []string{"", "+1", "-", "+", "-0", "+0", "00", "01", "-01", "001", "1.0", "1e1", "0x1", "1_0", "1a", "a1", "\xb1", "1\n", "1\t", "one", "--1", "99999999999999999999999999999999"}
	for _, line := range []string{"put 1 2 3 4 a", "take 1 2 3 4 5"} {
		for place := 1; place <= 5; place++ {
			if place == 5 && line[0] == 'p' {
				continue
			}
			for _, word := range wrong {
				words := strings.Split(line, " ")
				words[place] = word
				s := strings.Join(words, " ")
				if d, code := Parse(s); code != api.ErrForm || d != (api.Deed{}) {
					t.Errorf("%q: %+v %d", s, d, code)
				}
			}
		}
	}
}

var putLine = regexp.MustCompile(`^put (0|-?[1-9][0-9]*) (0|-?[1-9][0-9]*) (0|-?[1-9][0-9]*) (0|-?[1-9][0-9]*) ((?s).*)$`)
var takeLine = regexp.MustCompile(`^take (0|-?[1-9][0-9]*) (0|-?[1-9][0-9]*) (0|-?[1-9][0-9]*) (0|-?[1-9][0-9]*) (0|-?[1-9][0-9]*)$`)

// plain is Parse told by the chapter's words, in another way.
func plain(s string) (api.Deed, int) {
	var d api.Deed
	m := putLine.FindStringSubmatch(s)
	to := []*int{&d.By, &d.No, &d.Seen, &d.At}
	if m != nil {
		d.Kind, d.Text = api.DPut, m[5]
	} else if m = takeLine.FindStringSubmatch(s); m != nil {
		d.Kind, to = api.DTake, append(to, &d.Many)
	} else {
		return api.Deed{}, api.ErrForm
	}
	for i, p := range to {
		n, err := strconv.ParseInt(m[i+1], 10, 64)
		if err != nil {
			return api.Deed{}, api.ErrForm
		}
		*p = int(n)
	}
	if code := Check(d); code != 0 {
		return api.Deed{}, code
	}
	return d, 0
}

// Whatever line comes, Parse ends, answers what the chapter says, and a deed has that line and no other.
func TestParseWild(t *testing.T) {
	r := rand.New(rand.NewSource(2))
	words := []string{"put", "take", "0", "1", "3", "4", "120", "121", "200", "201", "-1", "01", "a", "", "é", "\xff", "\n", "9223372036854775808"}
	met := map[int]int{}
	for range 200000 {
		list := []string{words[r.Intn(2)]}
		for range 4 + r.Intn(3) {
			if r.Intn(4) > 0 {
				list = append(list, strconv.Itoa(1+r.Intn(3)))
			} else {
				list = append(list, words[r.Intn(len(words))])
			}
		}
		s := strings.Join(list, " ")
		if r.Intn(10) == 0 {
			b := []byte(s)
			b[r.Intn(len(b))] = byte(r.Intn(256))
			s = string(b)
		}
		d, code := Parse(s)
		want, wantCode := plain(s)
		if d != want || code != wantCode {
			t.Fatalf("%q: %+v %d, want %+v %d", s, d, code, want, wantCode)
		}
		if line, lineCode := Line(d); code == 0 && (line != s || lineCode != 0) {
			t.Fatalf("%q: its line is %q %d", s, line, lineCode)
		}
		met[code]++
	}
	for _, code := range []int{0, api.ErrRange, api.ErrForm, api.ErrText} {
		if met[code] == 0 {
			t.Errorf("no line met code %d", code)
		}
	}
}

// A long line ends, too, and its words don't become many.
func TestParseLong(t *testing.T) {
	for _, x := range []struct {
		s    string
		want int
	}{
		{strings.Repeat(" ", 1<<20), api.ErrForm},
		{strings.Repeat("1", 1<<20), api.ErrForm},
		{"put " + strings.Repeat("1", 1<<20) + " 2 3 4 a", api.ErrForm},
		{"put 1 2 3 4 " + strings.Repeat("a ", 1<<20), api.ErrText},
		{"take 1 2 3 4 " + strings.Repeat("5 ", 1<<20), api.ErrForm},
	} {
		if d, code := Parse(x.s); code != x.want || d != (api.Deed{}) {
			t.Errorf("%q..: %+v %d, want %d", x.s[:12], d, code, x.want)
		}
	}
}
