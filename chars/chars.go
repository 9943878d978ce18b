// Package chars: see doc/01-chars.md.
package chars

import (
	"slices"

	"quillwork/api"
)

// Writer tells whether there is a writer of that number.
func Writer(w int) bool {
	return within(w, 0, api.MaxWriters-1)
}

// In tells whether by, that has seen the log as far as seen, knows that the byte was put in.
func In(c api.Char, seen, by int) bool {
	return c.In <= seen || c.By == by
}

// Out tells whether by, that has seen the log as far as seen, knows that the byte was taken away.
func Out(c api.Char, seen, by int) bool {
	return c.Out != 0 && c.Out <= seen || tookAway(c, by)
}

// Sees tells whether the byte stands in the text as by sees it.
func Sees(c api.Char, seen, by int) bool {
	return In(c, seen, by) && !Out(c, seen, by)
}

// View is the text as by sees it.
func View(l []api.Char, seen, by int) []byte {
	var view []byte
	for _, c := range l {
		if Sees(c, seen, by) {
			view = append(view, c.C)
		}
	}
	return view
}

// Count is the length of View.
func Count(l []api.Char, seen, by int) int {
	many := 0
	for _, c := range l {
		if Sees(c, seen, by) {
			many++
		}
	}
	return many
}

// Behind is the place right behind the n-th byte that by sees; -1: there is none.
func Behind(l []api.Char, seen, by, n int) int {
	if n == 0 {
		return 0
	}
	// What is met is never below 1 when it is held against n: an n below 0 is found nowhere.
	met := 0
	last := slices.IndexFunc(l, func(c api.Char) bool {
		if !Sees(c, seen, by) {
			return false
		}
		met++
		return met == n
	})
	if last < 0 {
		return -1
	}
	return last + 1
}

// Same tells whether both are the same byte of the same deed, whatever became of it.
func Same(a, b api.Char) bool {
	return a.By == b.By && a.No == b.No && a.K == b.K
}

// Find is the first place of the same byte; -1: it stands nowhere.
func Find(l []api.Char, c api.Char) int {
	return slices.IndexFunc(l, func(x api.Char) bool { return Same(x, c) })
}

// Check is the code of why there can't be such a list where the log has so many deeds; 0: there can.
func Check(l []api.Char, log int) int {
	if len(l) > api.MaxChars {
		return api.ErrMany
	}
	for i, c := range l {
		if code := checkOne(c, log); code != 0 {
			return code
		}
		if Find(l[:i], c) >= 0 {
			return api.ErrThere
		}
	}
	return 0
}

// checkOne is Check of a byte by itself.
func checkOne(c api.Char, log int) int {
	switch {
	case !named(c), !numbered(c, log):
		return api.ErrRange
	case c.Out != 0 && (c.Out <= c.In || c.Gone == 0):
		return api.ErrForm
	}
	return 0
}

// named tells whether a deed, and writers, may be those that the byte names.
func named(c api.Char) bool {
	return Writer(c.By) && c.No >= 1 && within(c.K, 0, api.MaxPut-1) && within(c.Gone, 0, 1<<api.MaxWriters-1)
}

// numbered tells whether a log of so many deeds has the numbers of the byte.
func numbered(c api.Char, log int) bool {
	return (c.In == api.Open || within(c.In, 1, log)) && within(c.Out, 0, log)
}

// tookAway asks first whether there is such a writer: a shift by less than 0 would panic, and no other one has a bit.
func tookAway(c api.Char, by int) bool {
	return Writer(by) && c.Gone&(1<<by) != 0
}

func within(n, low, high int) bool {
	return low <= n && n <= high
}
