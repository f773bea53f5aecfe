package verbs

import (
	"slices"
	"strings"
	"testing"

	"pantry/api"
)

func TestP18_3_Examples(t *testing.T) {
	for _, x := range []struct {
		words []string
		code  api.Errno
	}{
		{[]string{"get", "k"}, api.OK},
		{[]string{"get"}, api.ErrArity},
		{[]string{"get", "a", "b"}, api.ErrArity},
		{[]string{"nope"}, api.ErrVerb},
		{[]string{}, api.ErrArg},
		{nil, api.ErrArg},
		{[]string{"set", "k", "v", "ex", "1"}, api.OK},
	} {
		check(t, x.words, x.code)
	}
	if v, _ := Check([]string{"gEt", "k"}); v != (api.Verb{Name: "GET", Arity: 2, First: 1, Last: 1, Jump: 1}) {
		t.Errorf("Check(gEt k) = %v", v)
	}
}

// check holds a command's number of the error against the one that is asked for, and its row against the table's.
func check(t *testing.T, words []string, code api.Errno) {
	t.Helper()
	v, got := Check(words)
	want := api.Verb{}
	if code == api.OK {
		want = spelledRows(t)[spelledUpper(words[0])]
	}
	if got != code || v != want {
		t.Errorf("Check of %d words, %.60q: %v, %d, want %v, %d", len(words), words, v, got, want, code)
	}
}

// Each row with each small number of words, and with as many as a command may have.
func TestP18_3_NumbersOfWords(t *testing.T) {
	rows := spelledRows(t)
	for name, row := range rows {
		for n := range 12 {
			code := api.OK
			if n+1 < abs(row.Arity) || row.Arity > 0 && n+1 > row.Arity {
				code = api.ErrArity
			}
			checkRow(t, line(name, n), row, code)
			checkRow(t, line(strings.ToLower(name), n), row, code)
		}
		code := api.ErrArity
		if row.Arity < 0 {
			code = api.OK
		}
		checkRow(t, line(name, api.MaxWords-2), row, code)
		checkRow(t, line(name, api.MaxWords-1), row, code)
		checkRow(t, line(name, api.MaxWords), row, api.ErrLong)
	}
}

func abs(n int) int {
	return max(n, -n)
}

func checkRow(t *testing.T, words []string, row api.Verb, code api.Errno) {
	t.Helper()
	if code != api.OK {
		row = api.Verb{}
	}
	if v, got := Check(words); got != code || v != row {
		t.Errorf("Check of %s with %d words: %v, %d, want %v, %d", words[0], len(words), v, got, row, code)
	}
}

func TestP18_3_NoWords(t *testing.T) {
	room := []string{"ping", "x"}
	for _, words := range [][]string{nil, {}, make([]string, 0, 4), room[:0], room[2:]} {
		check(t, words, api.ErrArg)
	}
	// A word without a byte is a word.
	check(t, []string{""}, api.ErrVerb)
	check(t, []string{"", ""}, api.ErrVerb)
	check(t, []string{"get", ""}, api.OK)
	check(t, []string{"", "get"}, api.ErrVerb)
}

func TestP18_3_ALongWord(t *testing.T) {
	most, more := strings.Repeat("x", 1<<20), strings.Repeat("x", 1<<20+1)
	check(t, []string{"get", most}, api.OK)
	check(t, []string{"get", more}, api.ErrLong)
	check(t, []string{"set", "k", most}, api.OK)
	check(t, []string{"set", "k", more}, api.ErrLong)
	check(t, []string{"set", more, "v"}, api.ErrLong)
	check(t, []string{"set", "k", "v", most, most, most}, api.OK)
	check(t, []string{"set", "k", "v", most, more, most}, api.ErrLong)
	check(t, []string{most}, api.ErrVerb)
	check(t, []string{more}, api.ErrLong)
	check(t, []string{most, "k"}, api.ErrVerb)
	check(t, []string{more, "k"}, api.ErrLong)
	check(t, []string{"get", strings.Repeat("x", 1<<23)}, api.ErrLong)
}

func TestP18_3_LongTogether(t *testing.T) {
	most := strings.Repeat("y", 1<<20)
	// MSET and its words: 4 bytes, three words of MaxText, and what is missing.
	for d, code := range map[int]api.Errno{-1: api.OK, 0: api.OK, 1: api.ErrLong, 2: api.ErrLong, 4: api.ErrLong} {
		check(t, []string{"mset", most, most, most, most[:1<<20-4+d]}, code)
		check(t, []string{"mset", most[:1<<20-4+d], most, most, most}, code)
	}
	// Of four and more words of MaxText there is no room for a name.
	check(t, []string{"del", most, most, most, most}, api.ErrLong)
	check(t, []string{most, most, most, most}, api.ErrVerb)
	check(t, []string{most, most, most, most, "x"}, api.ErrLong)
	check(t, []string{most, most, most, most, ""}, api.ErrVerb)
	// Many words: 1023 of 4096 bytes, and 4096 for the rest.
	words := append([]string{"del"}, slices.Repeat([]string{most[:4096]}, 1022)...)
	check(t, append(slices.Clone(words), most[:8192-3]), api.OK)
	check(t, append(slices.Clone(words), most[:8192-2]), api.ErrLong)
	// All words count, however many there are.
	check(t, append([]string{"del"}, slices.Repeat([]string{most}, 1023)...), api.ErrLong)
	check(t, slices.Repeat([]string{most}, 1024), api.ErrLong)
}

func TestP18_3_ManyWords(t *testing.T) {
	many := func(name string, n int) []string { return append([]string{name}, make([]string, n-1)...) }
	check(t, many("del", 1024), api.OK)
	check(t, many("del", 1025), api.ErrLong)
	check(t, many("ping", 1024), api.OK)
	check(t, many("ping", 1025), api.ErrLong)
	check(t, many("get", 1024), api.ErrArity)
	check(t, many("get", 1025), api.ErrLong)
	check(t, many("nope", 1024), api.ErrVerb)
	check(t, many("nope", 1025), api.ErrLong)
	check(t, many("", 1025), api.ErrLong)
	check(t, many("del", 1<<20), api.ErrLong)
}

// Of several errors the first one that P18.3 names is told.
func TestP18_3_WhichErrorFirst(t *testing.T) {
	more := strings.Repeat("x", 1<<20+1)
	quarter := strings.Repeat("x", 1<<20)
	check(t, []string{"nope", more}, api.ErrLong)
	check(t, []string{"get", "k", more}, api.ErrLong)
	check(t, []string{"get", more, "k"}, api.ErrLong)
	check(t, []string{"nope", quarter, quarter, quarter, quarter}, api.ErrLong)
	check(t, []string{"get", quarter, quarter, quarter, quarter}, api.ErrLong)
	check(t, []string{"quit", quarter, quarter, quarter, quarter[:1<<20-4]}, api.ErrArity)
	check(t, []string{"nope", quarter, quarter, quarter, quarter[:1<<20-4]}, api.ErrVerb)
	check(t, []string{"nope", "a", "b", "c", "d", "e", "f"}, api.ErrVerb)
	check(t, []string{"nope", "get", "k"}, api.ErrVerb)
	check(t, []string{"get "}, api.ErrVerb)
}

func TestP18_3_NothingChangedNorKept(t *testing.T) {
	room := []string{"mGet", "a", "b", "behind", "far behind"}
	words := room[:3]
	if _, code := Check(words); code != api.OK {
		t.Errorf("Check(%q) = %d", words, code)
	}
	if !slices.Equal(room, []string{"mGet", "a", "b", "behind", "far behind"}) {
		t.Errorf("Check wrote into the words that it was handed: %q", room)
	}
	// What stands behind the end is no word: GET has one too few here, and SET has not one too many.
	check(t, []string{"get", "k", "x"}[:1], api.ErrArity)
	check(t, []string{"get", "k", "x"}[:2], api.OK)
	check(t, []string{"set", "k", "v", strings.Repeat("x", api.MaxText+1)}[:3], api.OK)
	check(t, make([]string, 1025)[:0], api.ErrArg)
	// An answer hangs on its own words alone.
	words[0] = "nope"
	check(t, []string{"mget", "a"}, api.OK)
	check(t, words, api.ErrVerb)
}
