package verbs

import (
	"slices"
	"strings"
	"testing"

	"pantry/api"
)

func keys(t *testing.T, words []string, want ...string) {
	t.Helper()
	if got := Keys(words); !slices.Equal(got, want) {
		t.Errorf("Keys of %d words, %.60q: %.60q, want %.60q", len(words), words, got, want)
	}
}

func TestP18_4_Examples(t *testing.T) {
	keys(t, []string{"mset", "a", "1", "b", "2"}, "a", "b")
	keys(t, []string{"del", "a", "a"}, "a", "a")
	keys(t, []string{"rename", "a", "b"}, "a", "b")
	keys(t, []string{"ping"})
	keys(t, []string{"get"})
	keys(t, []string{"sunionstore", "d", "a", "b"}, "d", "a", "b")
}

// Each row with each number of words up to forty, and with as many as a command may have, each word another one.
func TestP18_4_EachRow(t *testing.T) {
	rows := spelledRows(t)
	for name := range rows {
		sizes := []int{api.MaxWords - 2, api.MaxWords - 1, api.MaxWords}
		for n := range 40 {
			sizes = append(sizes, n)
		}
		for _, n := range sizes {
			keys(t, line(name, n), spelledKeys(rows, line(name, n))...)
			keys(t, line(strings.ToLower(name), n), spelledKeys(rows, line(name, n))...)
		}
	}
}

// Last above 0: words behind it are none; below 0: the last word is one, or, if every other one is, the last but one.
func TestP18_4_UpToLast(t *testing.T) {
	keys(t, []string{"get", "k"}, "k")
	keys(t, []string{"set", "k", "v", "ex", "1"}, "k")
	keys(t, []string{"linsert", "k", "before", "p", "e"}, "k")
	keys(t, []string{"lmove", "a", "b", "left", "right"}, "a", "b")
	keys(t, []string{"smove", "a", "b", "m"}, "a", "b")
	keys(t, []string{"renamenx", "a", "b"}, "a", "b")
	keys(t, []string{"copy", "a", "b"}, "a", "b")
	keys(t, []string{"copy", "a", "b", "replace"}, "a", "b")
	keys(t, []string{"copy", "a", "b", "replace", "c"}, "a", "b")
	keys(t, []string{"watch", "a"}, "a")
	keys(t, []string{"touch", "a", "b", "c"}, "a", "b", "c")
	keys(t, []string{"sdiffstore", "d", "a"}, "d", "a")
	keys(t, []string{"mset", "a", "1"}, "a")
	keys(t, []string{"mset", "a", "1", "b"}, "a", "b")
	keys(t, []string{"msetnx", "a", "1", "b", "2", "c", "3"}, "a", "b", "c")
	keys(t, []string{"MSET", "a", "1", "b", "2", "c"}, "a", "b", "c")
}

func TestP18_4_AlikeAndEmpty(t *testing.T) {
	keys(t, []string{"mset", "a", "a", "a", "a"}, "a", "a")
	keys(t, []string{"rename", "a", "a"}, "a", "a")
	keys(t, []string{"sinter", "b", "a", "b", "a"}, "b", "a", "b", "a")
	keys(t, []string{"del", "", ""}, "", "")
	keys(t, []string{"get", "get"}, "get")
	keys(t, []string{"del", "DEL", "del"}, "DEL", "del")
	// A key is told as it is, in its own letters and bytes.
	keys(t, []string{"mget", "aB", "\xff\x00\r\n", " "}, "aB", "\xff\x00\r\n", " ")
	all := slices.Repeat([]string{"k"}, api.MaxWords-1)
	keys(t, append([]string{"exists"}, all...), all...)
}

func TestP18_4_RefusedOrWithoutKeys(t *testing.T) {
	more := strings.Repeat("x", api.MaxText+1)
	most := more[1:]
	for _, words := range [][]string{
		nil,
		{},
		{""},
		{"nope", "a"},
		{"get"},
		{"get", "a", "b"},
		{"del"},
		{"mset", "a"},
		{"rename", "a"},
		{"rename", "a", "b", "c"},
		{"lmove", "a", "b"},
		{"copy", "a"},
		{"get", more},
		{"del", "a", more},
		{"del", most, most, most, most},
		{more, "a"},
		append([]string{"del"}, make([]string, api.MaxWords)...),
		// The names of these have no key behind them.
		{"keys", "*"},
		{"echo", "a"},
		{"scan", "0"},
		{"scan", "0", "count", "9"},
		{"ping", "a"},
		{"publish", "c", "m"},
		{"subscribe", "c", "d"},
		{"punsubscribe"},
		{"flushall"},
		{"dbsize"},
		{"exec"},
		{"quit"},
	} {
		keys(t, words)
	}
	keys(t, []string{"del", "a", most}, "a", most)
	keys(t, []string{"mget", most, most, most, most[4:]}, most, most, most, most[4:])
}

func TestP18_4_NothingChangedNorShared(t *testing.T) {
	given := []string{"mSet", "a", "1", "b", "2", "c", "3"}
	room := slices.Clone(given)
	for n := range len(room) + 1 {
		words := room[:n]
		want := spelledKeys(spelledRows(t), slices.Clone(words))
		first, second := Keys(words), Keys(words)
		if !slices.Equal(first, want) {
			t.Errorf("Keys(%q) = %q, want %q", words, first, want)
		}
		for i := range first[:cap(first)] {
			first[:cap(first)][i] = "x"
		}
		if !slices.Equal(room, given) {
			t.Fatalf("the words, or the room behind them, were changed: %q", room)
		}
		if third := Keys(words); !slices.Equal(second, want) || !slices.Equal(third, want) {
			t.Errorf("what is written into one answer is seen in another: %q, %q, want %q", second, third, want)
		}
		for i := range second {
			words[i] = "y"
		}
		if !slices.Equal(second, want) {
			t.Errorf("what the caller writes into his words is seen in an answer: %q, want %q", second, want)
		}
		copy(room, given)
	}
}
