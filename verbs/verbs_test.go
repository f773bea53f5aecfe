package verbs

import (
	"math/rand/v2"
	"slices"
	"strconv"
	"strings"
	"testing"

	"pantry/api"
)

func TestP18_1_UpperOfEachByte(t *testing.T) {
	for c := range 256 {
		s := string([]byte{byte(c)})
		want := s
		if c >= 97 && c <= 122 {
			want = string([]byte{byte(c - 32)})
		}
		if got := Upper(s); got != want {
			t.Errorf("Upper(%q) = %q, want %q", s, got, want)
		}
		for d := range 256 {
			s := string([]byte{byte(c), byte(d)})
			if got := Upper(s); got != spelledUpper(s) {
				t.Fatalf("Upper(%q) = %q, want %q", s, got, spelledUpper(s))
			}
		}
	}
}

func TestP18_1_UpperOfTexts(t *testing.T) {
	for _, x := range [][2]string{
		{"", ""},
		{"get", "GET"},
		{"GET", "GET"},
		{"a`b{c@d[e", "A`B{C@D[E"},
		{"hset 1\x00\r\n", "HSET 1\x00\r\n"},
		// No letter of ASCII: ä, ß, the long s and the small letter i without its dot, both with a capital in ASCII.
		{"\u00e4\u00df\u017f\u0131", "\u00e4\u00df\u017f\u0131"},
		{"x\xff\xc3y\x80z", "X\xff\xc3Y\x80Z"},
	} {
		if got := Upper(x[0]); got != x[1] {
			t.Errorf("Upper(%q) = %q, want %q", x[0], got, x[1])
		}
	}
	long := strings.Repeat("aZ\xe4z0", api.MaxText)
	if got, want := Upper(long), strings.Repeat("AZ\xe4Z0", api.MaxText); got != want {
		t.Errorf("Upper of %d bytes is another text", len(long))
	}
}

func TestP18_1_UpperOfDrawnTexts(t *testing.T) {
	r := rand.New(rand.NewPCG(18, 1))
	for range 20000 {
		b := make([]byte, r.IntN(20))
		for i := range b {
			b[i] = byte(r.IntN(256))
		}
		s := string(b)
		got := Upper(s)
		if got != spelledUpper(s) {
			t.Fatalf("Upper(%q) = %q, want %q", s, got, spelledUpper(s))
		}
		if again := Upper(got); again != got {
			t.Fatalf("Upper(%q) = %q: it was in capitals", got, again)
		}
	}
}

func TestP18_2_EachRow(t *testing.T) {
	rows := spelledRows(t)
	if len(rows) != 113 {
		t.Fatalf("%d rows in the chapter's table", len(rows))
	}
	for name, want := range rows {
		for _, n := range []string{name, strings.ToLower(name)} {
			v, ok := Find(n)
			if !ok || v.Name != want.Name || v.Arity != want.Arity || v.Flags != want.Flags ||
				v.First != want.First || v.Last != want.Last || v.Jump != want.Jump {
				t.Errorf("Find(%q) = %v, %v, want %v", n, v, ok, want)
			}
		}
	}
}

func TestP18_2_Examples(t *testing.T) {
	get := api.Verb{Name: "GET", Arity: 2, Flags: 0, First: 1, Last: 1, Jump: 1}
	for _, n := range []string{"get", "GeT"} {
		if v, ok := Find(n); v != get || !ok {
			t.Errorf("Find(%q) = %v, %v", n, v, ok)
		}
	}
	for _, n := range []string{"get ", ""} {
		if v, ok := Find(n); v != (api.Verb{}) || ok {
			t.Errorf("Find(%q) = %v, %v", n, v, ok)
		}
	}
}

// find holds what Find answers against the table.
func find(t *testing.T, rows map[string]api.Verb, name string) {
	t.Helper()
	want, there := rows[spelledUpper(name)]
	if v, ok := Find(name); v != want || ok != there {
		t.Fatalf("Find(%q) = %v, %v, want %v, %v", name, v, ok, want, there)
	}
}

// A byte taken out, put in or changed, anywhere, makes another name or none.
func TestP18_2_AByteMoreOrLess(t *testing.T) {
	rows := spelledRows(t)
	for name := range rows {
		for at := range len(name) + 1 {
			for c := range 256 {
				b := string([]byte{byte(c)})
				find(t, rows, name[:at]+b+name[at:])
				if at < len(name) {
					find(t, rows, name[:at]+b+name[at+1:])
				}
			}
			if at < len(name) {
				find(t, rows, name[:at]+name[at+1:])
			}
		}
	}
}

func TestP18_2_PiecesOfNames(t *testing.T) {
	rows := spelledRows(t)
	for name := range rows {
		for from := range len(name) {
			for to := from; to <= len(name); to++ {
				find(t, rows, name[from:to])
			}
		}
		for _, around := range []string{" ", "  ", "\t", "\x00", "\r\n", "'", "\"", "|", ","} {
			find(t, rows, around+name)
			find(t, rows, name+around)
			find(t, rows, around+name+around)
		}
	}
}

// Names that stand side by side in the table, or in the order of names, are no name together.
func TestP18_2_TwoNames(t *testing.T) {
	rows := spelledRows(t)
	names := spelledNames(t)
	for _, a := range names {
		for _, b := range names {
			for _, between := range []string{"", " ", "\x00", ",", "|"} {
				find(t, rows, a+between+b)
			}
		}
	}
	for _, l := range strings.Split(chapter, "\n") {
		find(t, rows, l)
		find(t, rows, strings.Trim(l, "| "))
	}
	find(t, rows, strings.Join(names, " "))
}

func TestP18_2_NoName(t *testing.T) {
	for _, name := range []string{
		"", " ", "\x00", "\n", "*", "nope", "NONE", "WRITE", "0", "-1", "gte", "g\xc9t", "g\xe9t", "get\x00", "get\r\n",
		"GETEX", "HELLO", "CONFIG", "ZPOP", "SUB", "MULTIPLE", "ZRANGEBYLEX",
		// Letters that are told as S, I and K where capitals are made of more than ASCII.
		"\u017fet", "\u017fadd", "p\u0131ng", "ttl\u0131", "\u212aeys", "m\u0131get",
		// Signs right ahead of a and A, right behind z and Z, and those that the bit between capitals and small letters makes.
		"`et", "@ET", "{card", "[CARD", "\x07\x05\x14", "'%4", "GET\x20", "\x67\x65\xf4", "\xe7et",
		strings.Repeat("get", 7), strings.Repeat("g", api.MaxText), "get" + strings.Repeat(" ", 5*api.MaxText), strings.Repeat("get ", api.MaxText),
	} {
		if v, ok := Find(name); v != (api.Verb{}) || ok {
			t.Errorf("Find(%.30q) = %v, %v", name, v, ok)
		}
	}
}

// Every text of up to four capitals is asked for: there are but the names of the table.
func TestP18_2_AllShortNames(t *testing.T) {
	rows := spelledRows(t)
	found := 0
	var ask func(name string)
	ask = func(name string) {
		find(t, rows, name)
		if _, ok := Find(name); ok {
			found++
		}
		if len(name) == 4 {
			return
		}
		for c := byte('A'); c <= 'Z'; c++ {
			ask(name + string([]byte{c}))
		}
	}
	ask("")
	want := 0
	for name := range rows {
		if len(name) <= 4 {
			want++
		}
	}
	if found != want || found == 0 {
		t.Errorf("%d names of at most four letters, want %d", found, want)
	}
}

func TestP18_2_Names(t *testing.T) {
	names := Names()
	if !slices.Equal(names, spelledNames(t)) {
		t.Fatalf("Names() = %q", names)
	}
	if len(names) != 113 || names[0] != "APPEND" || names[112] != "ZSCORE" {
		t.Errorf("%d names, from %s to %s", len(names), names[0], names[len(names)-1])
	}
	for i, name := range names {
		if i > 0 && names[i-1] >= name {
			t.Errorf("%s stands ahead of %s", names[i-1], name)
		}
		if v, ok := Find(name); !ok || v.Name != name {
			t.Errorf("Find(%q) = %v, %v", name, v, ok)
		}
	}
}

func TestP18_2_NamesAreNewMemory(t *testing.T) {
	want := spelledNames(t)
	first, second := Names(), Names()
	for _, l := range [][]string{first, first[:cap(first)]} {
		for i := range l {
			l[i] = "x"
		}
	}
	if !slices.Equal(second, want) {
		t.Errorf("what is written into one answer is seen in another: %q", second)
	}
	if third := Names(); !slices.Equal(third, want) {
		t.Errorf("what is written into an answer is seen in a later one: %q", third)
	}
	if v, ok := Find("get"); !ok || v.Name != "GET" {
		t.Errorf("what is written into an answer is seen by Find: %v, %v", v, ok)
	}
}

func TestP18_5_CapitalsDontMatter(t *testing.T) {
	for name, want := range spelledRows(t) {
		eachCase(name, func(n string) {
			if v, ok := Find(n); v != want || !ok {
				t.Fatalf("Find(%q) = %v, %v, want %v", n, v, ok, want)
			}
		})
	}
}

func TestP18_5_OtherWordsDontMatter(t *testing.T) {
	rows := spelledRows(t)
	names := spelledNames(t)
	r := rand.New(rand.NewPCG(18, 5))
	for range 30000 {
		name := names[r.IntN(len(names))]
		plain := line(name, r.IntN(7))
		other := make([]string, len(plain))
		other[0] = mixed(r, name)
		for i := range other[1:] {
			other[i+1] = drawnWord(r, names)
		}
		v, code := Check(plain)
		w, codeOfOther := Check(other)
		if v != w || code != codeOfOther {
			t.Fatalf("Check(%q) = %v, %d; Check(%q) = %v, %d", plain, v, code, other, w, codeOfOther)
		}
		if keys, want := Keys(other), spelledKeys(rows, other); !slices.Equal(keys, want) {
			t.Fatalf("Keys(%q) = %q, want %q", other, keys, want)
		}
		// The same places, whatever stands there.
		for i, k := range Keys(plain) {
			place := number(t, k[1:])
			if Keys(other)[i] != other[place] {
				t.Fatalf("Keys(%q) = %q, but Keys(%q) = %q", plain, Keys(plain), other, Keys(other))
			}
		}
		if len(Keys(plain)) != len(Keys(other)) {
			t.Fatalf("Keys(%q) = %q, but Keys(%q) = %q", plain, Keys(plain), other, Keys(other))
		}
	}
}

// mixed: the name, each letter as a small one or a capital.
func mixed(r *rand.Rand, name string) string {
	b := []byte(name)
	for i := range b {
		b[i] |= byte(32 * r.IntN(2))
	}
	return string(b)
}

// drawnWord: a name, an option, a number, no byte, any bytes.
func drawnWord(r *rand.Rand, names []string) string {
	switch r.IntN(6) {
	case 0:
		return ""
	case 1:
		return mixed(r, names[r.IntN(len(names))])
	case 2:
		return strconv.Itoa(r.IntN(2000) - 1000)
	case 3:
		return strings.Repeat("x", r.IntN(100))
	case 4:
		return []string{"EX", "NX", "xx", "WITHSCORES", "count", "*", " ", "\r\n", "\x00", "-1"}[r.IntN(10)]
	}
	b := make([]byte, r.IntN(5))
	for i := range b {
		b[i] = byte(r.IntN(256))
	}
	return string(b)
}

func TestP18_6_FlagsGoTogether(t *testing.T) {
	for _, name := range Names() {
		v, _ := Find(name)
		if v.Flags&api.FlGrow != 0 && v.Flags&api.FlWrite == 0 {
			t.Errorf("%s may grow, and may not write", name)
		}
		if v.Flags&api.FlNow != 0 && v.Flags&api.FlWrite != 0 {
			t.Errorf("%s is done within a transaction at once, and may write", name)
		}
		if v.Flags&^15 != 0 {
			t.Errorf("%s has the flags %d", name, v.Flags)
		}
	}
}

func TestP18_6_AKeyAtLeast(t *testing.T) {
	for _, name := range Names() {
		v, _ := Find(name)
		for n := range 60 {
			words := line(name, n)
			_, code := Check(words)
			keys := Keys(words)
			if code == api.OK && v.First != 0 && len(keys) == 0 {
				t.Errorf("Keys of %s with %d words tells none", name, n+1)
			}
			if (code != api.OK || v.First == 0) && len(keys) != 0 {
				t.Errorf("Keys of %s with %d words: %q", name, n+1, keys)
			}
		}
	}
}
