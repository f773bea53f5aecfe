package glob

import (
	"math/rand"
	"strings"
	"testing"
)

// allSigns are bytes of every meaning that one may have in a pattern, and two that always stand for themselves.
const allSigns = `ab*?[]^-\`

func checkMatch(t *testing.T, pattern, s string, want bool) {
	t.Helper()
	if got := Match(pattern, s); got != want {
		t.Errorf("Match(%q, %q) = %v", pattern, s, got)
	}
}

func checkPlain(t *testing.T, pattern, name string, want bool) {
	t.Helper()
	if got, ok := Plain(pattern); got != name || ok != want {
		t.Errorf("Plain(%q) = %q, %v; want %q, %v", pattern, got, ok, name, want)
	}
}

// checkBytes holds a pattern of one sign against all texts of one byte, and against some of none and of two.
func checkBytes(t *testing.T, pattern string, means func(b byte) bool) {
	t.Helper()
	for i := range 256 {
		b := string([]byte{byte(i)})
		checkMatch(t, pattern, b, means(byte(i)))
		checkMatch(t, pattern, b+b, false)
	}
	checkMatch(t, pattern, "", false)
}

func oneOf(bytes string) func(byte) bool {
	return func(b byte) bool { return strings.IndexByte(bytes, b) >= 0 }
}

func noneOf(bytes string) func(byte) bool {
	return func(b byte) bool { return strings.IndexByte(bytes, b) < 0 }
}

func TestP3_1_ChapterExamples(t *testing.T) {
	for _, x := range []struct {
		pattern, s string
		want       bool
	}{
		{"h?llo", "hello", true}, {"h*llo", "hllo", true}, {"h*llo", "heeeello", true}, {"h[ae]llo", "hallo", true},
		{"h[^e]llo", "hello", false}, {"h?llo", "hllo", false}, {"hello", "hello!", false},
		{"", "", true}, {"*", "", true}, {"**", "a", true}, {"", "a", false}, {"?", "", false},
		{"[a-c]", "b", true}, {"[c-a]", "b", true}, {"[a-]", "-", true}, {"[-a]", "-", true}, {"[a-b-c]", "-", true},
		{"[^]", "x", true}, {"[abc", "c", true}, {`[\]]`, "]", true}, {"a]", "a]", true},
		{"[]", "", false}, {"[]", "]", false}, {"[a-b-c]", "d", false},
		{`\*`, "*", true}, {`\*`, "x", false}, {`\`, `\`, true},
	} {
		checkMatch(t, x.pattern, x.s, x.want)
	}
}

func TestP3_1_BytesThatStandForThemselves(t *testing.T) {
	for i := range 256 {
		b := string([]byte{byte(i)})
		only := oneOf(b)
		if b != "*" && b != "?" && b != "[" {
			checkBytes(t, b, only)
		}
		checkBytes(t, `\`+b, only)
	}
	for _, x := range []struct {
		pattern, s string
		want       bool
	}{
		{"]^-", "]^-", true}, {"a^b", "a^b", true}, {"^a", "^a", true}, {"^a", "b", false}, {"a-c", "a-c", true}, {"a-c", "b", false},
		{"Key", "key", false}, {"key", "key", true}, {"key", "ke", false}, {"key", "keys", false}, {"ey", "key", false},
		{`a\`, `a\`, true}, {`a\`, "a", false}, {`a\`, `a\\`, false}, {`\\`, `\`, true}, {`\\`, `\\`, false}, {`\\\`, `\\`, true},
		{`\a`, "a", true}, {`\a`, `\a`, false}, {`\n`, "\n", false}, {`\?`, "?", true}, {`\?`, "x", false}, {`\[a]`, "[a]", true}, {`\[a]`, "a", false},
		{`*\`, `a\`, true}, {`*\`, `a`, false}, {`\**`, "*abc", true}, {`\**`, "abc", false},
	} {
		checkMatch(t, x.pattern, x.s, x.want)
	}
}

func TestP3_1_QuestionMarksTakeOneByteEach(t *testing.T) {
	checkBytes(t, "?", func(byte) bool { return true })
	for marks := range 6 {
		for length := range 6 {
			checkMatch(t, strings.Repeat("?", marks), strings.Repeat("\xc3", length), marks == length)
		}
	}
	checkMatch(t, "?", "\u00e9", false)
	checkMatch(t, "??", "\u00e9", true)
	checkMatch(t, "???", "\u20ac", true)
	checkMatch(t, "?\xa9", "\u00e9", true)
}

func TestP3_1_Sets(t *testing.T) {
	any, none := func(byte) bool { return true }, func(byte) bool { return false }
	within := func(low, high byte) func(byte) bool { return func(b byte) bool { return low <= b && b <= high } }
	outside := func(low, high byte) func(byte) bool { return func(b byte) bool { return b < low || high < b } }
	for _, x := range []struct {
		pattern string
		means   func(byte) bool
	}{
		{"[abc]", oneOf("abc")}, {"[^abc]", noneOf("abc")}, {"[a]", oneOf("a")}, {"[aa]", oneOf("a")},
		{"[]", none}, {"[^]", any}, {"[", none}, {"[^", any},
		{"[abc", oneOf("abc")}, {"[^abc", noneOf("abc")}, {"[a-c", oneOf("abc")}, {"[^a-c", noneOf("abc")}, {"[a-", oneOf("a-")}, {"[-", oneOf("-")},
		{"[*?[]", oneOf("*?[")}, {"[^*?[]", noneOf("*?[")}, {"[[a]", oneOf("[a")},
		{"[^^]", noneOf("^")}, {"[a^]", oneOf("a^")}, {`[\^a]`, oneOf("^a")}, {`[^\^]`, noneOf("^")}, {`[\^]`, oneOf("^")}, {"[^^a]", noneOf("^a")},
		{`[\]]`, oneOf("]")}, {`[^\]]`, noneOf("]")}, {`[\]`, oneOf("]")}, {`[\\]`, oneOf(`\`)}, {`[\`, oneOf(`\`)}, {`[^\`, noneOf(`\`)}, {`[a\`, oneOf(`a\`)},
		{`[\a\b]`, oneOf("ab")}, {`[a\-c]`, oneOf("a-c")}, {`[\-]`, oneOf("-")}, {`[a\]b]`, oneOf("a]b")}, {`[\\\]]`, oneOf(`\]`)}, {`[\[]`, oneOf("[")},
		{"[a-c]", oneOf("abc")}, {"[c-a]", oneOf("abc")}, {"[^a-c]", noneOf("abc")}, {"[^c-a]", noneOf("abc")}, {"[a-a]", oneOf("a")},
		{"[a-]", oneOf("a-")}, {"[-a]", oneOf("a-")}, {"[^-a]", noneOf("a-")}, {"[^a-]", noneOf("a-")}, {"[-]", oneOf("-")}, {"[--]", oneOf("-")}, {"[---]", oneOf("-")},
		{"[--0]", within('-', '0')}, {"[+--]", within('+', '-')}, {"[a--]", within('-', 'a')}, {"[----]", oneOf("-")}, {"[---0]", oneOf("-0")}, {"[^--0]", outside('-', '0')},
		{"[a-b-c]", oneOf("ab-c")}, {"[a-b-c-d]", oneOf("ab-cd")}, {"[a-bc-d]", oneOf("abcd")}, {"[a-cb]", oneOf("abc")}, {"[xa-c]", oneOf("xabc")}, {"[a-b-]", oneOf("ab-")},
		{"[a-c-e-g]", oneOf("abc-efg")}, {"[a-c--]", oneOf("abc-")}, {"[a-c--/]", oneOf("abc-./")},
		{`[\a-\c]`, oneOf("abc")}, {`[a-\c]`, oneOf("abc")}, {`[\--0]`, within('-', '0')}, {`[+-\-]`, within('+', '-')}, {`[a-\]]`, within(']', 'a')}, {`[\]-a]`, within(']', 'a')},
		{`[a-\`, within('\\', 'a')}, {`[\-a]`, oneOf("-a")}, {`[Z-\\]`, within('Z', '\\')}, {`[\\-Z]`, within('Z', '\\')}, {"[^-^]", noneOf("-^")}, {"[a-^]", within('^', 'a')},
		{`[\^-a]`, within('^', 'a')},
		{"[\x00-\xff]", any}, {"[\xff-\x00]", any}, {"[^\x00-\xff]", none}, {"[\x00]", oneOf("\x00")}, {"[\x7f-\x80]", oneOf("\x7f\x80")}, {"[\x80-\x7f]", oneOf("\x7f\x80")},
		{"[\xfe-\xff]", oneOf("\xfe\xff")}, {"[^\x01-\xff]", oneOf("\x00")}, {"[\xc3\xa9]", oneOf("\xc3\xa9")}, {"[\u00e9]", oneOf("\xc3\xa9")},
	} {
		checkBytes(t, x.pattern, x.means)
	}
}

func TestP3_1_WhatStandsBehindASet(t *testing.T) {
	for _, x := range []struct {
		pattern, s string
		want       bool
	}{
		{"[a]b", "ab", true}, {"[a]b", "a", false}, {"[ab]]", "a]", true}, {"[ab]]", "a", false}, {"[]a]", "a", false}, {"[]a]", "]", false}, {"[]a]", "aa]", false},
		{"[^]a]", "xa]", true}, {"[^]a]", "x", false}, {"[a][b]", "ab", true}, {"[a][b]", "a", false}, {"[[]]", "[]", true}, {"[[]]", "[", false},
		{`[\\]a`, `\a`, true}, {`[\]]a`, "]a", true}, {`[\]a`, "a", true}, {`[\]a`, "]a", false}, {"[a*", "abc", false}, {"[a*", "*", true}, {"[a]*", "abc", true},
		{"[a-]c", "-c", true}, {"[a-]c", "b", false}, {"x[a-c]y", "xby", true}, {"x[a-c]y", "xdy", false}, {"*[a-c", "xxb", true}, {"*[", "xx", false}, {"*[^", "xx", true},
	} {
		checkMatch(t, x.pattern, x.s, x.want)
	}
}

func TestP3_1_Stars(t *testing.T) {
	for _, x := range []struct {
		pattern, s string
		want       bool
	}{
		{"a*", "a", true}, {"a*", "abc", true}, {"a*", "ba", false}, {"*a", "a", true}, {"*a", "bba", true}, {"*a", "ab", false}, {"a*a", "a", false}, {"a*a", "aa", true},
		{"*ab", "aab", true}, {"*ab", "abab", true}, {"*ab", "aba", false}, {"*aab", "aaab", true}, {"*aba*", "ababa", true}, {"*abac", "ababac", true},
		{"a*b*c", "abc", true}, {"a*b*c", "axbxc", true}, {"a*b*c", "acb", false}, {"*a*b*c*", "xxaxxbxxcxx", true}, {"*a*b*c*", "xxaxxcxxbxx", false},
		{"***", "", true}, {"a**b", "ab", true}, {"a**b", "axxb", true}, {"a***", "a", true}, {"***a", "xa", true}, {"*?", "", false}, {"*?", "a", true}, {"?*", "", false},
		{"?*?", "a", false}, {"?*?", "ab", true}, {"*?*?*", "a", false}, {"*?*?*", "ab", true}, {"*[ab]c", "acbc", true}, {"*[^a]c", "acac", false}, {`*\*`, "a*", true}, {`*\*`, "a", false},
		{"*ab*ab", "ab", false}, {"*ab*ab", "abab", true}, {"*ab*ba*", "aba", false}, {"*ab*ba*", "abba", true}, {"*aa*aa*", "aaa", false}, {"*aa*aa*", "aaaa", true},
		{"news.*", "news.", true}, {"news.*", "news", false}, {"*.news", ".news", true}, {"*\x00*", "a\x00b", true}, {"*\xff", "\xff\xff", true},
	} {
		checkMatch(t, x.pattern, x.s, x.want)
	}
}

func TestP3_1_NearlyFitsManyTimes(t *testing.T) {
	many := strings.Repeat("a", 20000)
	for _, x := range []struct {
		pattern, s string
		want       bool
	}{
		{"*" + many[:300] + "b", many, false}, {"*" + many[:300] + "b", many + "b", true}, {"*" + many[:300] + "b*", many + "b", true}, {"*" + many[:300] + "b*", many, false},
		{strings.Repeat("*a", 500) + "*b", many, false}, {strings.Repeat("*a", 500) + "*b", many + "b", true}, {strings.Repeat("a*", 500) + "a", many, true},
		{strings.Repeat("*?", 500) + "*b*", many, false}, {strings.Repeat("*[a]", 500), many, true}, {strings.Repeat("*", 1000) + "b", many, false},
		{strings.Repeat("*a", 500), many[:500], true}, {strings.Repeat("*a", 500), many[:499], false},
		{"*[" + strings.Repeat("b-c", 300) + "]", many, false}, {strings.Repeat("*aab", 100), strings.Repeat("aaab", 100), true}, {strings.Repeat("*aab", 101), strings.Repeat("aaab", 100), false},
	} {
		if got := Match(x.pattern, x.s); got != x.want {
			t.Errorf("Match(%.20q.., %.20q..) = %v", x.pattern, x.s, got)
		}
	}
}

func TestP3_1_EveryShortPattern(t *testing.T) {
	texts := rows(`ab]-^\`, 2)
	texts = append(texts, "_", "Z", ".", "*", "[", "aab", "aba", "abb", "a-b", "[a]", "\x00", "\x80", "\xff")
	for _, pattern := range rows(allSigns, 5) {
		signs, _ := signsOf(pattern)
		for _, s := range texts {
			if Match(pattern, s) != splits(signs, s) {
				t.Fatalf("Match(%q, %q) = %v", pattern, s, Match(pattern, s))
			}
		}
	}
}

func TestP3_1_LongerPatterns(t *testing.T) {
	source := rand.New(rand.NewSource(3))
	draw := func(letters string, most int) string {
		row := make([]byte, source.Intn(most+1))
		for i := range row {
			row[i] = letters[source.Intn(len(letters))]
		}
		return string(row)
	}
	meant := 0
	for range 60000 {
		pattern, s := draw("aab***?[]^-\\\xff", 14), draw("aaab-\xff", 12)
		signs, _ := signsOf(pattern)
		want := splits(signs, s)
		if Match(pattern, s) != want {
			t.Fatalf("Match(%q, %q) = %v", pattern, s, !want)
		}
		if want {
			meant++
		}
	}
	if meant < 1000 {
		t.Errorf("only %d of the patterns meant their text", meant)
	}
}

func TestP3_2_ChapterExamples(t *testing.T) {
	checkPlain(t, `a\*b`, "a*b", true)
	checkPlain(t, "a*", "", false)
	checkPlain(t, "[a]", "", false)
	checkPlain(t, "", "", true)
}

func TestP3_2_Edges(t *testing.T) {
	for _, name := range []string{"key", "]^-", "a]b", "^a", "a-c", "\x00\x7f\x80\xff", "\u20ac"} {
		checkPlain(t, name, name, true)
	}
	for _, pattern := range []string{"*", "?", "[", "[a", "[]", "[^]", `[\`, "a*b", "a?", "?a", "ab[", "**", `\\*`, `\\?`, `\\[a]`, `\a*`, "]["} {
		checkPlain(t, pattern, "", false)
	}
	for _, x := range [][2]string{
		{`\`, `\`}, {`\\`, `\`}, {`\\\`, `\\`}, {`a\`, `a\`}, {`\a`, "a"}, {`\?`, "?"}, {`\[`, "["}, {`\[a]`, "[a]"}, {`\]`, "]"}, {`\*\?\[`, "*?["}, {"\\\x00", "\x00"}, {"\\\xff", "\xff"}, {`\n`, "n"},
	} {
		checkPlain(t, x[0], x[1], true)
	}
}

func TestP3_2_EveryShortPattern(t *testing.T) {
	for _, pattern := range rows(allSigns, 5) {
		signs, _ := signsOf(pattern)
		marks, _ := marksOf(pattern)
		want, name := true, []byte{}
		for _, g := range signs {
			want = want && !g.star && !g.set
		}
		for _, m := range marks {
			name = append(name, m.b)
		}
		if !want {
			name = nil
		}
		checkPlain(t, pattern, string(name), want)
		if want {
			checkMatch(t, pattern, string(name), true)
		}
	}
}

func TestP3_3_SideBySide(t *testing.T) {
	texts := rows("ab]", 3)
	patterns := rows(`ab*?[]^\`, 3)
	cuts := 0
	for _, p := range patterns {
		_, within := signsOf(p)
		if _, ownSlash := marksOf(p); within || ownSlash {
			continue
		}
		for _, q := range patterns[:len(patterns)/4] {
			for _, s := range texts {
				cut := false
				for i := range len(s) + 1 {
					cut = cut || Match(p, s[:i]) && Match(q, s[i:])
				}
				if Match(p+q, s) != cut {
					t.Fatalf("Match(%q + %q, %q) = %v", p, q, s, !cut)
				}
				if cut {
					cuts++
				}
			}
		}
	}
	if cuts < 1000 {
		t.Errorf("only %d texts could be cut", cuts)
	}
	// Where p ends within a set, or with a \ that stands for itself, q's first bytes belong to p's last sign.
	checkMatch(t, "[a"+"b", "ab", false)
	checkMatch(t, "[a"+"b", "b", true)
	checkMatch(t, `\`+"*", `\x`, false)
	checkMatch(t, `\`+"*", "*", true)
}

func TestP3_4_EscapedTexts(t *testing.T) {
	texts := append(rows(allSigns, 3), "\x00", "\x7f\x80\xff", "key:1[*]?", strings.Repeat(`\`, 1000), strings.Repeat("*", 1000))
	others := rows(`ab*[\`, 3)
	for _, text := range texts {
		pattern := escaped(text)
		checkPlain(t, pattern, text, true)
		checkMatch(t, pattern, text, true)
		checkMatch(t, pattern, text+"a", false)
		checkMatch(t, pattern, "a"+text, false)
		for _, other := range others {
			if Match(pattern, other) != (text == other) {
				t.Fatalf("Match(%q, %q) = %v", pattern, other, text != other)
			}
		}
	}
}

func TestP3_5_StarsAroundAText(t *testing.T) {
	long := strings.Repeat("ab", 5000)
	texts := append(rows(`ab*\`, 4), "\x00", "\xff\x80", long)
	for _, s := range texts {
		checkMatch(t, "*", s, true)
	}
	for _, inner := range rows(`ab*\`, 3) {
		pattern := "*" + escaped(inner) + "*"
		for _, s := range texts {
			if Match(pattern, s) != strings.Contains(s, inner) {
				t.Fatalf("Match(%q, %.20q) = %v", pattern, s, !strings.Contains(s, inner))
			}
		}
	}
	checkMatch(t, "*"+escaped("abba")+"*", long+"ba"+long, true)
	checkMatch(t, "*"+escaped("abba")+"*", long+"a", false)
}
