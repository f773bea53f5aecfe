package request

import (
	"fmt"
	"math/rand/v2"
	"slices"
	"strings"
	"testing"
)

func wantWords(t *testing.T, line string, want ...string) {
	t.Helper()
	words, err := Inline(line)
	if err != nil || !slices.Equal(words, want) {
		t.Fatalf("Inline %s: %s %v, not %s", cut(line), short([][]string{words}), err, short([][]string{want}))
	}
	if s, err := spelledInline(line); err != nil || !slices.Equal(s, want) {
		t.Fatalf("spelled %s: %q %v", cut(line), s, err)
	}
}

func wantRefused(t *testing.T, line string, want error) {
	t.Helper()
	if words, err := Inline(line); err != want || len(words) != 0 {
		t.Fatalf("Inline %s: %s %v, not %v", cut(line), short([][]string{words}), err, want)
	}
	if _, err := spelledInline(line); err != want {
		t.Fatalf("spelled %s: %v", cut(line), err)
	}
}

func inlineAsSpelled(t *testing.T, line string) {
	t.Helper()
	want, wrong := spelledInline(line)
	words, err := Inline(line)
	if err != wrong || !slices.Equal(words, want) {
		t.Fatalf("Inline %s: %s %v, not %s %v", cut(line), short([][]string{words}), err, short([][]string{want}), wrong)
	}
}

func TestP17_4_ChapterExamples(t *testing.T) {
	wantWords(t, `a "b c" 'd'`, "a", "b c", "d")
	wantWords(t, `"a\x41\n\""`, "aA\n\"")
	wantWords(t, `'it\'s'`, "it's")
	wantWords(t, `"" ''`, "", "")
	wantRefused(t, `"a"b`, ErrQuote)
	wantRefused(t, `"a`, ErrQuote)
	wantRefused(t, `'a\'`, ErrQuote)
	wantWords(t, `a"b`, `a"b`)
	wantRefused(t, strings.Repeat("a ", 1025), ErrCount)
	wantRefused(t, `'a\\'`, ErrQuote)
}

// Only the bytes 32 and 9 part words; all others belong to them.
func TestP17_4_Blanks(t *testing.T) {
	for _, line := range []string{"", " ", "\t", " \t \t\t  ", strings.Repeat(" ", 4096), strings.Repeat("\t", 4096)} {
		wantWords(t, line)
	}
	for _, ahead := range []string{"", " ", "\t", "  \t "} {
		for _, behind := range []string{"", " ", "\t", "\t \t"} {
			wantWords(t, ahead+"SET a  1"+behind, "SET", "a", "1")
			wantWords(t, ahead+"a\tb \t c"+behind, "a", "b", "c")
			wantWords(t, ahead+`"a"`+"\t"+`'b' `+"\t"+`""`+behind, "a", "b", "")
		}
	}
	for c := range 256 {
		one := string([]byte{byte(c)})
		switch c {
		case ' ', '\t':
			wantWords(t, "a"+one+"b", "a", "b")
			wantWords(t, one+"a"+one, "a")
			continue
		}
		wantWords(t, "a"+one+"b", "a"+one+"b")
		wantWords(t, "a"+one, "a"+one)
		wantWords(t, "\xe2"+one+"\x80", "\xe2"+one+"\x80")
		if c != '"' && c != '\'' {
			wantWords(t, one, one)
			wantWords(t, one+"b c", one+"b", "c")
			wantWords(t, one+`"b c"`, one+`"b`, `c"`)
			wantWords(t, one+`'b c'`, one+`'b`, `c'`)
		}
		inlineAsSpelled(t, one)
		inlineAsSpelled(t, one+one)
		inlineAsSpelled(t, one+one+one+" "+one)
	}
}

// A LF, or a CR, is a byte like any other here, at a line's end too.
func TestP17_4_LineEnds(t *testing.T) {
	wantWords(t, "a\r\n", "a\r\n")
	wantWords(t, "a\r", "a\r")
	wantWords(t, "\n", "\n")
	wantWords(t, "\r\n", "\r\n")
	wantWords(t, "a \r", "a", "\r")
	wantWords(t, "a\nb c\rd", "a\nb", "c\rd")
	wantWords(t, "\"a\r\nb\" 'c\n'", "a\r\nb", "c\n")
	wantRefused(t, "\"a\"\r", ErrQuote)
	wantRefused(t, "\"a\"\n", ErrQuote)
	wantRefused(t, "''\r\n", ErrQuote)
	wantWords(t, "*1", "*1")
	wantWords(t, "*1\r\n$1\r\na", "*1\r\n$1\r\na")
	wantWords(t, "$-1 *0", "$-1", "*0")
}

// Behind a backslash between " each byte is what the chapter says.
func TestP17_4_Escapes(t *testing.T) {
	for c := range 256 {
		one := string([]byte{byte(c)})
		want := one
		switch c {
		case 'n':
			want = "\n"
		case 'r':
			want = "\r"
		case 't':
			want = "\t"
		}
		wantWords(t, `"\`+one+`"`, want)
		wantWords(t, `"a\`+one+`b"`, "a"+want+"b")
		wantWords(t, `"\`+one+`\`+one+`" c`, want+want, "c")
		// No backslash takes a byte between ' but the ' itself.
		if c != '\'' && c != '\\' {
			wantWords(t, `'\`+one+`'`, `\`+one)
			wantWords(t, `\`+one, `\`+strings.Trim(one, " \t"))
		}
	}
	wantWords(t, `'\''`, `'`)
	wantWords(t, `"'" '"'`, `'`, `"`)
	wantWords(t, `"\'\"\\"`, `'"\`)
	wantWords(t, `'\"\n\x41\t'`, `\"\n\x41\t`)
	wantWords(t, `\x41 \n \"`, `\x41`, `\n`, `\"`)
	wantWords(t, `"\N\R\T\X41"`, "NRTX41")
	wantWords(t, `"\\n\\\n"`, "\\n\\\n")
	wantWords(t, `"\\" "\\\\"`, `\`, `\\`)
	wantRefused(t, `"\"`, ErrQuote)
	wantRefused(t, `"\\\"`, ErrQuote)
	wantRefused(t, `"a\`, ErrQuote)
	wantRefused(t, `"\`, ErrQuote)
	wantRefused(t, `"a\\`, ErrQuote)
}

func TestP17_4_Hex(t *testing.T) {
	for n := range 256 {
		for _, form := range []string{"%02x", "%02X"} {
			digits := fmt.Sprintf(form, n)
			want := string([]byte{byte(n)})
			for _, s := range []string{digits, strings.ToUpper(digits[:1]) + digits[1:], digits[:1] + strings.ToUpper(digits[1:])} {
				wantWords(t, `"\x`+s+`"`, want)
				wantWords(t, `"a\x`+s+`0f"`, "a"+want+"0f")
				wantWords(t, `"\x`+s+`\x`+s+`"`, want+want)
				wantWords(t, `'\x`+s+`'`, `\x`+s)
				wantWords(t, `\x`+s, `\x`+s)
			}
		}
	}
	wantWords(t, `"\x"`, "x")
	wantWords(t, `"\x4"`, "x4")
	wantWords(t, `"\x" 41`, "x", "41")
	wantWords(t, `"\x4" 1`, "x4", "1")
	wantWords(t, `"\xg1"`, "xg1")
	wantWords(t, `"\x1g"`, "x1g")
	wantWords(t, `"\x 1\x1 "`, "x 1x1 ")
	wantWords(t, `"\x+1\x-1\x1_\x_1\x0x\x.1"`, "x+1x-1x1_x_1x0xx.1")
	wantWords(t, `"\x\x41"`, "xA")
	wantWords(t, `"\x4\x41"`, "x4A")
	wantWords(t, `"\x\n\x4\""`, "x\nx4\"")
	wantWords(t, "\"\\x\xd9\xa1\"", "x\xd9\xa1")
	for _, line := range []string{`"\x`, `"\x4`, `"\x41`, `"\x4\`, `"\x\"`} {
		wantRefused(t, line, ErrQuote)
	}
	digit := "0123456789abcdefABCDEF"
	for a := range 256 {
		for b := range 256 {
			two := string([]byte{byte(a), byte(b)})
			line := `"\x` + two + `"`
			inlineAsSpelled(t, line)
			if strings.Contains(digit, two[:1]) && strings.Contains(digit, two[1:]) {
				if words, err := Inline(line); err != nil || len(words) != 1 || len(words[0]) != 1 {
					t.Fatalf("%s: %q %v", line, words, err)
				}
			}
		}
	}
}

// Only a ' with no backslash right ahead of it ends what began with one.
func TestP17_4_Single(t *testing.T) {
	wantWords(t, `'a b' c`, "a b", "c")
	wantWords(t, `'a\b\\c'`, `a\b\\c`)
	wantWords(t, `'a\\'b'`, `a\'b`)
	wantWords(t, `'\'\'' ''`, "''", "")
	wantWords(t, `'a\\\' b'`, `a\\' b`)
	wantWords(t, `'\\ '`, `\\ `)
	wantRefused(t, `'\'`, ErrQuote)
	wantRefused(t, `'\\'`, ErrQuote)
	wantRefused(t, `'\\\'`, ErrQuote)
	wantRefused(t, `'`, ErrQuote)
	wantRefused(t, `'a`, ErrQuote)
	wantRefused(t, `'a' '`, ErrQuote)
	wantRefused(t, `''''`, ErrQuote)
	wantRefused(t, `'a'"b"`, ErrQuote)
	wantRefused(t, `'a'b`, ErrQuote)
	wantRefused(t, `'a'\ `, ErrQuote)
}

// Behind a quoted word's end stands a blank, or nothing.
func TestP17_4_BehindTheEnd(t *testing.T) {
	for _, quoted := range []string{`""`, `''`, `"a"`, `'a'`, `"a b"`, `'\''`, `"\""`, `"\\"`} {
		word, _ := Inline(quoted)
		for c := range 256 {
			one := string([]byte{byte(c)})
			if c == ' ' || c == '\t' {
				wantWords(t, quoted+one, word...)
				wantWords(t, quoted+one+"b", word[0], "b")
				continue
			}
			wantRefused(t, quoted+one, ErrQuote)
			wantRefused(t, quoted+one+" ", ErrQuote)
			wantRefused(t, "a "+quoted+one+" b", ErrQuote)
			wantRefused(t, quoted+one+" "+strings.Repeat("a ", 1025), ErrQuote)
		}
	}
}

func TestP17_4_Limits(t *testing.T) {
	for _, c := range []string{"a", " ", "\t", "\n", "\r", "\x00", "\xff"} {
		inlineAsSpelled(t, strings.Repeat(c, 4096))
		wantRefused(t, strings.Repeat(c, 4097), ErrTooBig)
	}
	wantWords(t, strings.Repeat("a", 4096), strings.Repeat("a", 4096))
	wantWords(t, `"`+strings.Repeat(`\x41`, 1023)+`A"`, strings.Repeat("A", 1024))
	wantWords(t, `'`+strings.Repeat(`a`, 4094)+`'`, strings.Repeat("a", 4094))
	many := slices.Repeat([]string{"a"}, 1024)
	wantWords(t, strings.Repeat("a ", 1024), many...)
	wantWords(t, strings.Repeat("a ", 1023)+"a", many...)
	wantWords(t, strings.Repeat("a ", 1024)+strings.Repeat(" \t", 1024), many...)
	wantWords(t, strings.Repeat("'' ", 1024), make([]string, 1024)...)
	wantRefused(t, strings.Repeat("'' ", 1025), ErrCount)
	wantRefused(t, strings.Repeat("a ", 1024)+"b", ErrCount)
	wantRefused(t, strings.Repeat("a ", 2048), ErrCount)
	wantRefused(t, strings.Repeat(" ", 4097), ErrTooBig)
	for _, n := range []int{4097, 4098, 8192, 1 << 16, 1 << 20, 1<<24 + 1} {
		wantRefused(t, strings.Repeat("a", n), ErrTooBig)
		wantRefused(t, strings.Repeat("'", n), ErrTooBig)
		wantRefused(t, strings.Repeat("a ", n), ErrTooBig)
	}
}

// Word by word: what is wrong first, from the left; and of one word ahead of all that there are too many.
func TestP17_4_WhichErrorFirst(t *testing.T) {
	wantRefused(t, strings.Repeat("a ", 1023)+`"b`, ErrQuote)
	wantRefused(t, strings.Repeat("a ", 1024)+`"b`, ErrCount)
	wantRefused(t, strings.Repeat("a ", 1024)+`'b'c`, ErrCount)
	wantRefused(t, `"a"b `+strings.Repeat("a ", 1025), ErrQuote)
	wantRefused(t, strings.Repeat("a ", 1023)+`'a'b c d`, ErrQuote)
	wantRefused(t, strings.Repeat("a ", 1022)+`'a'b c d`, ErrQuote)
	wantRefused(t, strings.Repeat("a ", 1024)+`c 'a'b d`, ErrCount)
	wantRefused(t, `"`+strings.Repeat("a", 4095), ErrQuote)
	wantRefused(t, `"`+strings.Repeat("a", 4096), ErrTooBig)
	wantRefused(t, strings.Repeat("a ", 2048)+"a", ErrTooBig)
}

// Every short line over the signs that mean something.
func TestP17_4_EveryShortLine(t *testing.T) {
	const signs = `"'\xn4 a`
	for size := range 7 {
		everyRow(signs, size, func(line string) { inlineAsSpelled(t, line) })
	}
	everyRow("\"'\\ a\t\n\r", 5, func(line string) { inlineAsSpelled(t, line) })
	everyRow(`\xf9F"`, 5, func(line string) { inlineAsSpelled(t, `"`+line+`"`) })
}

// everyRow does something with each row of so many of the signs.
func everyRow(signs string, size int, do func(string)) {
	places := make([]int, size)
	row := make([]byte, size)
	for {
		for i, at := range places {
			row[i] = signs[at]
		}
		do(string(row))
		i := 0
		for i < size && places[i] == len(signs)-1 {
			places[i] = 0
			i++
		}
		if i == size {
			return
		}
		places[i]++
	}
}

func TestP17_4_DrawnLines(t *testing.T) {
	d := rand.New(rand.NewPCG(17, 4))
	for range 30000 {
		inlineAsSpelled(t, drawnLine(d))
	}
}

// drawnLine is a line with words of each sort; now and then one that is wrong.
func drawnLine(d *rand.Rand) string {
	var line strings.Builder
	for range d.IntN(6) {
		line.WriteString(strings.Repeat([]string{" ", "\t", " \t"}[d.IntN(3)], 1+d.IntN(2)))
		inner := drawnSigns(d, "ab\\\"'xnrt4fF \t\x00\xff\xc3\r", d.IntN(8))
		switch d.IntN(3) {
		case 0:
			line.WriteString(inner)
		case 1:
			line.WriteString(`"` + strings.ReplaceAll(inner, `"`, `\"`) + `"`)
		case 2:
			line.WriteString(`'` + strings.ReplaceAll(inner, `'`, `\'`) + `'`)
		}
		if d.IntN(30) == 0 {
			line.WriteString(drawnSigns(d, "\"'a\\", 1))
		}
	}
	return line.String()
}

func drawnSigns(d *rand.Rand, signs string, n int) string {
	b := make([]byte, n)
	for i := range b {
		b[i] = signs[d.IntN(len(signs))]
	}
	return string(b)
}

// The words are new memory: what the caller writes to one list, or behind its end, no other one shows.
func TestP17_4_WordsAreTheCallers(t *testing.T) {
	line := `a "b" 'c' dd`
	first, _ := Inline(line)
	second, _ := Inline(line)
	want := []string{"a", "b", "c", "dd"}
	for i := range first {
		first[i] = "x"
	}
	_ = append(first[:0], "y", "y", "y", "y", "y")
	third, _ := Inline(line)
	if !slices.Equal(second, want) || !slices.Equal(third, want) || line != `a "b" 'c' dd` {
		t.Errorf("%q %q", second, third)
	}
}

// Any bytes, each written with its two digits, are one word.
func TestP17_8_Quoted(t *testing.T) {
	d := rand.New(rand.NewPCG(17, 8))
	texts := []string{"", "\r\n", "\"", "'", "\\", " ", "\t", "\x00", "a b", "\xff\xfe", strings.Repeat("\n", 1023), strings.Repeat("\"\\'", 341)}
	for range 2000 {
		b := make([]byte, d.IntN(60))
		for i := range b {
			b[i] = byte(d.Uint32())
		}
		texts = append(texts, string(b))
	}
	every := make([]byte, 256)
	for i := range every {
		every[i] = byte(i)
	}
	for _, text := range append(texts, string(every)) {
		for _, form := range []string{`\x%02x`, `\x%02X`} {
			var word strings.Builder
			for i := range len(text) {
				fmt.Fprintf(&word, form, text[i])
			}
			quoted := `"` + word.String() + `"`
			wantWords(t, quoted, text)
			wantAll(t, quoted+"\n", nil, 0, []string{text})
			wantAll(t, "PING\r\n"+quoted+"\r\nPING\r\n*", nil, 1, []string{"PING"}, []string{text}, []string{"PING"})
			if len(quoted) < 1500 {
				wantWords(t, " "+quoted+"\t ", text)
				wantWords(t, "a "+quoted+" b "+quoted, "a", text, "b", text)
			}
		}
	}
}
