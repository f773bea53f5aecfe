package request

import (
	"errors"
	"math/big"
	"regexp"
	"slices"
	"strconv"
	"strings"
	"testing"

	"pantry/api"
)

// The chapter, byte by byte and with its own numbers: of each byte it is asked what it may be wrong with, in the order in
// which the chapter names the errors.
type spelled struct {
	commands [][]string
	err      error
	held     int

	stands string // what the bytes stand in: nothing, a star line, a mark, a dollar line, a word, its CR, its LF, an inline line
	line   string // the line's bytes so far
	words  []string
	left   int
	size   int
	word   []byte
	sum    int
}

func spelledOf(b string) *spelled {
	s := &spelled{}
	for i := range len(b) {
		s.feed(b[i])
	}
	return s
}

func (s *spelled) feed(c byte) {
	if s.err != nil {
		return
	}
	s.held++
	switch s.stands {
	case "":
		s.line = string([]byte{c})
		if c == 42 {
			s.stands = "star"
			return
		}
		s.line = ""
		s.inline(c)
	case "inline":
		s.inline(c)
	case "mark":
		if c != 36 {
			s.wrong(ErrMark)
			return
		}
		s.stands, s.line = "dollar", "$"
	case "star", "dollar":
		s.header(c)
	case "word":
		s.word = append(s.word, c)
		if len(s.word) == s.size {
			s.stands = "CR"
		}
	case "CR":
		if c != 13 {
			s.wrong(ErrEnd)
			return
		}
		s.stands = "LF"
	case "LF":
		if c != 10 {
			s.wrong(ErrEnd)
			return
		}
		s.words = append(s.words, string(s.word))
		s.word = nil
		s.left--
		s.stands = "mark"
		if s.left == 0 {
			s.end(s.words)
		}
	}
}

func (s *spelled) wrong(err error) {
	s.err, s.held = err, 0
}

func (s *spelled) end(words []string) {
	if len(words) > 0 {
		s.commands = append(s.commands, words)
	}
	s.words, s.stands, s.line, s.held, s.sum = nil, "", "", 0, 0
}

func (s *spelled) header(c byte) {
	if c != 10 {
		s.line += string([]byte{c})
		if len(s.line) == 33 {
			s.wrong(ErrTooBig)
		}
		return
	}
	if s.line[len(s.line)-1] != 13 {
		s.wrong(ErrEnd)
		return
	}
	n, ok := spelledInt(s.line[1 : len(s.line)-1])
	if s.stands == "star" {
		if !ok || n < -1 || n > 1024 {
			s.wrong(ErrCount)
			return
		}
		s.left, s.stands = int(n), "mark"
		if n < 1 {
			s.end(nil)
		}
		return
	}
	if !ok || n < 0 || n > 1048576 {
		s.wrong(ErrLength)
		return
	}
	s.sum += int(n)
	if s.sum > 4194304 {
		s.wrong(ErrTooBig)
		return
	}
	s.size, s.stands = int(n), "word"
	if n == 0 {
		s.stands = "CR"
	}
}

func (s *spelled) inline(c byte) {
	s.stands = "inline"
	if c != 10 {
		s.line += string([]byte{c})
		if len(s.line) == 4097 {
			s.wrong(ErrTooBig)
		}
		return
	}
	line := s.line
	if line != "" && line[len(line)-1] == 13 {
		line = line[:len(line)-1]
	}
	words, err := spelledInline(line)
	if err != nil {
		s.wrong(err)
		return
	}
	s.end(words)
}

var wholeNumber = regexp.MustCompile(`\A(0|-?[1-9][0-9]{0,18})\z`)

func spelledInt(word string) (int64, bool) {
	n, ok := new(big.Int).SetString(word, 10)
	if !ok || !wholeNumber.MatchString(word) || !n.IsInt64() {
		return 0, false
	}
	return n.Int64(), true
}

var (
	doubleWord = regexp.MustCompile(`(?s)\A"((?:[^"\\]|\\.)*)"([ \t]|\z)`)
	singleWord = regexp.MustCompile(`(?s)\A'((?:[^'\\]|\\+[^'\\]|\\+')*)'([ \t]|\z)`)
	otherWord  = regexp.MustCompile(`(?s)\A[^"' \t][^ \t]*`)
	escape     = regexp.MustCompile(`(?s)\\x[0-9a-fA-F]{2}|\\.`)
)

func spelledInline(line string) ([]string, error) {
	if len(line) > 4096 {
		return nil, ErrTooBig
	}
	var words []string
	s := oneRuneAByte(line)
	for {
		s = strings.TrimLeft(s, " \t")
		if s == "" {
			return words, nil
		}
		if len(words) == 1024 {
			return nil, ErrCount
		}
		if l := doubleWord.FindStringSubmatch(s); l != nil {
			words = append(words, oneByteARune(escape.ReplaceAllStringFunc(l[1], spelledEscape)))
			s = s[len(l[1])+2:]
		} else if l := singleWord.FindStringSubmatch(s); l != nil {
			words = append(words, oneByteARune(strings.Join(strings.Split(l[1], `\'`), "'")))
			s = s[len(l[1])+2:]
		} else if word := otherWord.FindString(s); word != "" {
			words = append(words, oneByteARune(word))
			s = s[len(word):]
		} else {
			return nil, ErrQuote
		}
	}
}

func spelledEscape(s string) string {
	if len(s) == 4 {
		n, _ := strconv.ParseInt(s[2:], 16, 32)
		return string(rune(n))
	}
	switch s[1:] {
	case "n":
		return "\x0a"
	case "r":
		return "\x0d"
	case "t":
		return "\x09"
	}
	return s[1:]
}

// oneRuneAByte makes of each byte the rune of its number, for a pattern goes by runes.
func oneRuneAByte(s string) string {
	l := make([]rune, len(s))
	for i := range len(s) {
		l[i] = rune(s[i])
	}
	return string(l)
}

func oneByteARune(s string) string {
	var b []byte
	for _, r := range s {
		b = append(b, byte(r))
	}
	return string(b)
}

// cut keeps a test's words readable.
func cut(s string) string {
	if len(s) <= 100 {
		return strconv.Quote(s)
	}
	return strconv.Quote(s[:50]) + " .. " + strconv.Quote(s[len(s)-30:]) + " (" + strconv.Itoa(len(s)) + " bytes)"
}

func short(commands [][]string) string {
	s := strconv.Itoa(len(commands)) + ":"
	for i, words := range commands {
		if i == 5 {
			return s + " and so on"
		}
		s += " ("
		for j, word := range words {
			if j == 5 {
				s += " and so on, " + strconv.Itoa(len(words))
				break
			}
			s += " " + cut(word)
		}
		s += " )"
	}
	return s
}

func sameCommands(a, b [][]string) bool {
	return slices.EqualFunc(a, b, func(x, y []string) bool { return slices.Equal(x, y) })
}

// feed feeds bytes that are overwritten then, as is the room behind their end.
func feed(t *testing.T, p *Parser, b string) {
	t.Helper()
	const behind = "\r\n*1\r\n"
	whole := []byte(b + behind)
	code := p.Feed(whole[:len(b)])
	if code != api.OK {
		t.Fatalf("Feed %s: %d", cut(b), code)
	}
	if len(b) < 1<<16 && string(whole) != b+behind {
		t.Fatalf("Feed %s changed it", cut(b))
	}
	for i := range whole {
		whole[i] = '\''
	}
}

// all takes the commands that are there; a command has words.
func all(t *testing.T, p *Parser) [][]string {
	t.Helper()
	var l [][]string
	for {
		words, ok := p.Next()
		if !ok {
			if len(words) != 0 {
				t.Fatalf("Next: words, and false: %q", words)
			}
			return l
		}
		if len(words) == 0 {
			t.Fatal("Next: no words, and true")
		}
		l = append(l, words)
	}
}

// wantState holds what a parser tells beside its commands against what it must tell.
func wantState(t *testing.T, p *Parser, what string, err error, held int) {
	t.Helper()
	if p.Err() != err || p.Held() != held {
		t.Fatalf("%s: Err %v, Held %d, not %v, %d", cut(what), p.Err(), p.Held(), err, held)
	}
}

func wantCommands(t *testing.T, what string, got, want [][]string) {
	t.Helper()
	if !sameCommands(got, want) {
		t.Fatalf("%s: %s, not %s", cut(what), short(got), short(want))
	}
}

// wantAll feeds bytes at once to a new parser.
func wantAll(t *testing.T, b string, err error, held int, commands ...[]string) {
	t.Helper()
	p := New()
	feed(t, p, b)
	wantState(t, p, b, err, held)
	wantCommands(t, b, all(t, p), commands)
	wantState(t, p, b, err, held)
}

// asSpelled holds a parser against the chapter: fed all at once, and byte by byte, all being asked between.
func asSpelled(t *testing.T, b string) {
	t.Helper()
	s, p := &spelled{}, New()
	told := 0
	for i := range len(b) {
		s.feed(b[i])
		feed(t, p, b[i:i+1])
		wantState(t, p, b[:i+1], s.err, s.held)
		l := all(t, p)
		wantCommands(t, b[:i+1], l, s.commands[told:])
		wantState(t, p, b[:i+1], s.err, s.held)
		told += len(l)
	}
	wantAll(t, b, s.err, s.held, s.commands...)
}

// wantError: the bytes are wrong, and without the last one of them they are not; whatever stands behind.
func wantError(t *testing.T, b string, err error) {
	t.Helper()
	for _, ahead := range []string{"", "PING\r\n", "*2\r\n$3\r\nGET\r\n$1\r\nk\r\n", "\n*0\r\na\n"} {
		s := spelledOf(ahead)
		less := b[:len(b)-1]
		wantAll(t, ahead+less, nil, len(less), s.commands...)
		for _, behind := range []string{"", "\n", "\r\n", "PING\r\n", "\r\n*1\r\n$1\r\na\r\n", "$", strings.Repeat("a", 5000)} {
			wantAll(t, ahead+b+behind, err, 0, s.commands...)
		}
	}
	asSpelled(t, b)
	asSpelled(t, b+"\r\nPING\r\n")
}

func errs() []error {
	return []error{ErrCount, ErrLength, ErrMark, ErrEnd, ErrQuote, ErrTooBig}
}

// The errors are told apart by ==.
func TestErrorsApart(t *testing.T) {
	for i, a := range errs() {
		for j, b := range errs() {
			if a == nil || (a == b) != (i == j) || errors.Is(a, b) != (i == j) {
				t.Errorf("error %d is nil, or is error %d", i, j)
			}
		}
	}
}
