package request

import (
	"strconv"
	"strings"

	"pantry/api"
)

// blanks part the words of a line.
const blanks = " \t"

// Inline tells the words of a line.
func Inline(line string) ([]string, error) {
	if len(line) > api.MaxInline {
		return nil, ErrTooBig
	}
	var words []string
	for rest := strings.TrimLeft(line, blanks); rest != ""; rest = strings.TrimLeft(rest, blanks) {
		if len(words) == api.MaxWords {
			return nil, ErrCount
		}
		word, behind, err := firstWord(rest)
		if err != nil {
			return nil, err
		}
		// As a piece of the line, a short word that is stored for long would keep all of it.
		words = append(words, strings.Clone(word))
		rest = behind
	}
	return words, nil
}

// firstWord tells the word with which a text begins, and what stands behind it.
func firstWord(s string) (string, string, error) {
	var word, behind string
	var ended bool
	switch s[0] {
	case '"':
		word, behind, ended = double(s[1:])
	case '\'':
		word, behind, ended = single(s[1:])
	default:
		word = upToBlank(s)
		return word, s[len(word):], nil
	}
	if !ended || upToBlank(behind) != "" {
		return "", "", ErrQuote
	}
	return word, behind, nil
}

func upToBlank(s string) string {
	at := strings.IndexAny(s, blanks)
	if at < 0 {
		return s
	}
	return s[:at]
}

// double reads what stands behind a ", up to the next one that no backslash takes: the word, and what stands behind both.
func double(s string) (string, string, bool) {
	var word []byte
	for s != "" && s[0] != '"' {
		c, size := sign(s)
		word = append(word, c)
		s = s[size:]
	}
	behind, ended := strings.CutPrefix(s, `"`)
	return string(word), behind, ended
}

// sign tells the byte that a text's first bytes say between two ", and how many they are.
func sign(s string) (byte, int) {
	if s[0] != '\\' || len(s) == 1 {
		return s[0], 1
	}
	switch s[1] {
	case 'n':
		return '\n', 2
	case 'r':
		return '\r', 2
	case 't':
		return '\t', 2
	case 'x':
		if c, ok := hex(s[2:]); ok {
			return c, 4
		}
	}
	return s[1], 2
}

func hex(s string) (byte, bool) {
	if len(s) < 2 {
		return 0, false
	}
	n, err := strconv.ParseUint(s[:2], 16, 8)
	return byte(n), err == nil
}

// single reads what stands behind a ', up to the next one that has no backslash right ahead of it.
func single(s string) (string, string, bool) {
	for i := range len(s) {
		if s[i] == '\'' && !strings.HasSuffix(s[:i], `\`) {
			return strings.ReplaceAll(s[:i], `\'`, `'`), s[i+1:], true
		}
	}
	return "", "", false
}
