package request

import (
	"bytes"
	"strings"

	"pantry/api"
	"pantry/digit"
)

const (
	countMark  = '*'
	lengthMark = '$'
	lineEnd    = "\r\n"
	// maxHeader is how many bytes a header line may have ahead of its LF.
	maxHeader = 32
)

// wordsOf tells the words of the request with which bytes begin, and how many bytes it has. It is there whole, and nothing
// is wrong with it: that was looked at when it came.
func wordsOf(b []byte) ([]string, int) {
	if b[0] != countMark {
		words, size, _ := inline(b)
		return words, size
	}
	n, at, _ := count(b)
	words := make([]string, 0, max(n, 0))
	for range n {
		long, size, _ := length(b[at:])
		from := at + size
		to := from + long
		words = append(words, string(b[from:to:to]))
		at = to + len(lineEnd)
	}
	return words, at
}

// count reads the header line of a request: how many words it has, and how many bytes the line has; 0, if it is not there.
func count(b []byte) (int, int, error) {
	return header(b, -1, api.MaxWords, ErrCount)
}

// length reads the header line of a word.
func length(b []byte) (int, int, error) {
	if b[0] != lengthMark {
		return 0, 0, ErrMark
	}
	return header(b, 0, api.MaxText, ErrLength)
}

func header(b []byte, least, most int64, wrong error) (int, int, error) {
	l, err := line(b, maxHeader)
	if err != nil || len(l) == 0 {
		return 0, 0, err
	}
	word, ended := bytes.CutSuffix(l[1:], []byte(lineEnd))
	if !ended {
		return 0, 0, ErrEnd
	}
	n, code := digit.Int(string(word))
	if code != api.OK || n < least || n > most {
		return 0, 0, wrong
	}
	return int(n), len(l), nil
}

// inline reads a line that a person typed: its words, and how many bytes it has; 0, if it is not there.
func inline(b []byte) ([]string, int, error) {
	l, err := line(b, api.MaxInline)
	if err != nil || len(l) == 0 {
		return nil, 0, err
	}
	text := strings.TrimSuffix(string(l[:len(l)-1]), "\r")
	words, err := Inline(text)
	return words, len(l), err
}

// line tells the line with which bytes begin, up to and with its LF; none, if it is not there.
func line(b []byte, most int) ([]byte, error) {
	at := bytes.IndexByte(b[:min(most+1, len(b))], '\n')
	if at < 0 && len(b) > most {
		return nil, ErrTooBig
	}
	behind := at + 1
	return b[:behind:behind], nil
}
