package reply

import (
	"bytes"
	"strings"

	"pantry/api"
	"pantry/digit"
)

// Decode reads the reply with which bytes begin, and tells how many bytes it has.
func Decode(b []byte) (api.Reply, int, api.Errno) {
	s := source{b}
	r, code := s.reply(0)
	size := len(b) - len(s.rest)
	if code == api.OK && size > api.MaxBytes {
		code = api.ErrLong
	}
	if code != api.OK {
		return api.Reply{}, 0, code
	}
	return r, size, api.OK
}

// source is the bytes that were not read yet.
type source struct {
	rest []byte
}

// reply reads a reply that lies within so many arrays.
func (s *source) reply(within int) (api.Reply, api.Errno) {
	kind, code := s.kind()
	if code != api.OK {
		return api.Reply{}, code
	}
	line, code := s.line()
	if code != api.OK {
		return api.Reply{}, code
	}
	switch kind {
	case api.RpInt:
		return ofInt(line)
	case api.RpBulk:
		return s.bulk(line)
	case api.RpArray:
		return s.array(line, within)
	}
	return api.Reply{Kind: kind, Text: line}, api.OK
}

// kind reads the first byte; of the two Kinds that share one it tells that which is no null.
func (s *source) kind() (int, api.Errno) {
	if len(s.rest) == 0 {
		return 0, api.ErrShort
	}
	at := strings.IndexByte(marks, s.rest[0])
	if at < 0 {
		return 0, api.ErrReply
	}
	s.rest = s.rest[1:]
	return at + 1, api.OK
}

func (s *source) line() (string, api.Errno) {
	at := bytes.IndexAny(s.rest, lineEnd)
	if at < 0 {
		return "", api.ErrShort
	}
	behind := min(at+len(lineEnd), len(s.rest))
	switch string(s.rest[at:behind]) {
	case lineEnd:
		return s.take(at), api.OK
	case "\r":
		return "", api.ErrShort
	}
	return "", api.ErrReply
}

func (s *source) bulk(line string) (api.Reply, api.Errno) {
	if line == none {
		return Null(), api.OK
	}
	n, code := ofCount(line)
	if code != api.OK {
		return api.Reply{}, code
	}
	if len(s.rest) < n+len(lineEnd) {
		return api.Reply{}, api.ErrShort
	}
	if !bytes.HasPrefix(s.rest[n:], []byte(lineEnd)) {
		return api.Reply{}, api.ErrReply
	}
	return Bulk(s.take(n)), api.OK
}

// array makes no room ahead of reading: there may be far fewer replies than the line says.
func (s *source) array(line string, within int) (api.Reply, api.Errno) {
	if line == none {
		return api.Reply{Kind: api.RpNullArray}, api.OK
	}
	n, code := ofCount(line)
	if code != api.OK {
		return api.Reply{}, code
	}
	if within >= api.MaxDepth {
		return api.Reply{}, api.ErrDeep
	}
	var l []api.Reply
	for range n {
		r, code := s.reply(within + 1)
		if code != api.OK {
			return api.Reply{}, code
		}
		l = append(l, r)
	}
	return api.Reply{Kind: api.RpArray, List: l}, api.OK
}

// take reads so many bytes, and the end of the line behind them.
func (s *source) take(n int) string {
	text := string(s.rest[:n])
	s.rest = s.rest[n+len(lineEnd):]
	return text
}

func ofInt(line string) (api.Reply, api.Errno) {
	n, code := digit.Int(line)
	if code != api.OK {
		return api.Reply{}, api.ErrReply
	}
	return Int(n), api.OK
}

// ofCount reads how many bytes or replies there are.
func ofCount(line string) (int, api.Errno) {
	n, code := digit.Int(line)
	if code != api.OK || n < 0 {
		return 0, api.ErrReply
	}
	if n > api.MaxBytes {
		return 0, api.ErrLong
	}
	return int(n), api.OK
}
