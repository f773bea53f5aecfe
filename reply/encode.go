package reply

import (
	"strings"

	"pantry/api"
	"pantry/digit"
)

const (
	// marks are the bytes with which replies begin, in the order of their Kinds, of which the first is 1.
	marks   = "+-:$$**"
	lineEnd = "\r\n"
	// none stands where else it says how many.
	none = "-1"
)

// Encode writes a reply.
func Encode(r api.Reply) ([]byte, api.Errno) {
	if code := check(r); code != api.OK {
		return nil, code
	}
	b := put(nil, r)
	if len(b) > api.MaxBytes {
		return nil, api.ErrLong
	}
	return b, api.OK
}

// Request writes a command as it is sent.
func Request(words []string) []byte {
	b := []byte{marks[api.RpArray-1]}
	b = putLine(b, digit.Text(int64(len(words))))
	for _, word := range words {
		b = put(b, Bulk(word))
	}
	return b
}

// put writes a reply that is as it should be.
func put(b []byte, r api.Reply) []byte {
	b = append(b, marks[r.Kind-1])
	switch r.Kind {
	case api.RpInt:
		b = putLine(b, digit.Text(r.Int))
	case api.RpNull, api.RpNullArray:
		b = putLine(b, none)
	case api.RpArray:
		b = putLine(b, digit.Text(int64(len(r.List))))
		b = putAll(b, r.List)
	case api.RpBulk:
		b = putLine(b, digit.Text(int64(len(r.Text))))
		fallthrough // behind how many bytes they are, they go out as those of a line do
	case api.RpSimple, api.RpError:
		b = putLine(b, r.Text)
	}
	return b
}

// putAll leaves off once it is too long: lists that stand in many places may be more replies than could ever be written.
func putAll(b []byte, l []api.Reply) []byte {
	for _, r := range l {
		if len(b) > api.MaxBytes {
			break
		}
		b = put(b, r)
	}
	return b
}

func putLine(b []byte, s string) []byte {
	b = append(b, s...)
	return append(b, lineEnd...)
}

// check says what is wrong with a reply, but for its length. It goes down depth by depth, since a list may stand in many
// places, even within itself: so it is gone through once at each depth, and the going ends.
func check(r api.Reply) api.Errno {
	code := api.OK
	met := map[spot]int{}
	row := [][]api.Reply{{r}}
	for depth := 0; len(row) > 0; depth++ {
		var below [][]api.Reply
		for _, l := range row {
			for _, in := range l {
				if !wellMade(in) {
					return api.ErrReply
				}
				if in.Kind == api.RpArray && depth >= api.MaxDepth {
					code = api.ErrDeep
				}
				if meet(met, in.List, depth+1) {
					below = append(below, in.List)
				}
			}
		}
		row = below
	}
	return code
}

// spot is where a list lies: two lists at one spot are the same.
type spot struct {
	first *api.Reply
	n     int
}

// meet notes the depth of a list, and says whether it was not met there before. Depths beyond MaxDepth are one to it: how
// deep a list lies matters no more then.
func meet(met map[spot]int, l []api.Reply, depth int) bool {
	if len(l) == 0 {
		return false
	}
	at := spot{&l[0], len(l)}
	depth = min(depth, api.MaxDepth)
	if met[at] == depth {
		return false
	}
	met[at] = depth
	return true
}

// wellMade looks at a reply alone, not at those within it.
func wellMade(r api.Reply) bool {
	noText, noInt, noList := r.Text == "", r.Int == 0, len(r.List) == 0
	switch r.Kind {
	case api.RpSimple, api.RpError:
		return noInt && noList && !strings.ContainsAny(r.Text, lineEnd)
	case api.RpInt:
		return noText && noList
	case api.RpBulk:
		return noInt && noList
	case api.RpArray:
		return noText && noInt
	case api.RpNull, api.RpNullArray:
		return noText && noInt && noList
	}
	return false
}
