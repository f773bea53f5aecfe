package ontexts

import (
	"pantry/api"
	"pantry/digit"
	"pantry/patch"
	"pantry/reply"
)

// join is APPEND.
func (c command) join() api.Result {
	return c.change(func(held string, _ bool) (string, api.Reply) {
		return grown(patch.Join(held, c.words[2]))
	})
}

// getRange is GETRANGE.
func (c command) getRange() api.Result {
	start, stop, ok := c.stretch()
	if !ok {
		return refused(api.TxInt)
	}
	return c.ask(func(held string, _ bool) api.Reply {
		return reply.Bulk(patch.Slice(held, start, stop))
	})
}

// setRange is SETRANGE. The empty text covers nothing, so where it would lie does not matter, and nothing is written.
func (c command) setRange() api.Result {
	at, code := digit.Int(c.words[2])
	if code != api.OK || at < 0 {
		return refused(api.TxInt)
	}
	text := c.words[3]
	if text == "" {
		return c.ask(length)
	}
	return c.change(func(held string, _ bool) (string, api.Reply) {
		return grown(patch.Overlay(held, at, text))
	})
}

// grown is what APPEND and SETRANGE make of what patch tells them; it has nothing to refuse but what grew too long.
func grown(text string, code api.Errno) (string, api.Reply) {
	if code != api.OK {
		return "", reply.Error(api.TxLong)
	}
	return text, length(text, true)
}

// getBit is GETBIT.
func (c command) getBit() api.Result {
	at, ok := c.bitPlace()
	if !ok {
		return refused(api.TxInt)
	}
	return c.ask(func(held string, _ bool) api.Reply {
		bit, _ := patch.Bit(held, at)
		return reply.Int(int64(bit))
	})
}

// setBit is SETBIT.
func (c command) setBit() api.Result {
	at, ok := c.bitPlace()
	bit, code := digit.Int(c.words[3])
	if !ok || code != api.OK || bit < 0 || bit > 1 {
		return refused(api.TxInt)
	}
	return c.change(func(held string, _ bool) (string, api.Reply) {
		text, was, code := patch.SetBit(held, at, int(bit))
		if code != api.OK {
			return "", reply.Error(api.TxLong)
		}
		return text, reply.Int(int64(was))
	})
}

// bitPlace reads the word behind the key. It is held against its bounds here, since patch comes to see it only when
// the key was looked at.
func (c command) bitPlace() (int64, bool) {
	at, code := digit.Int(c.words[2])
	return at, code == api.OK && at >= 0 && at < api.MaxOffset
}

// countBits is BITCOUNT.
func (c command) countBits() api.Result {
	start, stop := int64(0), int64(-1)
	switch len(c.words) {
	case 2:
	case 4:
		var ok bool
		if start, stop, ok = c.stretch(); !ok {
			return refused(api.TxInt)
		}
	default:
		return refused(api.TxSyntax)
	}
	return c.ask(func(held string, _ bool) api.Reply {
		return reply.Int(int64(patch.Ones(held, start, stop)))
	})
}

// stretch reads the two words behind the key.
func (c command) stretch() (start, stop int64, ok bool) {
	start, first := digit.Int(c.words[2])
	stop, second := digit.Int(c.words[3])
	return start, stop, first == api.OK && second == api.OK
}
