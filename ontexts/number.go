package ontexts

import (
	"pantry/api"
	"pantry/digit"
	"pantry/reply"
	"pantry/score"
)

// count is INCR and its like: sum says what becomes of the key's number and the one that the word means.
func (c command) count(word string, sum func(a, b int64) (int64, api.Errno)) api.Result {
	by, code := digit.Int(word)
	if code != api.OK {
		return refused(api.TxInt)
	}
	return c.change(func(held string, there bool) (string, api.Reply) {
		n, code := digit.Int(orNought(held, there))
		if code != api.OK {
			return "", reply.Error(api.TxInt)
		}
		n, code = sum(n, by)
		if code != api.OK {
			return "", reply.Error(api.TxOver)
		}
		return digit.Text(n), reply.Int(n)
	})
}

// countFloat is INCRBYFLOAT.
func (c command) countFloat() api.Result {
	by, code := score.Parse(c.words[2])
	if code != api.OK {
		return refused(api.TxFloat)
	}
	return c.change(func(held string, there bool) (string, api.Reply) {
		x, code := score.Parse(orNought(held, there))
		if code != api.OK {
			return "", reply.Error(api.TxFloat)
		}
		x, code = score.Add(x, by)
		if code != api.OK {
			return "", reply.Error(api.TxFloatOut)
		}
		word := score.Print(x)
		return word, reply.Bulk(word)
	})
}

// orNought is for those that count: to them a key that is not there is no empty text.
func orNought(held string, there bool) string {
	if !there {
		return "0"
	}
	return held
}

// less tells a less b. It may have wrapped round just if b on top of it does not lead back; b's opposite is not asked,
// since -2^63 has none.
func less(a, b int64) (int64, api.Errno) {
	n := a - b
	if _, code := digit.Add(n, b); code != api.OK {
		return 0, code
	}
	return n, api.OK
}
