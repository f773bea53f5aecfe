package ontexts

import (
	"slices"

	"pantry/api"
	"pantry/keyspace"
	"pantry/reply"
	"pantry/value"
)

// command is one that is being done, of so many words as its row asks for.
type command struct {
	space *keyspace.Space
	words []string
}

// reckoning tells, of the text that a key holds, the one that it is to hold, and the reply. An error reply says that it
// is to hold none of these.
type reckoning func(held string, there bool) (string, api.Reply)

func (c command) key() string { return c.words[1] }

// onText hands on what the key holds, once it is sure that this is a text; if it is not there, the empty text.
func (c command) onText(do func(held string, there bool) api.Result) api.Result {
	v, there := c.space.Look(c.key())
	held, isText := v.AsText()
	if there && !isText {
		return refused(api.TxKind)
	}
	return do(held, there)
}

// ask tells what is reckoned of the key's text.
func (c command) ask(reckon func(held string, there bool) api.Reply) api.Result {
	return c.onText(func(held string, there bool) api.Result {
		return told(reckon(held, there))
	})
}

// change lets the key hold what is reckoned of its text.
func (c command) change(reckon reckoning) api.Result {
	return c.onText(func(held string, there bool) api.Result {
		text, answer := reckon(held, there)
		if answer.Kind == api.RpError {
			return told(answer)
		}
		c.writeOver(text)
		return c.done(answer)
	})
}

func (c command) write(key, text string) { c.space.Put(key, value.Text(text)) }

// writeOver gives the key its deadline back, since whatever is put has none.
func (c command) writeOver(text string) {
	at, mortal := c.space.Deadline(c.key())
	c.write(c.key(), text)
	if mortal {
		c.space.SetDeadline(c.key(), at)
	}
}

// done is the result of a command that does the same wherever it is done once more.
func (c command) done(answer api.Reply) api.Result {
	return api.Result{Reply: answer, Effects: c.itself()}
}

func (c command) itself() [][]string { return [][]string{slices.Clone(c.words)} }

func told(answer api.Reply) api.Result { return api.Result{Reply: answer} }

func refused(why string) api.Result { return told(reply.Error(why)) }

func bulk(text string, there bool) api.Reply {
	if !there {
		return reply.Null()
	}
	return reply.Bulk(text)
}

func length(text string, _ bool) api.Reply { return reply.Int(int64(len(text))) }
