package ontexts

import (
	"pantry/api"
	"pantry/reply"
)

// setNew is SETNX.
func (c command) setNew() api.Result {
	if _, there := c.space.Look(c.key()); there {
		return told(reply.Int(0))
	}
	c.write(c.key(), c.words[2])
	return c.done(reply.Int(1))
}

// getSet is GETSET.
func (c command) getSet() api.Result {
	return c.onText(func(held string, there bool) api.Result {
		c.write(c.key(), c.words[2])
		return c.done(bulk(held, there))
	})
}

// getDelete is GETDEL.
func (c command) getDelete() api.Result {
	return c.onText(func(held string, there bool) api.Result {
		if !there {
			return told(reply.Null())
		}
		c.space.Delete(c.key())
		return c.done(reply.Bulk(held))
	})
}

// getEach is MGET.
func (c command) getEach() api.Result {
	var texts []api.Reply
	for _, key := range c.words[1:] {
		v, _ := c.space.Look(key)
		texts = append(texts, bulk(v.AsText()))
	}
	return told(reply.Array(texts...))
}

// setEach is MSET.
func (c command) setEach() api.Result {
	if !c.paired() {
		return refused(api.TxSyntax)
	}
	c.writeEach()
	return c.done(reply.Simple("OK"))
}

// setEachNew is MSETNX.
func (c command) setEachNew() api.Result {
	if !c.paired() {
		return refused(api.TxSyntax)
	}
	if c.anyThere() {
		return told(reply.Int(0))
	}
	c.writeEach()
	return c.done(reply.Int(1))
}

// paired says whether each key has a text.
func (c command) paired() bool { return len(c.words)%2 == 1 }

// anyThere looks at each key, also behind one that is there: a past one goes wherever it stands.
func (c command) anyThere() bool {
	found := false
	for i := 1; i < len(c.words); i += 2 {
		_, there := c.space.Look(c.words[i])
		found = found || there
	}
	return found
}

func (c command) writeEach() {
	for i := 1; i < len(c.words); i += 2 {
		c.write(c.words[i], c.words[i+1])
	}
}
