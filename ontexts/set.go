package ontexts

import (
	"pantry/api"
	"pantry/digit"
	"pantry/reply"
	"pantry/verbs"
)

// The options of SET, as bits.
const (
	optNew     = 1 << iota // NX
	optOver                // XX
	optGet                 // GET
	optKeep                // KEEPTTL
	optIn                  // EX: in so many seconds
	optInMilli             // PX: in so many milliseconds
	optAt                  // EXAT: at that second
	optAtMilli             // PXAT: at that millisecond

	optTimed = optIn | optInMilli | optAt | optAtMilli
)

// options are what stands behind SET's text: the bits that are set, and the time, if one of optTimed is.
type options struct {
	bits int
	time int64
}

// has says whether one of these bits is set.
func (o options) has(bits int) bool { return o.bits&bits != 0 }

// set is SET.
func (c command) set() api.Result {
	o, wrong := c.options()
	if wrong != "" {
		return refused(wrong)
	}
	v, there := c.space.Look(c.key())
	held, isText := v.AsText()
	if o.has(optGet) && there && !isText {
		return refused(api.TxKind)
	}
	barred := o.has(optNew) && there || o.has(optOver) && !there
	answer := reply.Simple("OK")
	switch {
	case o.has(optGet):
		answer = bulk(held, there)
	case barred:
		answer = reply.Null()
	}
	if barred {
		return told(answer)
	}
	return api.Result{Reply: answer, Effects: c.store(o, there)}
}

// store does what SET came for, and tells its effects: they name times, as those do not hang on the clock.
func (c command) store(o options, there bool) [][]string {
	key, text := c.key(), c.words[2]
	switch {
	case o.has(optTimed) && o.time <= c.space.Now():
		if !there {
			return nil
		}
		c.space.Delete(key)
		return [][]string{{"DEL", key}}
	case o.has(optTimed):
		c.write(key, text)
		c.space.SetDeadline(key, o.time)
		return [][]string{{"SET", key, text, "PXAT", digit.Text(o.time)}}
	case o.has(optKeep):
		c.writeOver(text)
	default:
		c.write(key, text)
	}
	return c.itself()
}

// options reads the words behind the text; wrong is what is wrong with the first that is.
func (c command) options() (o options, wrong string) {
	for rest := c.words[3:]; len(rest) > 0; rest = rest[1:] {
		bit := option(rest[0])
		if bit == 0 || o.has(rivals(bit)) {
			return options{}, api.TxSyntax
		}
		o.bits |= bit
		if bit&optTimed == 0 {
			continue
		}
		rest = rest[1:]
		if len(rest) == 0 {
			return options{}, api.TxSyntax
		}
		if o.time, wrong = c.time(bit, rest[0]); wrong != "" {
			return options{}, wrong
		}
	}
	return o, ""
}

// option tells the bit of a word; 0, if it is none.
func option(word string) int {
	switch verbs.Upper(word) {
	case "NX":
		return optNew
	case "XX":
		return optOver
	case "GET":
		return optGet
	case "KEEPTTL":
		return optKeep
	case "EX":
		return optIn
	case "PX":
		return optInMilli
	case "EXAT":
		return optAt
	case "PXAT":
		return optAtMilli
	}
	return 0
}

// rivals tells which options may not stand beside one, itself among them.
func rivals(bit int) int {
	for _, group := range [...]int{optNew | optOver, optTimed | optKeep} {
		if group&bit != 0 {
			return group
		}
	}
	return bit
}

// time tells the time that a number's word means behind an option. The number is held against what is left up to the
// last time, since the time itself may be beyond 64 bits.
func (c command) time(bit int, word string) (at int64, wrong string) {
	n, code := digit.Int(word)
	if code != api.OK {
		return 0, api.TxInt
	}
	from, unit := int64(0), int64(1)
	if bit&(optIn|optInMilli) != 0 {
		from = c.space.Now()
	}
	if bit&(optIn|optAt) != 0 {
		unit = 1000
	}
	if n <= 0 || n > (api.MaxTime-from)/unit {
		return 0, api.TxExpire
	}
	return from + n*unit, ""
}
