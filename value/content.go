package value

import (
	"pantry/api"
	"pantry/deque"
	"pantry/flock"
	"pantry/rank"
	"pantry/record"
)

// content is what a value may hold.
type content interface {
	kind() int
	Cost() int64
	another() content // its own changes are not seen in the other one
	plain() api.Plain
}

// counted is content that may be empty. A text is none, also one without bytes.
type counted interface{ Len() int }

// The kinds of content. What is made of an object tells the object's own Cost and Len.
type (
	nothing struct{}
	text    string
	list    struct{ *deque.Deque }
	fields  struct{ *record.Record }
	members struct{ *flock.Flock }
	ranked  struct{ *rank.Ranks }
)

func (nothing) kind() int          { return api.KdNone }
func (nothing) Cost() int64        { return 0 }
func (n nothing) another() content { return n }
func (nothing) plain() api.Plain   { return api.Plain{} }

func (text) kind() int          { return api.KdText }
func (s text) Cost() int64      { return int64(len(s)) }
func (s text) another() content { return s }
func (s text) plain() api.Plain { return api.Plain{Kind: api.KdText, Text: string(s)} }

func (list) kind() int          { return api.KdList }
func (l list) another() content { return list{l.Copy()} }
func (l list) plain() api.Plain {
	items := make([]string, 0, l.Len())
	for _, s := range l.Each() {
		items = append(items, s)
	}
	return api.Plain{Kind: api.KdList, Items: items}
}

func (fields) kind() int          { return api.KdRecord }
func (f fields) another() content { return fields{f.Copy()} }
func (f fields) plain() api.Plain { return api.Plain{Kind: api.KdRecord, Pairs: f.Pairs()} }

func (members) kind() int          { return api.KdFlock }
func (m members) another() content { return members{m.Copy()} }
func (m members) plain() api.Plain { return api.Plain{Kind: api.KdFlock, Items: m.Members()} }

func (ranked) kind() int          { return api.KdRanks }
func (r ranked) another() content { return ranked{r.Copy()} }
func (r ranked) plain() api.Plain { return api.Plain{Kind: api.KdRanks, Ranks: r.Range(0, r.Len())} }
