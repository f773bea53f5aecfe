package value

import (
	"math"
	"slices"

	"pantry/api"
	"pantry/deque"
	"pantry/flock"
	"pantry/rank"
	"pantry/record"
)

// Of makes the value that plain data tells.
func Of(p api.Plain, seed uint64) (*Value, api.Errno) {
	if code := refuse(p); code != api.OK {
		return nil, code
	}
	return build(p, seed), api.OK
}

// Cost tells what plain data of a value costs.
func Cost(p api.Plain) int64 {
	v, _ := Of(p, 0)
	return v.Cost()
}

// refuse tells why no value is made of plain data; OK, if one is.
func refuse(p api.Plain) api.Errno {
	switch {
	case isStray(p) || isDoubled(p) || slices.ContainsFunc(p.Ranks, hasNoScore):
		return api.ErrArg
	case isLong(p):
		return api.ErrLong
	case max(len(p.Items), len(p.Pairs), len(p.Ranks)) > api.MaxItems:
		return api.ErrFull
	}
	return api.OK
}

// isStray says whether there is no such kind, or something stands in a part that the kind has no use for.
func isStray(p api.Plain) bool {
	switch p.Kind {
	case api.KdText:
		p.Text = ""
	case api.KdList, api.KdFlock:
		p.Items = nil
	case api.KdRecord:
		p.Pairs = nil
	case api.KdRanks:
		p.Ranks = nil
	default:
		return true
	}
	return p.Text != "" || len(p.Items) > 0 || len(p.Pairs) > 0 || len(p.Ranks) > 0
}

// isDoubled says whether something stands there twice that an object has once. It counts on parts that are of no
// use being empty.
func isDoubled(p api.Plain) bool {
	return p.Kind == api.KdFlock && hasTwins(p.Items, func(item string) string { return item }) ||
		hasTwins(p.Pairs, func(e api.Pair) string { return e.Field }) ||
		hasTwins(p.Ranks, func(e api.Ranked) string { return e.Member })
}

// hasTwins says whether two of a row have one name.
func hasTwins[E any](row []E, name func(E) string) bool {
	seen := map[string]struct{}{}
	for i, e := range row {
		seen[name(e)] = struct{}{}
		if len(seen) <= i {
			return true
		}
	}
	return false
}

func hasNoScore(e api.Ranked) bool { return math.IsNaN(e.Score) }

// isLong says whether one of the texts is too long, wherever it stands.
func isLong(p api.Plain) bool {
	return isLongText(p.Text) || slices.ContainsFunc(p.Items, isLongText) ||
		slices.ContainsFunc(p.Pairs, func(e api.Pair) bool { return isLongText(e.Field) || isLongText(e.Value) }) ||
		slices.ContainsFunc(p.Ranks, func(e api.Ranked) bool { return isLongText(e.Member) })
}

func isLongText(s string) bool { return len(s) > api.MaxText }

// build makes the value of plain data that is not refused: no call in here can fail.
func build(p api.Plain, seed uint64) *Value {
	switch p.Kind {
	case api.KdText:
		return Text(p.Text)
	case api.KdList:
		d := deque.New()
		for _, item := range p.Items {
			d.Push(false, item)
		}
		return List(d)
	case api.KdRecord:
		r := record.New(seed)
		for _, e := range p.Pairs {
			r.Set(e.Field, e.Value)
		}
		return Record(r)
	case api.KdFlock:
		f := flock.New(seed)
		for _, item := range p.Items {
			f.Add(item)
		}
		return Flock(f)
	}
	r := rank.New(seed)
	for _, e := range p.Ranks {
		r.Set(e.Member, e.Score)
	}
	return Ranks(r)
}
