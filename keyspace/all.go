package keyspace

import (
	"cmp"
	"maps"
	"math"
	"slices"

	"pantry/api"
	"pantry/dict"
	"pantry/scan"
)

// late is a key that is past.
type late struct {
	key   string
	entry *entry
}

// Sweep takes keys away whose deadline has come, at most so many.
func (s *Space) Sweep(most int) int {
	keys := s.pastKeys()
	keys = keys[:max(0, min(most, len(keys)))]
	for _, l := range keys {
		s.expire(l.key, l.entry)
	}
	return len(keys)
}

// pastKeys tells those whose deadline has come, in the order in which they expire.
func (s *Space) pastKeys() []late {
	if s == nil {
		return nil
	}
	var keys []late
	for key, e := range s.deadlines.Each() {
		if s.past(e) {
			keys = append(keys, late{key, e})
		}
	}
	slices.SortFunc(keys, func(a, b late) int {
		return cmp.Or(cmp.Compare(a.entry.deadline, b.entry.deadline), cmp.Compare(a.key, b.key))
	})
	return keys
}

// living tells both dictionaries as they lie without a past key. Whoever looks at all keys looks at these.
func (s *Space) living() (main, deadlines *dict.Dict[*entry]) {
	if s == nil {
		return nil, nil
	}
	s.Sweep(math.MaxInt)
	return s.main, s.deadlines
}

// Len tells how many keys there are.
func (s *Space) Len() int {
	main, _ := s.living()
	return main.Len()
}

// Keys tells all keys, rising.
func (s *Space) Keys() []string {
	main, _ := s.living()
	var keys []string
	for key := range main.Each() {
		keys = append(keys, key)
	}
	slices.Sort(keys)
	return keys
}

// Sample tells a key for a drawn number: of all keys, or of those with a deadline.
func (s *Space) Sample(all bool, r uint64) (string, bool) {
	main, deadlines := s.living()
	if all {
		return main.Sample(r)
	}
	return deadlines.Sample(r)
}

// Scan tells some keys, and the cursor with which to go on.
func (s *Space) Scan(cursor uint64, count int) (uint64, []string) {
	main, _ := s.living()
	return scan.Next(main, cursor, count)
}

// Touched tells the keys that were changed since it was asked last, and forgets them.
func (s *Space) Touched() []string {
	if s == nil {
		return nil
	}
	keys := slices.Sorted(maps.Keys(s.touched))
	clear(s.touched)
	return keys
}

// Steps tells the steps since it was asked last, and forgets them.
func (s *Space) Steps() []api.Step {
	if s == nil {
		return nil
	}
	steps := s.steps
	s.steps = nil // the caller has that memory now
	return steps
}

// Stored tells all that is stored, by rising keys.
func (s *Space) Stored() []api.Stored {
	if s == nil {
		return nil
	}
	var stored []api.Stored
	for key, e := range s.main.Each() {
		stored = append(stored, api.Stored{Key: key, Value: e.value.Plain(), Deadline: e.deadline})
	}
	slices.SortFunc(stored, func(a, b api.Stored) int { return cmp.Compare(a.Key, b.Key) })
	return stored
}

// Clear takes all keys away.
func (s *Space) Clear() {
	if s == nil {
		return
	}
	for _, key := range s.Keys() {
		s.touch(key)
	}
	s.main.Clear()
	s.deadlines.Clear()
	s.used = 0
}
