package evict

import (
	"pantry/api"
	"pantry/keyspace"
)

// ranking tells a key's rank, and whether the key may be evicted at all.
type ranking func(key string) (uint64, bool)

// way is what sets the policies apart by which keys go.
type way struct {
	all  bool // all keys are sampled, not only those with a deadline
	rank ranking
}

// wayOf tells the way of a space's policy; false, if none of its keys may ever be evicted.
func wayOf(s *keyspace.Space) (way, bool) {
	switch s.Config().Policy {
	case api.PoLru:
		return way{all: true, rank: byUse(s)}, true
	case api.PoTtl:
		return way{all: false, rank: byDeadline(s)}, true
	}
	return way{}, false
}

// byUse ranks all keys: the one comes soonest that was not used for longest.
func byUse(s *keyspace.Space) ranking {
	return func(key string) (uint64, bool) { return s.Stamp(key) }
}

// byDeadline ranks the keys with a deadline: the one comes soonest whose deadline is nearest.
func byDeadline(s *keyspace.Space) ranking {
	return func(key string) (uint64, bool) {
		at, ok := s.Deadline(key)
		return uint64(at), ok // deadlines are above 0, and stand in the same order without a sign
	}
}
