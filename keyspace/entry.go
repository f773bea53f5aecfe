package keyspace

import (
	"pantry/api"
	"pantry/value"
)

// What a key costs beside its bytes and its value, and what its deadline costs.
const (
	keyCost      = 48
	deadlineCost = 16
)

// entry is what a stored key has.
type entry struct {
	value    *value.Value
	stamp    uint64
	deadline int64 // 0: none, since each one is above the clock when it is set
	cost     int64 // of the key and all that it has; the value's part is that of the last reckoning
}

func (e *entry) mortal() bool { return e.deadline != 0 }

// meet tells what a key has that is there. Whoever asks for one key asks here, so that nobody is told of a past one.
func (s *Space) meet(key string) *entry {
	if s == nil {
		return nil
	}
	e, stored := s.main.Get(key)
	if stored && s.past(e) {
		s.expire(key, e)
		return nil
	}
	return e
}

func (s *Space) past(e *entry) bool { return e.mortal() && e.deadline <= s.now }

func (s *Space) expire(key string, e *entry) {
	s.drop(key, e)
	s.step(api.StExpired, key)
}

// hold lets a key hold a value; e is what it has if it is there.
func (s *Space) hold(key string, e *entry, v *value.Value) {
	if e == nil {
		e = &entry{}
	}
	if e.mortal() {
		s.unlimit(key, e)
	}
	e.value = v
	s.main.Set(key, e)
	s.reckon(key, e)
	s.use(e)
	s.touch(key)
}

// drop takes a stored key away; none goes without being touched.
func (s *Space) drop(key string, e *entry) {
	s.main.Delete(key)
	if e.mortal() {
		s.deadlines.Delete(key)
	}
	s.charge(e, 0)
	s.touch(key)
}

func (s *Space) limit(key string, e *entry, at int64) {
	if !e.mortal() {
		s.charge(e, e.cost+deadlineCost)
	}
	e.deadline = at
	s.deadlines.Set(key, e)
}

func (s *Space) unlimit(key string, e *entry) {
	s.charge(e, e.cost-deadlineCost)
	e.deadline = 0
	s.deadlines.Delete(key)
}

func (s *Space) reckon(key string, e *entry) {
	cost := keyCost + int64(len(key)) + e.value.Cost()
	if e.mortal() {
		cost += deadlineCost
	}
	s.charge(e, cost)
}

// charge keeps the sum of all costs, so that it need not be added up whenever somebody asks whether there is room.
func (s *Space) charge(e *entry, cost int64) {
	s.used += cost - e.cost
	e.cost = cost
}

func (s *Space) use(e *entry) {
	s.uses++
	e.stamp = s.uses
}

func (s *Space) touch(key string) { s.touched[key] = struct{}{} }

func (s *Space) step(kind int, key string) {
	s.steps = append(s.steps, api.Step{Kind: kind, Key: key})
}
