package desk

import (
	"slices"

	"moniker/api"
)

// stack holds what was put there last, MaxBack of it at most: with one more the oldest is forgotten.
type stack[T any] struct{ items []T }

func (s *stack[T]) push(item T) {
	if len(s.items) == api.MaxBack {
		s.items = slices.Delete(s.items, 0, 1)
	}
	s.items = append(s.items, item)
}

// pop takes the last one; false: there is none.
func (s *stack[T]) pop() (T, bool) {
	var none T
	if len(s.items) == 0 {
		return none, false
	}
	top := len(s.items) - 1
	item := s.items[top]
	s.items[top] = none // so that nothing keeps it
	s.items = s.items[:top]
	return item, true
}
