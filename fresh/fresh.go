// Package fresh has copies that share no memory with what they are of. The
// layers that tell or keep what they were handed share it.
package fresh

import (
	"pointsman/api"
)

// Message tells the same message in memory of its own.
func Message(m api.Message) api.Message {
	return api.Message{
		Head:      m.Head,
		Questions: each(m.Questions, question),
		Answers:   each(m.Answers, record),
		Authority: each(m.Authority, record),
		More:      each(m.More, record),
	}
}

// Match tells the same node of a rule in memory of its own.
func Match(m api.Match) api.Match {
	m.Name = list(m.Name)
	m.Addr = list(m.Addr)
	return m
}

func question(q api.Question) api.Question {
	q.Name = list(q.Name)
	return q
}

func record(r api.Record) api.Record {
	r.Name = list(r.Name)
	r.Data = list(r.Data)
	return r
}

// list tells the same list of what has no list within.
func list[T byte | string](of []T) []T { return append([]T(nil), of...) }

// each tells a list of copies.
func each[T any](of []T, copied func(T) T) []T {
	told := append([]T(nil), of...)
	for i := range told {
		told[i] = copied(told[i])
	}
	return told
}
