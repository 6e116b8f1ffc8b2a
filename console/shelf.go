package console

import (
	"maps"
	"slices"

	"spoor/api"
)

// shelf has things by their names, as many as there is room for.
type shelf[T any] map[string]T

// get is the thing of a name that must be there.
func (s shelf[T]) get(name string) T {
	x, there := s[name]
	if !there {
		giveUp(api.ErrConsoleName)
	}
	return x
}

// all are the things of names that must be there.
func (s shelf[T]) all(names []string) []T {
	var l []T
	for _, name := range names {
		l = append(l, s.get(name))
	}
	return l
}

// room gives up where a thing of that name would be one too many.
func (s shelf[T]) room(name string) {
	if _, there := s[name]; !there && len(s) >= api.MaxThings {
		giveUp(api.ErrConsoleName)
	}
}

func (s shelf[T]) put(name string, x T) {
	s.room(name)
	s[name] = x
}

// told is the names, rising, each with a blank ahead.
func (s shelf[T]) told() string {
	text := ""
	for _, name := range slices.Sorted(maps.Keys(s)) {
		text += " " + name
	}
	return text
}

// names tells which things there are.
func (c *Console) names(*line) act {
	return func() string { return "spans" + c.spans.told() + "; batches" + c.batches.told() }
}
