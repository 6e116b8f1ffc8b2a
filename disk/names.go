package disk

import "spoor/api"

// nameStep is a step of the names: created, renamed or removed.
type nameStep interface {
	stepOfNames()
}

type created struct {
	name string
	file int // its number
}

type renamed struct {
	from, to string
}

type removed struct {
	name string
}

func (created) stepOfNames() {}
func (renamed) stepOfNames() {}
func (removed) stepOfNames() {}

// doName does a step on names, and tells the number of the file that has no name any more by it, if there is one.
func doName(names map[string]int, s nameStep) (int, bool) {
	switch s := s.(type) {
	case created:
		names[s.name] = s.file
	case renamed:
		number, lost := names[s.to]
		names[s.to] = names[s.from]
		delete(names, s.from)
		return number, lost
	case removed:
		number, lost := names[s.name]
		delete(names, s.name)
		return number, lost
	}
	return 0, false
}

// mayBe tells whether a file may have that name.
func mayBe(name string) bool {
	if len(name) < 1 || len(name) > api.MaxFile {
		return false
	}
	for i := range len(name) {
		if !mayStand(name[i]) {
			return false
		}
	}
	return true
}

// mayStand tells whether a byte may stand in a name.
func mayStand(c byte) bool {
	return 'a' <= c && c <= 'z' || '0' <= c && c <= '9' || c == '-' || c == '.'
}
