package pool

import (
	"slices"
	"strings"

	"stowage/api"
	"stowage/erasure"
	"stowage/place"
)

// Paths tells all objects that have versions, with a prefix.
func (p *Pool) Paths(prefix string) ([]string, api.Errno) {
	lists, err := p.lists((*erasure.Set).Paths)
	if err != api.OK {
		return nil, err
	}
	other := func(path string) bool { return !strings.HasPrefix(path, prefix) }
	return slices.DeleteFunc(place.Merge(lists), other), api.OK
}

// HealAll puts right what drives have of all objects, each on the set that told of it.
func (p *Pool) HealAll() (int, api.Errno) {
	lists, err := p.lists((*erasure.Set).All)
	if err != api.OK {
		return 0, err
	}
	laid := 0
	for n, s := range p.each() {
		for _, path := range lists[n] {
			files, err := s.Heal(path)
			// Of what is no journal on any drive there is nothing to heal.
			if err != api.OK && err != api.ErrMissing {
				return 0, err
			}
			laid += files
		}
	}
	return laid, api.OK
}

// lists tells which paths each set tells of; the first set's error ends it.
func (p *Pool) lists(tell func(s *erasure.Set) ([]string, api.Errno)) ([][]string, api.Errno) {
	if !p.made() {
		return nil, api.ErrNil
	}
	lists := make([][]string, len(p.sets))
	for n, s := range p.each() {
		l, err := tell(s)
		if err != api.OK {
			return nil, err
		}
		lists[n] = l
	}
	return lists, api.OK
}
