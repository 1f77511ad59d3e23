package search

import (
	"slices"

	"gnomon/api"
	"gnomon/dbm"
	"gnomon/passed"
)

// none is the number of no node, and of no part.
const none = -1

// store is the nodes of a search: what passed keeps of them, and how each was come to. A search has this one inside, and not passed's own: else whoever has a search could put zones into it, and take them.
type store struct {
	zones   *passed.Store
	origins []origin
}

// origin is where a node is, and how it was come to.
type origin struct {
	state  api.State
	parent int
	move   api.Move
}

func storeOf(last bool) store { return store{zones: passed.New(last)} }

// put stores a node, unless its zone is covered.
func (s *store) put(key []byte, o origin, z *dbm.Zone) api.Errno {
	_, covered, _, err := s.zones.Put(key, z)
	if err == api.OK && !covered {
		s.origins = append(s.origins, o)
	}
	return err
}

// take takes the next node, where one waits.
func (s *store) take() int {
	i, _ := s.zones.Take()
	return i
}

// node is one that was stored, with lists of its own.
func (s *store) node(i int) Node {
	o := s.origins[i]
	z, _ := s.zones.Zone(i)
	return Node{
		State:  api.State{Locs: slices.Clone(o.state.Locs), Vars: slices.Clone(o.state.Vars)},
		Zone:   z,
		Parent: o.parent,
		Move:   o.move,
		Popped: s.zones.Taken(i),
		Gone:   s.zones.Gone(i),
	}
}

// fork is another one with the same nodes. What is told of where a node is never changes: so both may have it.
func (s *store) fork() store {
	return store{zones: s.zones.Fork(), origins: slices.Clone(s.origins)}
}
