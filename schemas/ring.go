package schemas

import "warden/api"

// mostPlaces is how many relations there can be, of all types together.
const mostPlaces = api.MaxTypes * api.MaxRels

// arrows has at [i][j] whether relation i leads to relation j.
type arrows [mostPlaces][mostPlaces]bool

// place is a relation, with the names by which others hang on it.
type place struct {
	typeName, name string
	of             *relations
	relation       Relation
}

// rank gives every relation its rank; false if they can have none, because some relation hangs against its will on one from which arrows of any kind lead back to it.
func (s *Schema) rank() bool {
	places := s.places()
	hangs, against := hanging(places)
	hangs.close()
	if hangs.leadBack(against) {
		return false
	}
	for i, p := range places {
		p.relation.Rank = hangs.reach(i)
		p.of.Put(p.name, p.relation)
	}
	return true
}

func (s *Schema) places() []place {
	var places []place
	for typeName, of := range s.types.All() {
		for name, relation := range of.All() {
			places = append(places, place{typeName, name, of, relation})
		}
	}
	return places
}

// hanging has the arrows of what hangs on what, and of these the ones that are against their will.
func hanging(places []place) (hangs, against arrows) {
	for i, from := range places {
		from.relation.Expression.eachTerm(func(term Expression, unwilling bool) {
			for j, to := range places {
				if leads(term, from, to) {
					hangs[i][j] = true
					against[i][j] = against[i][j] || unwilling
				}
			}
		})
	}
	return hangs, against
}

// leads tells whether a term in one relation's expression makes it hang on another one.
func leads(term Expression, from, to place) bool {
	switch term.Kind {
	case Self:
		return to.relation.IsSet
	case Other:
		return to.typeName == from.typeName && to.name == term.Name
	case Via:
		return to.name == term.Then
	}
	return false
}

// close adds an arrow wherever several of them lead, one behind the other.
func (a *arrows) close() {
	for middle := range a {
		for from := range a {
			for to := range a {
				if a[from][middle] && a[middle][to] {
					a[from][to] = true
				}
			}
		}
	}
}

// leadBack tells whether these arrows lead from the end of one of the others back to its beginning.
func (a *arrows) leadBack(others arrows) bool {
	for from := range others {
		for to, there := range others[from] {
			if there && a[to][from] {
				return true
			}
		}
	}
	return false
}

// reach is how many relations arrows lead to from one, with itself. If one leads to another it reaches all that this one does: as many if they are in one ring, and else itself besides.
func (a *arrows) reach(from int) int {
	count := 1
	for to, there := range a[from] {
		if there && to != from {
			count++
		}
	}
	return count
}
