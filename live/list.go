package live

import (
	"slices"

	"lore/api"
	"lore/hold"
	"lore/text"
)

// list is facts in order (B1).
type list []api.Atom

func (f list) find(a api.Atom) (int, bool) {
	return slices.BinarySearchFunc(f, a, text.Order)
}

func (f list) has(a api.Atom) bool {
	_, there := f.find(a)
	return there
}

// turn lays an atom to the list, or takes it out, if it is there: so it takes itself back.
func (f *list) turn(a api.Atom) {
	if at, there := f.find(a); there {
		*f = slices.Delete(*f, at, at+1)
	} else {
		*f = slices.Insert(*f, at, a)
	}
}

// turned tells what the list is with a turn, and leaves it as it is.
func (f list) turned(a api.Atom) list {
	other := slices.Clone(f)
	other.turn(a)
	return other
}

// copied tells the list in new memory all through.
func (f list) copied() (l []api.Atom) {
	for _, a := range f {
		l = append(l, hold.Bare(a))
	}
	return l
}
