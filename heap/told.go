package heap

import "collector/api"

// Walk: the first addresses of all objects, rising, in a fresh list.
func (h *Heap) Walk() []int {
	list := numbersOf(h.begins)
	for i := range list {
		list[i] = addressOf(list[i])
	}
	return list
}

// Black: the pages on which no new objects with addresses are laid, rising, in a fresh list.
func (h *Heap) Black() []int {
	return numbersOf(h.black)
}

// numbersOf: which flags are set, rising, in a fresh list. It is copied, since append may leave spare room (P13).
func numbersOf(flags []bool) []int {
	var found []int
	for i, set := range flags {
		if set {
			found = append(found, i)
		}
	}
	list := make([]int, len(found))
	copy(list, found)
	return list
}

// Counts: what there is, and what there was.
func (h *Heap) Counts() api.Counts {
	c := api.Counts{Collections: h.collections, Again: h.again}
	for w, begins := range h.begins {
		if begins {
			c.Objects++
			c.Words += h.pages[w/api.PageWords].size
		}
	}
	for _, g := range h.pages {
		if g.size != 0 {
			c.Used++
		}
		if g.unswept {
			c.Unswept++
		}
	}
	return c
}
