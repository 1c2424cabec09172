package heap

import "collector/api"

// findRoom: what roomFor answers, behind a collection if one is due by trig or there is no room without (P9). One is enough: a second in a row would clear nothing more away.
func (h *Heap) findRoom(size int, atomic bool) int {
	due := h.trig != 0 && h.since+size > h.trig
	if !due {
		w := h.roomFor(size, atomic)
		if w != none {
			return w
		}
	}
	h.Collect()
	return h.roomFor(size, atomic)
}

// roomFor: the word at which an object of that size and kind can be laid, or none. A shared page goes ahead of one without objects, and what is lower ahead of what is higher.
func (h *Heap) roomFor(size int, atomic bool) int {
	if size <= api.Small {
		w := h.sharedRoom(size, atomic)
		if w != none {
			return w
		}
	}
	return h.emptyRoom(pagesFor(size), atomic)
}

// sharedRoom: the lowest free place on a page with objects of that size and kind, or none.
func (h *Heap) sharedRoom(size int, atomic bool) int {
	for p, g := range h.pages {
		if g.size != size || g.atomic != atomic || !h.holds(p) {
			continue
		}
		w := h.freePlace(p, size)
		if w != none {
			return w
		}
	}
	return none
}

// freePlace: the lowest free place on page p, whose objects have that size, or none.
func (h *Heap) freePlace(p int, size int) int {
	start := p * api.PageWords
	for w := start; w+size <= start+api.PageWords; w += size {
		if !h.begins[w] {
			return w
		}
	}
	return none
}

// emptyRoom: the first word of the lowest so many pages side by side that an object of that kind can have to itself, or none.
func (h *Heap) emptyRoom(count int, atomic bool) int {
	run := 0
	for p := range h.pages {
		if !h.freeFor(p, atomic) {
			run = 0
			continue
		}
		run++
		if run == count {
			return (p + 1 - count) * api.PageWords
		}
	}
	return none
}

// freeFor: whether page p is without objects and may be taken for one of that kind. Whatever is laid on a black page the word that made it black may keep for good: an atomic object keeps no more than itself then.
func (h *Heap) freeFor(p int, atomic bool) bool {
	if h.black[p] && !atomic {
		return false
	}
	return !h.holds(p)
}

// lay lays an object where there is room for it. Its words are cleared here, not when an object goes: what went may have left any words.
func (h *Heap) lay(w int, size int, atomic bool) {
	first := w / api.PageWords
	for k := 0; k < pagesFor(size); k++ {
		// A greater object that has gone may have other pages beside this one, which must not be taken for the new object's.
		h.tidy(first + k)
		h.pages[first+k] = page{size: size, atomic: atomic, back: k}
	}
	for k := 0; k < size; k++ {
		h.words[w+k] = 0
	}
	h.begins[w] = true
}

// drop takes away the object that begins at word w.
func (h *Heap) drop(w int) {
	h.begins[w] = false
	h.tidy(w / api.PageWords)
}
