package heap

import "collector/api"

// roomFor: the word at which an object of that size and kind can be laid, or none. A shared page goes ahead of one without objects, and what is lower ahead of what is higher.
func (h *Heap) roomFor(size int, atomic bool) int {
	if size <= api.Small {
		w := h.sharedRoom(size, atomic)
		if w != none {
			return w
		}
	}
	return h.emptyRoom(pagesFor(size))
}

// sharedRoom: the lowest free place on a page with objects of that size and kind, or none.
func (h *Heap) sharedRoom(size int, atomic bool) int {
	for p, g := range h.pages {
		if g.size != size || g.atomic != atomic {
			continue
		}
		w := h.freePlace(p, size)
		if w != none {
			return w
		}
	}
	return none
}

// freePlace: the lowest free place on page p, whose objects have that size, or none.
func (h *Heap) freePlace(p int, size int) int {
	start := p * api.PageWords
	for w := start; w+size <= start+api.PageWords; w += size {
		if !h.begins[w] {
			return w
		}
	}
	return none
}

// emptyRoom: the first word of the lowest so many pages without objects, side by side, or none.
func (h *Heap) emptyRoom(count int) int {
	run := 0
	for p, g := range h.pages {
		if g.size != 0 {
			run = 0
			continue
		}
		run++
		if run == count {
			return (p + 1 - count) * api.PageWords
		}
	}
	return none
}

// lay lays an object where there is room for it. Its words are cleared here, not when an object goes: what went may have left any words.
func (h *Heap) lay(w int, size int, atomic bool) {
	first := w / api.PageWords
	for k := 0; k < pagesFor(size); k++ {
		h.pages[first+k] = page{size: size, atomic: atomic, back: k}
	}
	for k := 0; k < size; k++ {
		h.words[w+k] = 0
	}
	h.begins[w] = true
}

// drop takes away the object that begins at word w. A page on which nothing is left is free for every size and kind again.
func (h *Heap) drop(w int) {
	h.begins[w] = false
	first := w / api.PageWords
	if h.anyBegins(first) {
		return
	}
	count := pagesFor(h.pages[first].size)
	for k := 0; k < count; k++ {
		h.pages[first+k] = page{}
	}
}

// anyBegins: whether an object begins on page p.
func (h *Heap) anyBegins(p int) bool {
	start := p * api.PageWords
	for w := start; w < start+api.PageWords; w++ {
		if h.begins[w] {
			return true
		}
	}
	return false
}
