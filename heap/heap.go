// Package heap: a heap of words that clears itself: see DOC.md.
package heap

import "collector/api"

// Heap is a heap of words. Inside it words have numbers, from 0 on: word w lies at First + w * wordBytes.
type Heap struct {
	pages  []page
	words  []int
	begins []bool // by word: an object begins there
	black  []bool // by page
	roots  []int

	room        int // the entries of a collection's list of work
	trig        int // how many words may be laid between collections; 0: any number
	since       int // the words laid since the last collection
	collections int
	again       int // of the last collection
}

// New: a heap of so many pages, whose collections have a list of work of so much room (P3), and that collects ahead of an object with which more than trig words would have been laid since the last collection (P9; 0: never for that). ErrArg.
func New(pages int, room int, trig int) (*Heap, api.Errno) {
	if pages < 1 || pages > api.MaxPages {
		return nil, api.ErrArg
	}
	if room < 1 || room > api.MaxStack {
		return nil, api.ErrArg
	}
	if trig < 0 || trig > api.MaxTrig {
		return nil, api.ErrArg
	}
	h := &Heap{
		pages:  make([]page, pages),
		words:  make([]int, pages*api.PageWords),
		begins: make([]bool, pages*api.PageWords),
		black:  make([]bool, pages),
		room:   room,
		trig:   trig,
	}
	return h, api.OK
}

// Alloc: a new object of at least n words, all 0 (atomic: its words are no addresses): its first address. Ahead of it there may be a collection, also where ErrFull is the answer (P9). Errors: ErrSize; ErrFull.
func (h *Heap) Alloc(n int, atomic bool) (int, api.Errno) {
	if n < 1 || n > len(h.words) {
		return 0, api.ErrSize
	}
	size := sizeFor(n)
	w := h.findRoom(size, atomic)
	if w == none {
		return 0, api.ErrFull
	}
	h.lay(w, size, atomic)
	h.since += size
	return addressOf(w), api.OK
}

// Free: the object that begins at a goes. Errors: ErrObject; ErrBase.
func (h *Heap) Free(a int) api.Errno {
	w := h.objectAt(a)
	if w == none {
		return api.ErrObject
	}
	if addressOf(w) != a {
		return api.ErrBase
	}
	h.drop(w)
	return api.OK
}

// Base: the first address of the object in which a lies. Error: ErrObject.
func (h *Heap) Base(a int) (int, api.Errno) {
	w := h.objectAt(a)
	if w == none {
		return 0, api.ErrObject
	}
	return addressOf(w), api.OK
}

// Size: how many words the object has in which a lies. Error: ErrObject.
func (h *Heap) Size(a int) (int, api.Errno) {
	w := h.objectAt(a)
	if w == none {
		return 0, api.ErrObject
	}
	return h.pages[w/api.PageWords].size, api.OK
}

// Load: the word at a. Errors: ErrAlign; ErrObject.
func (h *Heap) Load(a int) (int, api.Errno) {
	e := h.checkWord(a)
	if e != api.OK {
		return 0, e
	}
	return h.words[wordAt(a)], api.OK
}

// Store: the word at a is w from now on. Errors: ErrAlign; ErrObject.
func (h *Heap) Store(a int, w int) api.Errno {
	e := h.checkWord(a)
	if e != api.OK {
		return e
	}
	h.words[wordAt(a)] = w
	return api.OK
}

// checkWord: what stands against reading or writing a word at a.
func (h *Heap) checkWord(a int) api.Errno {
	if a%wordBytes != 0 {
		return api.ErrAlign
	}
	if h.objectAt(a) == none {
		return api.ErrObject
	}
	return api.OK
}
