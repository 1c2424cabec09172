package heap

import "collector/api"

// marking is a collection under way.
type marking struct {
	h      *Heap
	stays  []bool // by word: an object that stays begins there
	black  []bool // by page
	work   []int  // the first words of objects that stay and whose own words have not been followed yet: at most room of them
	missed bool   // an object that belongs on the list of work found it full
}

// Collect: what no root leads to goes (P8).
func (h *Heap) Collect() {
	m := marking{h: h, stays: make([]bool, len(h.words)), black: make([]bool, len(h.pages))}
	m.followRoots()
	again := 0
	// Whoever is missed was not known to stay before: this ends.
	for m.missed {
		m.missed = false
		again++
		m.goOver()
	}
	h.begins = m.stays
	h.black = m.black
	h.since = 0
	h.collections++
	h.again = again
	h.leaveUnswept()
}

// leaveUnswept: all pages in use are still to be looked through for such as have no objects any more.
func (h *Heap) leaveUnswept() {
	for p := range h.pages {
		h.pages[p].unswept = h.pages[p].size != 0
	}
}

func (m *marking) followRoots() {
	for _, a := range m.h.roots {
		m.follow(a)
		m.finishWork()
	}
}

// goOver follows the words of all objects that are known to stay, since it is not known which of them were missed.
func (m *marking) goOver() {
	for w := range m.stays {
		if m.stays[w] && !m.h.atomicAt(w) {
			m.followWords(w)
			m.finishWork()
		}
	}
}

// finishWork: at its end the list of work is empty.
func (m *marking) finishWork() {
	for len(m.work) > 0 {
		last := len(m.work) - 1
		w := m.work[last]
		m.work = m.work[:last]
		m.followWords(w)
	}
}

// followWords follows the words of the object that begins at word w.
func (m *marking) followWords(w int) {
	size := m.h.pages[w/api.PageWords].size
	for k := 0; k < size; k++ {
		m.follow(m.h.words[w+k])
	}
}

// follow: the object that lies at a stays; if there is none, the page is black.
func (m *marking) follow(a int) {
	if !m.h.within(a) {
		return
	}
	w := m.h.objectAt(a)
	if w == none {
		m.black[wordAt(a)/api.PageWords] = true
		return
	}
	if m.stays[w] {
		return
	}
	m.stays[w] = true
	if !m.h.atomicAt(w) {
		m.note(w)
	}
}

// note lays an object on the list of work, if there is room.
func (m *marking) note(w int) {
	if len(m.work) >= m.h.room {
		m.missed = true
		return
	}
	m.work = append(m.work, w)
}

// atomicAt: the kind of the object that begins at word w.
func (h *Heap) atomicAt(w int) bool {
	return h.pages[w/api.PageWords].atomic
}
