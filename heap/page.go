package heap

import "collector/api"

const wordBytes = api.PageBytes / api.PageWords

// none stands for the number of a word where there is no such word.
const none = -1

// page tells what lies on a page; its zero value is a page that is not in use. A collection lets objects go without touching this: on an unswept page there may be none left.
type page struct {
	size    int  // the words of each object here; 0: the page is not in use
	atomic  bool // the kind of the objects here
	back    int  // by how many pages the page is behind the first one of its object
	unswept bool
}

// smallSizes are the sizes of objects that share a page, rising.
var smallSizes = [8]int{1, 2, 3, 4, 6, 8, 12, 16}

// sizeFor: the size of an object for which n words are asked.
func sizeFor(n int) int {
	for _, size := range smallSizes {
		if size >= n {
			return size
		}
	}
	return pagesFor(n) * api.PageWords
}

// pagesFor: on how many pages an object of so many words lies.
func pagesFor(words int) int {
	return (words + api.PageWords - 1) / api.PageWords
}

// addressOf: the address of word w.
func addressOf(w int) int {
	return api.First + w*wordBytes
}

// wordAt: the word that lies at a, an address in the heap.
func wordAt(a int) int {
	return (a - api.First) / wordBytes
}

// within: whether a is an address of the heap's pages.
func (h *Heap) within(a int) bool {
	return a >= api.First && a < addressOf(len(h.words))
}

// objectAt: the first word of the object that lies at a, or none.
func (h *Heap) objectAt(a int) int {
	if !h.within(a) {
		return none
	}
	w := wordAt(a)
	p := w / api.PageWords
	g := h.pages[p]
	if g.size == 0 {
		return none
	}
	first := (p - g.back) * api.PageWords
	if g.size <= api.Small {
		// What is left over at the end of a page looks like a place here, but no object ever begins there.
		first = w - w%api.PageWords%g.size
	}
	if !h.begins[first] {
		return none
	}
	return first
}

// holds: whether an object lies on page p.
func (h *Heap) holds(p int) bool {
	return h.anyBegins(p - h.pages[p].back)
}

// anyBegins: whether an object begins on page p.
func (h *Heap) anyBegins(p int) bool {
	start := p * api.PageWords
	for w := start; w < start+api.PageWords; w++ {
		if h.begins[w] {
			return true
		}
	}
	return false
}
