package heap

import "collector/api"

const wordBytes = api.PageBytes / api.PageWords

// none stands for the number of a word where there is no such word.
const none = -1

// page tells what lies on a page; its zero value is a page without objects.
type page struct {
	size   int  // the words of each object here; 0: there are no objects
	atomic bool // the kind of the objects here
	back   int  // by how many pages the page is behind the first one of its object
}

// smallSizes are the sizes of objects that share a page, rising.
var smallSizes = [8]int{1, 2, 3, 4, 6, 8, 12, 16}

// sizeFor: the size of an object for which n words are asked.
func sizeFor(n int) int {
	for _, size := range smallSizes {
		if size >= n {
			return size
		}
	}
	return pagesFor(n) * api.PageWords
}

// pagesFor: on how many pages an object of so many words lies.
func pagesFor(words int) int {
	return (words + api.PageWords - 1) / api.PageWords
}

// addressOf: the address of word w.
func addressOf(w int) int {
	return api.First + w*wordBytes
}

// wordAt: the word that lies at a, an address in the heap.
func wordAt(a int) int {
	return (a - api.First) / wordBytes
}

// objectAt: the first word of the object that lies at a, or none.
func (h *Heap) objectAt(a int) int {
	// Both ends go ahead of any sum with a, which could pass the greatest int.
	if a < api.First || a >= addressOf(len(h.words)) {
		return none
	}
	w := wordAt(a)
	p := w / api.PageWords
	g := h.pages[p]
	if g.size == 0 {
		return none
	}
	if g.size > api.Small {
		return (p - g.back) * api.PageWords
	}
	// What is left over at the end of a page looks like a place here, but no object ever begins there.
	first := w - w%api.PageWords%g.size
	if !h.begins[first] {
		return none
	}
	return first
}
