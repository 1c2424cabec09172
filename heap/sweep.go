package heap

// Sweep tidies at most n runs of pages (P11).
func (h *Heap) Sweep(n int) {
	left := n
	for p := range h.pages {
		if left <= 0 {
			return
		}
		if h.pages[p].unswept {
			h.tidy(p)
			left--
		}
	}
}

// tidy looks through the run of pages to which page p belongs. If nothing lies there any more, its pages are free for every size and kind again.
func (h *Heap) tidy(p int) {
	first := p - h.pages[p].back
	count := pagesFor(h.pages[first].size)
	empty := !h.anyBegins(first)
	for k := 0; k < count; k++ {
		if empty {
			h.pages[first+k] = page{}
		}
		h.pages[first+k].unswept = false
	}
}
