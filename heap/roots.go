package heap

import "collector/api"

// Push: w is the last root from now on. Error: ErrRoots.
func (h *Heap) Push(w int) api.Errno {
	if len(h.roots) >= api.MaxRoots {
		return api.ErrRoots
	}
	h.roots = append(h.roots, w)
	return api.OK
}

// Pop: the last root, which goes. Error: ErrEmpty.
func (h *Heap) Pop() (int, api.Errno) {
	last := len(h.roots) - 1
	if last < 0 {
		return 0, api.ErrEmpty
	}
	w := h.roots[last]
	h.roots = h.roots[:last]
	return w, api.OK
}

// Set: root i is w from now on. Error: ErrRoot.
func (h *Heap) Set(i int, w int) api.Errno {
	if i < 0 || i >= len(h.roots) {
		return api.ErrRoot
	}
	h.roots[i] = w
	return api.OK
}
