package heap_test

import (
	"testing"

	"collector/api"
)

// The document's examples.
func TestExamples(t *testing.T) {
	h := made(t, 4, 4, 0)
	told := func(what string, x int, e api.Errno, want int, wantErr api.Errno) {
		t.Helper()
		if x != want || e != wantErr {
			t.Errorf("%s = %d, %d, want %d, %d", what, x, e, want, wantErr)
		}
	}
	x, e := h.Alloc(3, false)
	told("Alloc(3, false)", x, e, 1048576, api.OK)
	x, e = h.Size(1048576 + 23)
	told("Size(1048576 + 23)", x, e, 3, api.OK)
	x, e = h.Size(1048576 + 24)
	told("Size(1048576 + 24)", x, e, 0, api.ErrObject)
	x, e = h.Alloc(3, false)
	told("Alloc(3, false)", x, e, 1048600, api.OK)
	x, e = h.Alloc(5, false)
	told("Alloc(5, false)", x, e, 1048832, api.OK)
	x, e = h.Size(1048832)
	told("Size(1048832)", x, e, 6, api.OK)
	x, e = h.Load(1048576)
	told("Load(1048576)", x, e, 0, api.OK)
	told("Store(1048576, 1048605)", 0, h.Store(1048576, 1048600+5), 0, api.OK)
	x, e = h.Load(1048576)
	told("Load(1048576)", x, e, 1048605, api.OK)
	x, e = h.Load(1048577)
	told("Load(1048577)", x, e, 0, api.ErrAlign)
	told("Free(1048577)", 0, h.Free(1048577), 0, api.ErrBase)

	told("Push(1048580)", 0, h.Push(1048580), 0, api.OK)
	h.Collect()
	only(t, h, 4, "Collect()", 1048576, 1048600)
	walked(t, h, "Collect()", 1048576, 1048600)
	told("Push(1048576 + 2 * 256)", 0, h.Push(1048576+2*256), 0, api.OK)
	h.Collect()
	isBlack(t, h, "Collect()", 2)
	x, e = h.Alloc(32, false)
	if e != api.OK || x != 1048576+256 && x != 1048576+3*256 {
		t.Errorf("Alloc(32, false) = %d, %d, want page 1 or 3", x, e)
	}
	x, e = h.Alloc(32, true)
	if e != api.OK || x%256 != 0 || x < 1048576+256 || x > 1048576+3*256 {
		t.Errorf("Alloc(32, true) = %d, %d, want a page without objects", x, e)
	}
	x, e = h.Pop()
	told("Pop()", x, e, 1048576+2*256, api.OK)
	x, e = h.Pop()
	told("Pop()", x, e, 1048580, api.OK)
	x, e = h.Pop()
	told("Pop()", x, e, 0, api.ErrEmpty)
	h.Collect()
	only(t, h, 4, "Collect(), no root")
	walked(t, h, "Collect(), no root")
	told("Counts().Objects", h.Counts().Objects, 0, 0, 0)
	told("Set(0, 1)", 0, h.Set(0, 1), 0, api.ErrRoot)

	x, e = h.Alloc(0, true)
	told("Alloc(0, true)", x, e, 0, api.ErrSize)
	x, e = h.Alloc(129, true)
	told("Alloc(129, true)", x, e, 0, api.ErrSize)

	h = made(t, 1, 1, 0)
	for k := 0; k < 17; k++ {
		laid(t, h, 2, true)
	}
	told("Counts().Objects", h.Counts().Objects, 0, 1, 0)
	told("Counts().Collections", h.Counts().Collections, 0, 1, 0)
	h = made(t, 1, 1, 0)
	for k := 0; k < 16; k++ {
		h.Push(laid(t, h, 2, true))
	}
	x, e = h.Alloc(2, true)
	told("Alloc(2, true), the seventeenth", x, e, 0, api.ErrFull)

	h = made(t, 2, 1, 10)
	for _, want := range []int{0, 0, 1} {
		laid(t, h, 4, false)
		told("Counts().Collections", h.Counts().Collections, 0, want, 0)
	}
}
