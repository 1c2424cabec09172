package heap_test

import (
	"math"
	"slices"
	"testing"

	"collector/api"
	"collector/heap"
)

// The sizes of small objects, as the document lists them.
var small = []int{1, 2, 3, 4, 6, 8, 12, 16}

// sizeOf: the size that the document gives an object of n words.
func sizeOf(n int) int {
	for _, s := range small {
		if n <= s {
			return s
		}
	}
	s := 32
	for s < n {
		s += 32
	}
	return s
}

// end: the first address behind a heap of so many pages.
func end(pages int) int { return api.First + pages*api.PageBytes }

func pageOf(a int) int { return (a - api.First) / api.PageBytes }

func made(t *testing.T, pages, room, trig int) *heap.Heap {
	t.Helper()
	h, e := heap.New(pages, room, trig)
	if h == nil || e != api.OK {
		t.Fatalf("P3: New(%d, %d, %d) = %v, %d", pages, room, trig, h, e)
	}
	return h
}

func laid(t *testing.T, h *heap.Heap, n int, atomic bool) int {
	t.Helper()
	a, e := h.Alloc(n, atomic)
	if e != api.OK {
		t.Fatalf("P4: Alloc(%d, %v) = %d, %d", n, atomic, a, e)
	}
	return a
}

func freed(t *testing.T, h *heap.Heap, a int) {
	t.Helper()
	if e := h.Free(a); e != api.OK {
		t.Fatalf("P5: Free(%d) = %d", a, e)
	}
}

func stored(t *testing.T, h *heap.Heap, a, w int) {
	t.Helper()
	if e := h.Store(a, w); e != api.OK {
		t.Fatalf("P6: Store(%d, %d) = %d", a, w, e)
	}
}

// fill lays w+i into word i of an object.
func fill(t *testing.T, h *heap.Heap, a, w int) {
	t.Helper()
	size, _ := h.Size(a)
	for i := 0; i < size; i++ {
		stored(t, h, a+8*i, w+i)
	}
}

// shown: all that the calls tell of a heap's addresses, those beside its pages too.
func shown(h *heap.Heap, pages int) []int {
	l := make([]int, 0, 6*(pages*api.PageBytes+18))
	for a := api.First - 9; a < end(pages)+9; a++ {
		b, e := h.Base(a)
		s, f := h.Size(a)
		w, g := h.Load(a)
		l = append(l, b, int(e), s, int(f), w, int(g))
	}
	return l
}

// unchanged: a call that ended in an error left nothing behind.
func unchanged(t *testing.T, h *heap.Heap, pages int, before []int, call string) {
	t.Helper()
	if !slices.Equal(before, shown(h, pages)) {
		t.Errorf("P1: %s changed the heap", call)
	}
}

// full: Alloc ends in ErrFull and changes nothing.
func full(t *testing.T, h *heap.Heap, pages, n int, atomic bool) {
	t.Helper()
	before := shown(h, pages)
	if a, e := h.Alloc(n, atomic); a != 0 || e != api.ErrFull {
		t.Fatalf("P4: Alloc(%d, %v) = %d, %d, want 0, ErrFull", n, atomic, a, e)
	}
	unchanged(t, h, pages, before, "Alloc with ErrFull")
}

// zeros: all words of an object are 0.
func zeros(t *testing.T, h *heap.Heap, a int) {
	t.Helper()
	size, e := h.Size(a)
	if e != api.OK {
		t.Fatalf("P5: Size(%d): error %d", a, e)
	}
	for i := 0; i < size; i++ {
		if w, e := h.Load(a + 8*i); w != 0 || e != api.OK {
			t.Errorf("P4: word %d of the new object at %d is %d, %d", i, a, w, e)
		}
	}
}

func pushed(t *testing.T, h *heap.Heap, w int) {
	t.Helper()
	if e := h.Push(w); e != api.OK {
		t.Fatalf("P7: Push(%d) = %d", w, e)
	}
}

// rootsOf: all roots; they are taken off and laid back.
func rootsOf(t *testing.T, h *heap.Heap) []int {
	t.Helper()
	var l []int
	for {
		w, e := h.Pop()
		if e != api.OK {
			break
		}
		l = append(l, w)
	}
	slices.Reverse(l)
	for _, w := range l {
		pushed(t, h, w)
	}
	return l
}

// state: all that is told of a heap, without Used and Unswept.
func state(t *testing.T, h *heap.Heap, pages int) []int {
	t.Helper()
	c := h.Counts()
	l := shown(h, pages)
	l = append(l, rootsOf(t, h)...)
	l = append(l, -7) // lest a root and a black page could stand for one another
	l = append(l, h.Black()...)
	l = append(l, -7)
	l = append(l, h.Walk()...)
	return append(l, c.Objects, c.Words, c.Collections, c.Again)
}

// objectsOf: the first addresses of all objects, rising.
func objectsOf(h *heap.Heap, pages int) []int {
	var l []int
	for a := api.First; a < end(pages); a += 8 {
		if b, e := h.Base(a); e == api.OK && b == a {
			l = append(l, a)
		}
	}
	return l
}

// walked: Walk tells these addresses, in a list without spare room.
func walked(t *testing.T, h *heap.Heap, call string, want ...int) {
	t.Helper()
	if l := h.Walk(); !slices.Equal(l, want) || cap(l) != len(l) {
		t.Fatalf("P10, P13: %s: Walk() = %v (capacity %d), want %v", call, l, cap(l), want)
	}
}

// only: these objects there are and no others; Walk and Counts say so, too.
func only(t *testing.T, h *heap.Heap, pages int, call string, want ...int) {
	t.Helper()
	want = slices.Sorted(slices.Values(want))
	got := objectsOf(h, pages)
	if !slices.Equal(got, want) {
		t.Fatalf("P8: %s: there are objects at %v, want %v", call, got, want)
	}
	walked(t, h, call, want...)
	words := 0
	for _, a := range want {
		size, _ := h.Size(a)
		words += size
	}
	if c := h.Counts(); c.Objects != len(want) || c.Words != words {
		t.Fatalf("P12: %s: %+v, want %d objects of %d words", call, c, len(want), words)
	}
}

// busy: on how many pages objects lie.
func busy(h *heap.Heap, pages int) int {
	n := 0
	for p := 0; p < pages; p++ {
		for a := end(p); a < end(p+1); a += 8 {
			if _, e := h.Base(a); e == api.OK {
				n++
				break
			}
		}
	}
	return n
}

// bounds: what P12 says of Used and Unswept at any time.
func bounds(t *testing.T, h *heap.Heap, pages int, call string) {
	t.Helper()
	c := h.Counts()
	n := busy(h, pages)
	if c.Used < n || c.Used > pages || c.Unswept < 0 || c.Unswept > c.Used || c.Used-n > c.Unswept {
		t.Fatalf("P12: %s: %+v, where objects lie on %d pages of %d", call, c, n, pages)
	}
	if c.Collections == 0 && (c.Unswept != 0 || c.Again != 0) {
		t.Fatalf("P11, P12: %s, ahead of the first collection: %+v", call, c)
	}
}

// collected: a collection, and what P11 and P12 say of it.
func collected(t *testing.T, h *heap.Heap, pages, room int) {
	t.Helper()
	before := h.Counts()
	h.Collect()
	c := h.Counts()
	if c.Collections != before.Collections+1 {
		t.Fatalf("P12: Collect: from %+v to %+v", before, c)
	}
	if c.Unswept != c.Used {
		t.Fatalf("P11: behind Collect not all pages in use are unswept: %+v", c)
	}
	if c.Again < 0 || c.Again > c.Objects+1 || c.Objects <= room && c.Again != 0 {
		t.Fatalf("P12: Again, with room %d: %+v", room, c)
	}
	bounds(t, h, pages, "behind Collect")
}

// isBlack: these pages are black and no others.
func isBlack(t *testing.T, h *heap.Heap, call string, want ...int) {
	t.Helper()
	if l := h.Black(); !slices.Equal(l, want) {
		t.Fatalf("P8: %s: Black() = %v, want %v", call, l, want)
	}
}

// table is an object with a root in it whose words name other objects: what it names stays, even if Alloc collects.
type table struct {
	h  *heap.Heap
	at int
	of []int
}

// withTable: a heap of so many pages whose first ones are a table.
func withTable(t *testing.T, pages, tablePages int) *table {
	t.Helper()
	h := made(t, pages, 4, 0)
	at := laid(t, h, 32*tablePages, false)
	if at != api.First {
		t.Fatalf("the first object lies at %d", at)
	}
	if e := h.Push(at); e != api.OK {
		t.Fatalf("P7: Push = %d", e)
	}
	return &table{h, at, make([]int, 32*tablePages)}
}

func (k *table) put(t *testing.T, old, a int) {
	t.Helper()
	i := slices.Index(k.of, old)
	if i < 0 {
		t.Fatalf("the test's table has no word %d", old)
	}
	k.of[i] = a
	stored(t, k.h, k.at+8*i, a)
}

func (k *table) lay(t *testing.T, n int, atomic bool) int {
	t.Helper()
	a := laid(t, k.h, n, atomic)
	k.put(t, 0, a)
	return a
}

func (k *table) free(t *testing.T, a int) {
	t.Helper()
	freed(t, k.h, a)
	k.put(t, a, 0)
}

// numbers: the edges of int, of a heap of so many pages, and of its words.
func numbers(pages int) []int {
	l := []int{math.MinInt, math.MaxInt, 1 << 62, -1 << 62, 1 << 61, 1 << 32, 1<<32 + api.First, 1<<61 + api.First, math.MinInt + api.First, -api.First, 0, 32 * pages}
	for d := -9; d <= 9; d++ {
		l = append(l, d, api.First+d, end(pages)+d, 32*pages+d)
		if d > 0 {
			l = append(l, math.MinInt+d, math.MaxInt-d)
		}
	}
	return l
}

// answers notes what a heap answers to a series of calls that hangs on seed alone, but for Again. No more than 400 words are laid.
func answers(h *heap.Heap, seed int) []int {
	var l, at []int
	r := source(seed)
	for k := 0; k < 300; k++ {
		if k%6 == 0 {
			a, e := h.Alloc(1+r.below(8), r.below(2) == 0)
			l = append(l, a, int(e))
			at = append(at, a)
		}
		x := at[r.below(len(at))]
		if r.below(3) == 0 {
			l = append(l, keepStep(h, &r, x)...)
		} else {
			l = append(l, step(h, &r, x)...)
		}
	}
	return l
}

// keepStep: one call that has to do with what is kept, and its answer.
func keepStep(h *heap.Heap, r *source, a int) []int {
	x := a + r.below(400) - 100
	switch r.below(10) {
	case 0, 1:
		return []int{int(h.Push(a + r.below(8)))}
	case 2:
		return []int{int(h.Push(x))}
	case 3:
		w, e := h.Pop()
		return []int{w, int(e)}
	case 4:
		return []int{int(h.Set(r.below(6), x))}
	case 5:
		h.Collect()
	case 6:
		h.Sweep(r.below(5) - 1)
	case 7:
		return h.Black()
	case 8:
		return h.Walk()
	}
	c := h.Counts()
	return []int{c.Objects, c.Words, c.Collections, c.Used, c.Unswept}
}

// step: one call at an address in or about an object, and its answer.
func step(h *heap.Heap, r *source, a int) []int {
	x := a + r.below(70) - 3
	switch r.below(8) {
	case 0:
		return []int{int(h.Free(a))}
	case 1:
		return []int{int(h.Free(x))}
	case 2:
		b, e := h.Base(x)
		return []int{b, int(e)}
	case 3:
		s, e := h.Size(x)
		return []int{s, int(e)}
	case 4:
		w, e := h.Load(a)
		return []int{w, int(e)}
	case 5:
		w, e := h.Load(x)
		return []int{w, int(e)}
	case 6:
		return []int{int(h.Store(a, x))}
	}
	return []int{int(h.Store(a, 1+r.below(1000)))}
}

// source: numbers that look like chance and are the same in every run.
type source uint64

func (r *source) below(n int) int {
	*r = *r*6364136223846793005 + 1442695040888963407
	return int(*r>>33) % n
}
