package heap_test

import (
	"fmt"
	"slices"
	"testing"

	"collector/api"
	"collector/heap"
)

// P10: a heap without objects: a new one, and one from which all has gone, by whatever way.
func TestWalkOfNothing(t *testing.T) {
	for _, pages := range []int{1, 2, 47, 48} {
		h := made(t, pages, 1, 0)
		walked(t, h, "a new heap")
		pushed(t, h, end(0))
		walked(t, h, "a root in no object")
		h.Collect()
		walked(t, h, "a black page")
		h.Alloc(32*pages+1, true)
		walked(t, h, "ErrSize")
		h.Alloc(32*pages, false)
		walked(t, h, "ErrFull")
		a := laid(t, h, 32*pages, true)
		walked(t, h, "one object", a)
		freed(t, h, a)
		walked(t, h, "Free")
		laid(t, h, 3, true)
		h.Set(0, 0)
		h.Collect()
		walked(t, h, "Collect")
		h.Sweep(1)
		walked(t, h, "Sweep")
	}
}

// P10: objects of each size and kind, each named once by its first address, however many pages it has; up to the heap's last word.
func TestWalkOfEachSize(t *testing.T) {
	for n := 1; n <= 48*32; n++ {
		h := made(t, 48, 1, 0)
		a := laid(t, h, n, n%2 == 0)
		walked(t, h, fmt.Sprintf("%d words", n), a)
		if n <= 24*32 {
			b := laid(t, h, n, n%2 == 0)
			walked(t, h, fmt.Sprintf("twice %d words", n), a, b)
		}
	}
	for _, s := range small {
		h := made(t, 48, 1, 0)
		var want []int
		for p := 0; p < 48; p++ {
			for i := 0; i < 32/s; i++ {
				want = append(want, laid(t, h, s, false))
			}
		}
		walked(t, h, fmt.Sprintf("a heap full of %d words each", s), want...)
		for len(want) > 0 {
			i := len(want) * 5 / 7
			freed(t, h, want[i])
			want = slices.Delete(want, i, i+1)
			walked(t, h, fmt.Sprintf("%d words each, some given back", s), want...)
		}
	}
}

// P10: rising, in whatever order they were laid.
func TestWalkRises(t *testing.T) {
	h := made(t, 6, 1, 0)
	var at []int
	for k := 0; k < 6; k++ {
		at = append(at, laid(t, h, 32, k%2 == 0))
	}
	for _, p := range []int{4, 1, 5, 0, 3, 2} {
		freed(t, h, at[p])
		walked(t, h, "one is missing", slices.Delete(slices.Clone(at), p, p+1)...)
		// Its size is its own: the only room is page p.
		at[p] = laid(t, h, small[p], p%2 == 1)
		walked(t, h, "one lies there again", at...)
	}
}

// P10: words that look like addresses, in objects or where objects were, are none of them.
func TestWalkDoesNotReadWords(t *testing.T) {
	h := made(t, 4, 1, 0)
	a := laid(t, h, 32, false)
	b := laid(t, h, 32, true)
	for i := 0; i < 32; i++ {
		stored(t, h, a+8*i, a+8*i)
		stored(t, h, b+8*i, end(2)+8*i)
	}
	pushed(t, h, end(3))
	walked(t, h, "words and roots that name many places", a, b)
	freed(t, h, a)
	c := laid(t, h, 16, false)
	walked(t, h, "laid where such words were", slices.Sorted(slices.Values([]int{b, c}))...)
}

// quietCalls: every kind of call that lays and takes no object, made to a heap with an object of three words at a.
func quietCalls(h *heap.Heap, a int) []func() {
	return []func(){
		func() { h.Store(a+8, end(0)+5) },
		func() { h.Store(a+4, 1) },
		func() { h.Store(0, 1) },
		func() { h.Push(end(2)) },
		func() { h.Set(0, end(3)) },
		func() { h.Set(30, end(3)) },
		func() { h.Pop() },
		func() { h.Set(0, 0) },
		func() { h.Pop() },
		func() { h.Pop() },
		func() { h.Pop() },
		func() { h.Push(a) },
		func() { h.Free(a + 1) },
		func() { h.Free(a - 1) },
		func() { h.Base(a + 23) },
		func() { h.Base(0) },
		func() { h.Size(a + 23) },
		func() { h.Size(0) },
		func() { h.Load(a + 16) },
		func() { h.Load(a + 23) },
		func() { h.Alloc(0, false) },
		func() { h.Alloc(48*32+1, true) },
		func() { h.Sweep(0) },
		func() { h.Sweep(1) },
		func() { h.Sweep(48) },
		func() { h.Walk() },
		func() { h.Black() },
		func() { h.Counts() },
	}
}

// P10: ahead of and behind each kind of call, with no collection so far, with unswept pages and with swept ones.
func TestWalkAboutEachCall(t *testing.T) {
	const pages = 8
	h := made(t, pages, 1, 0)
	a := laid(t, h, 3, false)
	b := laid(t, h, 3, false)
	c := laid(t, h, 40, false)
	d := laid(t, h, 3, true)
	quietly := func(when string, want ...int) {
		t.Helper()
		walked(t, h, when, want...)
		for k, call := range quietCalls(h, a) {
			call()
			walked(t, h, fmt.Sprintf("%s, call %d", when, k), want...)
		}
	}
	quietly("Alloc", a, b, c, d)
	freed(t, h, b)
	quietly("Free", a, c, d)
	stored(t, h, a, d+20)
	h.Collect()
	quietly("Collect", a, d)
	h.Collect()
	h.Sweep(48)
	quietly("Sweep", a, d)
	if _, e := h.Alloc(32*pages, true); e != api.ErrFull {
		t.Fatalf("P4: Alloc of all words = %d", e)
	}
	quietly("Alloc with ErrFull", a, d)
	stored(t, h, a, 0)
	if _, e := h.Alloc(32*pages, true); e != api.ErrFull {
		t.Fatalf("P4: Alloc of all words = %d", e)
	}
	quietly("Alloc with ErrFull, one has gone", a)
	e := laid(t, h, 32*(pages-1), true)
	quietly("Alloc of all other pages", a, e)
	f := laid(t, h, 33, true)
	quietly("Alloc behind a collection of its own", a, f)
}

// P10, P13: a list that was answered stays as it was, whatever becomes of the heap; and what is written into it, or joined to it, shows neither in the heap nor in another list.
func TestWalkListIsFresh(t *testing.T) {
	const pages = 8
	for n := 0; n <= 40; n++ {
		h := made(t, pages, 1, 0)
		var want []int
		for k := 0; k < n; k++ {
			want = append(want, laid(t, h, 4, false))
		}
		first, second := h.Walk(), h.Walk()
		before := state(t, h, pages)
		for i := range first {
			first[i] = end(1) + i
		}
		first = append(first, end(2))
		first = append(first, end(3))
		if !slices.Equal(before, state(t, h, pages)) {
			t.Fatalf("P13: %d objects: what was written into a list shows in the heap", n)
		}
		if !slices.Equal(second, want) {
			t.Fatalf("P13: %d objects: what was written into a list shows in another: %v", n, second)
		}
		walked(t, h, "the caller wrote into a list", want...)
		for _, a := range want[:n/2] {
			freed(t, h, a)
		}
		laid(t, h, 40, true)
		h.Collect()
		h.Sweep(pages)
		laid(t, h, 1, false)
		h.Walk()
		if !slices.Equal(second, want) {
			t.Fatalf("P13: %d objects: what was done to the heap shows in a list: %v", n, second)
		}
		for i, a := range first {
			if i < n && a != end(1)+i || i == n && a != end(2) || i == n+1 && a != end(3) {
				t.Fatalf("P13: %d objects: a list that the caller has written is %v", n, first)
			}
		}
	}
}

// P8, P13: the same of Black.
func TestBlackListStays(t *testing.T) {
	const pages = 30
	for n := 0; n <= api.MaxRoots; n++ {
		h := made(t, pages, 1, 0)
		var want []int
		for k := 0; k < n; k++ {
			pushed(t, h, end(k+2)+k)
			want = append(want, k+2)
		}
		h.Collect()
		first, second := h.Black(), h.Black()
		before := state(t, h, pages)
		for i := range first {
			first[i] = i
		}
		first = append(first, 29)
		if !slices.Equal(before, state(t, h, pages)) || !slices.Equal(second, want) {
			t.Fatalf("P13: %d pages: what was written into a list shows elsewhere: %v", n, second)
		}
		// What is not atomic takes no black page, whatever the caller has written.
		if a := laid(t, h, 64, false); pageOf(a) != 0 && pageOf(a) < n+2 {
			t.Fatalf("P4: %d black pages, an object at %d", n, a)
		}
		for h.Counts().Collections < 3 {
			h.Pop()
			h.Collect()
		}
		if len(second) != n || cap(second) != n || !slices.Equal(second, want) {
			t.Fatalf("P13: %d pages: what was done to the heap shows in a list: %v", n, second)
		}
		if first[n] != 29 {
			t.Fatalf("P13: %d pages: a list that the caller has written is %v", n, first)
		}
	}
}

// P2, P13: lists of two heaps that are told the same share nothing.
func TestListsOfTwoHeaps(t *testing.T) {
	h, g := made(t, 4, 1, 0), made(t, 4, 1, 0)
	for _, x := range []*heap.Heap{h, g} {
		laid(t, x, 3, false)
		laid(t, x, 3, true)
		pushed(t, x, api.First)
		pushed(t, x, end(3))
		pushed(t, x, end(1)+9)
		x.Collect()
	}
	a, b := h.Walk(), g.Walk()
	c, d := h.Black(), g.Black()
	a[0], c[0] = 1, 0
	if b[0] != api.First || d[0] != 3 {
		t.Errorf("P2: what was written into one heap's list shows in another's: %v, %v", b, d)
	}
	walked(t, h, "two heaps", api.First, end(1))
	isBlack(t, h, "two heaps", 3)
}
