package heap_test

import (
	"fmt"
	"math"
	"slices"
	"testing"

	"collector/api"
	"collector/heap"
)

// P8: a root that names a byte of a heap without objects makes its page black, and no byte outside makes any so.
func TestBlackByRoot(t *testing.T) {
	for _, pages := range []int{1, 2, 7, 48} {
		for p := 0; p < pages; p++ {
			for _, d := range []int{0, 1, 8, 100, 255} {
				h := made(t, pages, 1, 0)
				isBlack(t, h, "a new heap")
				pushed(t, h, end(p)+d)
				isBlack(t, h, "ahead of a collection")
				collected(t, h, pages, 1)
				isBlack(t, h, fmt.Sprintf("a root at byte %d of page %d of %d", d, p, pages), p)
			}
		}
		for _, w := range []int{0, -1, 1, 48, pages - 1, api.First - 1, api.First - 256, end(pages), end(pages) + 1, end(48) + 300, -api.First, math.MaxInt, math.MinInt, 1<<32 + api.First, 1<<62 + api.First, math.MinInt + api.First} {
			h := made(t, pages, 1, 0)
			pushed(t, h, w)
			collected(t, h, pages, 1)
			isBlack(t, h, fmt.Sprintf("a root at %d, outside of %d pages", w, pages))
		}
	}
}

// P8: all that roots name, once each, rising, in whatever order they name them.
func TestBlackByManyRoots(t *testing.T) {
	h := made(t, 48, 1, 0)
	for _, p := range []int{47, 3, 3, 0, 20, 19, 47, 21, 5} {
		pushed(t, h, end(p)+p)
	}
	collected(t, h, 48, 1)
	isBlack(t, h, "nine roots", 0, 3, 5, 19, 20, 21, 47)
}

// P8: words of objects that stay and are not atomic, whatever way they stay by; words of others do not count.
func TestBlackByWords(t *testing.T) {
	for _, size := range sizes()[1:] {
		for room := 1; room <= 3; room++ {
			h := made(t, 48, room, 0)
			// Of three chains of three objects the first is rooted and not atomic, the second rooted and atomic, the third not rooted.
			for chain := 0; chain < 3; chain++ {
				last := 0
				for k := 0; k < 3; k++ {
					a := laid(t, h, size, chain == 1)
					stored(t, h, a, last)
					stored(t, h, a+8*(size-1), end(47-3*chain-k))
					last = a
				}
				if chain < 2 {
					pushed(t, h, last)
				}
			}
			collected(t, h, 48, room)
			isBlack(t, h, fmt.Sprintf("%d words, room %d", size, room), 45, 46, 47)
		}
	}
}

// P8: a page is black too if objects lie on it, where the word names none of them: a free place, what is left over at its end.
func TestBlackBesideObjects(t *testing.T) {
	for _, size := range small {
		for _, atomic := range []bool{false, true} {
			per := 32 / size
			for d := 0; d < api.PageBytes; d += 3 {
				h := made(t, 2, 2, 0)
				a := laid(t, h, size, atomic)
				b := laid(t, h, size, atomic)
				if per > 2 {
					laid(t, h, size, atomic)
				}
				freed(t, h, b)
				pushed(t, h, a)
				pushed(t, h, a+d)
				_, e := h.Base(a + d)
				collected(t, h, 2, 2)
				if e == api.OK {
					isBlack(t, h, fmt.Sprintf("%d words: byte %d lies in an object", size, d))
				} else {
					isBlack(t, h, fmt.Sprintf("%d words: no object at byte %d", size, d), 0)
				}
			}
		}
	}
	for _, pages := range []int{1, 2, 5} {
		for d := 0; d < pages*api.PageBytes; d += 31 {
			h := made(t, pages, 2, 0)
			pushed(t, h, laid(t, h, 32*pages, false)+d)
			collected(t, h, pages, 2)
			isBlack(t, h, "an object on all pages")
		}
	}
}

// P8: black until the next collection, whatever becomes of the word and of the page; behind it black no more, if nothing names it.
func TestBlackTillTheNextCollection(t *testing.T) {
	h := made(t, 4, 1, 0)
	a := laid(t, h, 3, false)
	pushed(t, h, a)
	pushed(t, h, end(1)+7)
	stored(t, h, a+16, end(3))
	collected(t, h, 4, 1)
	isBlack(t, h, "pages 1 and 3 are named", 1, 3)
	h.Pop()
	isBlack(t, h, "Pop", 1, 3)
	stored(t, h, a+16, 0)
	isBlack(t, h, "Store", 1, 3)
	h.Sweep(4)
	isBlack(t, h, "Sweep", 1, 3)
	for k := 0; k < 3; k++ {
		pushed(t, h, laid(t, h, 32, true))
	}
	isBlack(t, h, "atomic objects lie on all other pages", 1, 3)
	h.Set(0, end(2)+8)
	freed(t, h, a)
	isBlack(t, h, "Free and Set", 1, 3)
	collected(t, h, 4, 1)
	isBlack(t, h, "nothing names a page without objects")
	for h.Counts().Objects > 0 {
		freed(t, h, objectsOf(h, 4)[0])
	}
	isBlack(t, h, "roots name what went behind the collection")
	laid(t, h, 128, false)
	freed(t, h, api.First)
	collected(t, h, 4, 1)
	isBlack(t, h, "roots name what went ahead of the collection", 1, 2, 3)
	for e := api.OK; e == api.OK; {
		_, e = h.Pop()
	}
	isBlack(t, h, "no root any more", 1, 2, 3)
	collected(t, h, 4, 1)
	isBlack(t, h, "nothing is named")
	laid(t, h, 128, false)
}

// fillWith lays objects of n words, which stay, till there is no room; their first addresses.
func fillWith(t *testing.T, h *heap.Heap, root, n int) []int {
	t.Helper()
	var l []int
	last := 0
	for {
		a, e := h.Alloc(n, false)
		if e == api.ErrFull {
			return l
		}
		if e != api.OK || len(l) > 48*32 {
			t.Fatalf("P4: Alloc(%d, false) = %d, %d", n, a, e)
		}
		stored(t, h, a, last)
		last = a
		if e := h.Set(root, a); e != api.OK {
			t.Fatalf("P7: Set = %d", e)
		}
		l = append(l, a)
	}
}

// P4, P8: what is not atomic takes no black page that is without objects, and takes all others; what is atomic takes black pages, too.
func TestBlackIsNoRoom(t *testing.T) {
	const pages = 7
	for _, black := range [][]int{{0}, {6}, {3}, {0, 6}, {1, 3, 5}, {0, 1, 2, 3, 4, 5, 6}, {2, 3}, {0, 2, 4, 6}} {
		for _, n := range append(sizes(), 7*32) {
			h := made(t, pages, 2, 0)
			for _, p := range black {
				pushed(t, h, end(p)+17*p)
			}
			pushed(t, h, 0)
			collected(t, h, pages, 2)
			isBlack(t, h, "by roots", black...)
			got := fillWith(t, h, len(black), n)
			for _, a := range got {
				for p := pageOf(a); p <= pageOf(a+8*n-1); p++ {
					if slices.Contains(black, p) {
						t.Fatalf("P4: %d words, not atomic, on page %d; black are %v", n, p, black)
					}
				}
			}
			if n <= 32 && len(got) != (pages-len(black))*max(32/n, 1) {
				t.Fatalf("P4: %d objects of %d words found room on %d pages", len(got), n, pages-len(black))
			}
			isBlack(t, h, "the rest is full", black...)
			for range black {
				a := laid(t, h, 32, true)
				if n <= 32 && !slices.Contains(black, pageOf(a)) {
					t.Fatalf("P4: 32 words, atomic, on page %d, which was full; black are %v", pageOf(a), black)
				}
				pushed(t, h, a)
			}
		}
	}
}

// P4, P8: pages side by side are not so across a black one, if the object is not atomic.
func TestBlackBetween(t *testing.T) {
	for p := 0; p < 5; p++ {
		for count := 1; count <= 5; count++ {
			for _, atomic := range []bool{false, true} {
				h := made(t, 5, 2, 0)
				pushed(t, h, end(p))
				collected(t, h, 5, 2)
				a, e := h.Alloc(32*count, atomic)
				room := atomic || count <= p || count <= 4-p
				if room && e != api.OK || !room && (a != 0 || e != api.ErrFull) {
					t.Errorf("P4: %d pages, atomic %v, page %d of 5 black: %d, %d", count, atomic, p, a, e)
				}
				if !atomic && room && pageOf(a) <= p && p < pageOf(a)+count {
					t.Errorf("P4: %d pages at %d take the black page %d", count, a, p)
				}
			}
		}
	}
}

// P4, P8: a black page with objects is room for its size and kind; as soon as it is without them it is none for what is not atomic.
func TestBlackPageWithObjects(t *testing.T) {
	for _, size := range small {
		h := made(t, 1, 2, 0)
		a := laid(t, h, size, false)
		pushed(t, h, a)
		pushed(t, h, a+8*size)
		collected(t, h, 1, 2)
		isBlack(t, h, "a free place is named", 0)
		b := laid(t, h, size, false)
		isBlack(t, h, "beside an object that stayed", 0)
		freed(t, h, a)
		c := laid(t, h, size, false)
		freed(t, h, b)
		freed(t, h, c)
		// Full, too, if Alloc collects: the roots name the page still, and nothing lies there.
		full(t, h, 1, size, false)
		full(t, h, 1, 32, false)
		isBlack(t, h, "without objects", 0)
		laid(t, h, 32, true)
	}
}

// P8, P13: the list is the caller's, and has no spare room.
func TestBlackListIsFresh(t *testing.T) {
	for n := 0; n <= 24; n++ {
		h := made(t, 48, 1, 0)
		var want []int
		for k := 0; k < n; k++ {
			pushed(t, h, end(2*k))
			want = append(want, 2*k)
		}
		collected(t, h, 48, 1)
		l := h.Black()
		if cap(l) != len(l) {
			t.Errorf("P13: Black() has room for %d, and %d in it", cap(l), len(l))
		}
		for i := range l {
			l[i] = 47
		}
		isBlack(t, h, "the caller wrote into the list", want...)
	}
}
