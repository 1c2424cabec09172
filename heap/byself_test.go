package heap_test

import (
	"fmt"
	"math"
	"slices"
	"testing"

	"collector/api"
	"collector/heap"
)

// collections: so many there have been.
func collections(t *testing.T, h *heap.Heap, call string, want int) {
	t.Helper()
	if c := h.Counts(); c.Collections != want {
		t.Fatalf("P9: %s: %d collections, want %d", call, c.Collections, want)
	}
}

// given: an object is laid and given back: its size counts, and there is room as before.
func given(t *testing.T, h *heap.Heap, n int) {
	t.Helper()
	freed(t, h, laid(t, h, n, false))
}

// P9: objects that nothing names, of each size and kind, at each trig about their size and about the greatest one: the collections come where they must and nowhere else, by trig or, if none is given back, where the pages are full.
func TestTrig(t *testing.T) {
	for _, s := range sizes() {
		for _, trig := range []int{0, 1, s - 1, s, s + 1, 2*s - 1, 2 * s, 2*s + 1, 5 * s, 4095, 4096} {
			for _, back := range []bool{false, true} {
				churn(t, s, trig, back)
			}
		}
	}
}

func churn(t *testing.T, s, trig int, back bool) {
	t.Helper()
	const pages = 6
	fit := pages * (32 / s)
	if s > 16 {
		fit = pages / (s / 32)
	}
	h := made(t, pages, 1, trig)
	sum, lie, want := 0, 0, 0
	for k := 0; k < 8300/s+4; k++ {
		if trig != 0 && sum+s > trig || lie == fit {
			want++
			sum, lie = 0, 0
		}
		a := laid(t, h, s, s%2 == 0)
		sum += s
		lie++
		if back {
			freed(t, h, a)
			lie--
		}
		collections(t, h, fmt.Sprintf("object %d of %d words, trig %d, given back: %v", k, s, trig, back), want)
		if c := h.Counts(); c.Objects != lie || c.Words != lie*s || c.Again != 0 {
			t.Fatalf("P12: object %d of %d words, trig %d: %+v, want %d objects", k, s, trig, c, lie)
		}
	}
}

// P9: an object's size counts, not the words that were asked: at a trig of one word less there is a collection ahead of it, at its size there is none, but one ahead of the next.
func TestSizesCount(t *testing.T) {
	const pages = 48
	for n := 1; n <= 32*pages; n++ {
		s := sizeOf(n)
		atomic := n%2 == 0
		for _, trig := range []int{s - 1, n, s, s + 1} {
			h := made(t, pages, 1, trig)
			laid(t, h, n, atomic)
			first := 0
			if trig != 0 && s > trig {
				first = 1
			}
			collections(t, h, fmt.Sprintf("%d words, trig %d", n, trig), first)
			if s > 32*(pages-1) {
				continue // the next one finds no room
			}
			laid(t, h, 1, atomic)
			if trig != 0 && s+1 > trig {
				first++
			}
			collections(t, h, fmt.Sprintf("%d words, then one, trig %d", n, trig), first)
		}
	}
}

// P9: objects of several sizes and kinds come to one sum.
func TestSizesTogether(t *testing.T) {
	words := []int{5, 1, 40, 16, 2, 100, 13, 3, 9, 33} // of sizes 6 1 64 16 2 128 16 3 12 64: 312
	for trig := 306; trig <= 320; trig++ {
		h := made(t, 48, 1, trig)
		for k, n := range words {
			if k+1 < len(words) {
				laid(t, h, n, k%2 == 0)
				collections(t, h, fmt.Sprintf("trig %d", trig), 0)
			}
		}
		laid(t, h, words[len(words)-1], false)
		want := 0
		if 312 > trig {
			want = 1
		}
		collections(t, h, fmt.Sprintf("312 words, trig %d", trig), want)
		if c := h.Counts(); want == 1 && (c.Objects != 1 || c.Words != 64) {
			t.Errorf("P9: the collection is ahead of the last object: %+v", c)
		}
	}
}

// P9: the sum begins anew behind each kind of collection; and only objects that were laid count, whatever becomes of them.
func TestSinceTheLastCollection(t *testing.T) {
	behind := func(call string, h *heap.Heap) {
		t.Helper()
		c := h.Counts().Collections
		// trig is 100 here: three times 32 words, and no more.
		given(t, h, 32)
		given(t, h, 20)
		given(t, h, 32)
		collections(t, h, call+", 96 words", c)
		given(t, h, 4)
		collections(t, h, call+", 100 words", c)
		given(t, h, 1)
		collections(t, h, call+", 101 words", c+1)
		given(t, h, 99)
		collections(t, h, call+", 128 words", c+2)
		given(t, h, 1)
		collections(t, h, call+", 129 words", c+3)
	}
	behind("New", made(t, 5, 1, 100))

	h := made(t, 5, 1, 100)
	given(t, h, 90)
	h.Collect()
	behind("Collect", h)

	h = made(t, 5, 1, 100)
	pushed(t, h, laid(t, h, 32, false))
	given(t, h, 60)
	given(t, h, 1)
	collections(t, h, "97 words", 0)
	given(t, h, 128)
	collections(t, h, "a great object", 1)
	h.Collect()
	collections(t, h, "Collect", 2)
	behind("an object that stays", h)

	h = made(t, 2, 1, 100)
	pushed(t, h, laid(t, h, 32, false))
	laid(t, h, 32, false)
	laid(t, h, 32, false)
	collections(t, h, "no room for the third", 1)
	freed(t, h, end(1))
	given(t, h, 32)
	given(t, h, 32)
	collections(t, h, "the third counts", 1)
	given(t, h, 5)
	collections(t, h, "the third counts", 2)
}

// P9: the sum behind collections of an Alloc that ended in ErrFull: nothing was laid.
func TestSinceErrFull(t *testing.T) {
	for _, trig := range []int{100, 90} { // the great one finds no room; it is too much for trig
		h := made(t, 2, 1, trig)
		pushed(t, h, laid(t, h, 32, false))
		if a, e := h.Alloc(64, true); a != 0 || e != api.ErrFull {
			t.Fatalf("P4: trig %d: Alloc(64, true) = %d, %d, want 0, ErrFull", trig, a, e)
		}
		collections(t, h, "ErrFull", 1)
		for k := 0; k < trig/4; k++ {
			given(t, h, 4)
		}
		collections(t, h, fmt.Sprintf("ErrFull, then %d words", trig/4*4), 1)
		given(t, h, trig%4+1)
		collections(t, h, fmt.Sprintf("ErrFull, then %d words", trig+1), 2)
	}
}

// P1, P4: ErrSize goes ahead of P9: no collection, whatever was laid and however full the heap is, and the sum is as it was.
func TestErrSizeMakesNoCollection(t *testing.T) {
	const pages = 2
	for _, trig := range []int{0, 1, 32, 64, 65, 70, 4096} {
		for _, laidPages := range []int{0, 1, 2} {
			h := made(t, pages, 1, trig)
			pushed(t, h, end(0))
			pushed(t, h, end(1)+3)
			for k := 0; k < laidPages; k++ {
				laid(t, h, 32, true)
			}
			before, counts := state(t, h, pages), h.Counts()
			for _, n := range []int{0, -1, -32, math.MinInt, 65, 96, 4097, math.MaxInt} {
				for _, atomic := range []bool{false, true} {
					if a, e := h.Alloc(n, atomic); a != 0 || e != api.ErrSize {
						t.Fatalf("P4: Alloc(%d, %v) = %d, %d, want 0, ErrSize", n, atomic, a, e)
					}
				}
			}
			if !slices.Equal(before, state(t, h, pages)) || counts != h.Counts() {
				t.Fatalf("P1: trig %d: Alloc with ErrSize: from %+v to %+v", trig, counts, h.Counts())
			}
		}
	}
	h := made(t, 3, 1, 65)
	given(t, h, 64)
	for k := 0; k < 5; k++ {
		h.Alloc(97, false)
		h.Alloc(0, false)
	}
	given(t, h, 1)
	collections(t, h, "65 words were laid, others were asked in vain", 0)
	for _, n := range []int{97, 0, -1, math.MinInt, math.MaxInt} {
		h.Alloc(n, true)
	}
	given(t, h, 1)
	collections(t, h, "66 words were laid, others were asked in vain", 1)
}

// keeps: ways to choose which of so many objects stay, where so many lie on a page.
func keeps(way, i, n, per int) bool {
	switch way {
	case 0:
		return true
	case 1:
		return false
	case 2:
		return i%3 == 1
	case 3:
		return i == 0
	case 4:
		return i == n-1
	case 5:
		return i/per == 1
	case 6:
		return i/per != 1
	}
	return i != n/2
}

// P4, P9: a full heap whose objects all stay, some of which stay, none of which stays; of each size and kind, for a new one of each size and kind.
func TestFullHeap(t *testing.T) {
	for _, s := range sizes() {
		for _, atomic := range []bool{false, true} {
			for way := 0; way < 8; way++ {
				for _, n := range []int{1, s, 5, 15, 20, 33, 96} {
					for _, kind := range []bool{false, true} {
						fullHeap(t, s, atomic, way, n, kind)
					}
				}
			}
		}
	}
}

// fullHeap: three of its pages are a table, and three are full of objects of s words.
func fullHeap(t *testing.T, s int, atomic bool, way, n int, kind bool) {
	t.Helper()
	const pages = 6
	call := fmt.Sprintf("objects of %d words, atomic %v, way %d, and then %d words, atomic %v", s, atomic, way, n, kind)
	k := withTable(t, pages, 3)
	m := model{pages: pages, objects: []object{{k.at, 96, false, nil}}}
	per, count := 32/s, 3*(32/s)
	if s > 16 {
		per, count = 1, 3/(s/32)
	}
	for i := 0; i < count; i++ {
		a := k.lay(t, s, atomic)
		fill(t, k.h, a, -1000)
	}
	if s == 64 {
		k.lay(t, 32, atomic)
		per, count = 1, 1
	}
	collections(t, k.h, call, 0)
	for i, a := range slices.Clone(k.of) {
		if a == 0 {
			continue
		}
		if !keeps(way, i, count, per) {
			k.put(t, a, 0)
			continue
		}
		size, _ := k.h.Size(a)
		m.objects = append(m.objects, object{a, size, atomic, nil})
	}
	collections(t, k.h, call, 0)
	rooms := m.rooms(sizeOf(n), kind)
	a, e := k.h.Alloc(n, kind)
	collections(t, k.h, call, 1)
	var want []int
	for _, o := range m.objects {
		want = append(want, o.at)
	}
	if len(rooms) == 0 {
		if a != 0 || e != api.ErrFull {
			t.Fatalf("P4: %s: Alloc = %d, %d, want 0, ErrFull", call, a, e)
		}
		only(t, k.h, pages, call, want...)
		return
	}
	if e != api.OK || !slices.Contains(rooms, a) {
		t.Fatalf("P4, P9: %s: Alloc = %d, %d, where a collection makes room at %v", call, a, e, rooms)
	}
	zeros(t, k.h, a)
	only(t, k.h, pages, call, append(want, a)...)
	bounds(t, k.h, pages, call)
}

// P4, P9: a heap that is full and all of whose objects stay: each Alloc that is refused makes one collection, and nothing else changes.
func TestFullAndAllStays(t *testing.T) {
	for _, trig := range []int{0, 1, 4096} {
		h := made(t, 3, 1, trig)
		pushed(t, h, laid(t, h, 64, false))
		pushed(t, h, laid(t, h, 32, true))
		fill(t, h, api.First, -100)
		fill(t, h, end(2), api.First)
		h.Collect()
		before, c := state(t, h, 3), h.Counts()
		for k := 1; k <= 40; k++ {
			n := 2 + (k*7)%95
			if a, e := h.Alloc(n, k%2 == 0); a != 0 || e != api.ErrFull {
				t.Fatalf("P4: Alloc(%d) in a full heap = %d, %d, want 0, ErrFull", n, a, e)
			}
			collections(t, h, fmt.Sprintf("trig %d, refused %d times", trig, k), c.Collections+k)
			after := state(t, h, 3)
			if i := len(before) - 2; !slices.Equal(before[:i], after[:i]) {
				t.Fatalf("P9: trig %d: an Alloc that is refused changed more than Collections", trig)
			}
		}
	}
}

// P9: with ErrFull, too, the collection has been: it counts, what nobody names has gone, and pages are black; and there is one alone, also if it came by trig and left no room.
func TestErrFullBehindACollection(t *testing.T) {
	for _, trig := range []int{0, 1, 34, 35, 162, 163, 164, 4096} {
		for _, atomic := range []bool{false, true} {
			h := made(t, 4, 1, trig)
			pushed(t, h, end(2)+200)
			a := laid(t, h, 32, false)
			pushed(t, h, a)
			b := laid(t, h, 3, false)
			stored(t, h, a+8, end(3)+1)
			if trig == 0 || trig >= 35 {
				isBlack(t, h, "no collection yet")
				only(t, h, 4, "no collection yet", a, b)
			}
			c := h.Counts().Collections
			if x, e := h.Alloc(128, atomic); x != 0 || e != api.ErrFull {
				t.Fatalf("P4: trig %d: Alloc(128) = %d, %d, want 0, ErrFull", trig, x, e)
			}
			call := fmt.Sprintf("ErrFull at trig %d", trig)
			collections(t, h, call, c+1)
			only(t, h, 4, call, a)
			isBlack(t, h, call, 2, 3)
			bounds(t, h, 4, call)
			if _, e := h.Load(b); e != api.ErrObject {
				t.Errorf("P8: %s: Load of what has gone: %d", call, e)
			}
			if w, e := h.Load(a + 8); w != end(3)+1 || e != api.OK {
				t.Errorf("P8: %s: a word of what stayed is %d, %d", call, w, e)
			}
		}
	}
}

// P9: a collection by trig comes also where there is room, and takes what nobody names; the new object is laid behind it.
func TestTrigWhereThereIsRoom(t *testing.T) {
	h := made(t, 8, 1, 10)
	a := laid(t, h, 4, false)
	pushed(t, h, a+31)
	b := laid(t, h, 4, false)
	only(t, h, 8, "8 words", a, b)
	stored(t, h, a, laid(t, h, 1, true))
	c, _ := h.Load(a)
	stored(t, h, c, b)
	collections(t, h, "9 words", 0)
	d := laid(t, h, 2, false)
	collections(t, h, "11 words", 1)
	only(t, h, 8, "11 words", a, c, d)
	if w, _ := h.Load(a); w != c {
		t.Errorf("P8: a word of what stayed is %d", w)
	}
	if w, _ := h.Load(c); w != b {
		t.Errorf("P8: a word of what stayed is %d", w)
	}
	e := laid(t, h, 100, false)
	collections(t, h, "130 words", 2)
	only(t, h, 8, "130 words", a, c, e)
}

// P8, P9: a collection by trig may make black the only page there was: then there is no room for what is not atomic.
func TestTrigBlackensTheOnlyRoom(t *testing.T) {
	for _, n := range append(slices.Clone(small), 20, 32) {
		for _, trig := range []int{0, max(sizeOf(n)-1, 1), sizeOf(n)} {
			for _, atomic := range []bool{false, true} {
				h := made(t, 1, 1, trig)
				pushed(t, h, api.First+100)
				a, e := h.Alloc(n, atomic)
				due := trig != 0 && sizeOf(n) > trig
				if due && !atomic {
					if a != 0 || e != api.ErrFull {
						t.Fatalf("P4: trig %d: Alloc(%d, false) on a black page = %d, %d", trig, n, a, e)
					}
				} else if a != api.First || e != api.OK {
					t.Fatalf("P4: trig %d: Alloc(%d, %v) = %d, %d", trig, n, atomic, a, e)
				}
				if due {
					collections(t, h, "by trig", 1)
					isBlack(t, h, "by trig", 0)
				} else {
					collections(t, h, "there is room", 0)
					isBlack(t, h, "there is room")
				}
			}
		}
	}
}

// P8, P9: where black pages alone are left there is no room for what is not atomic: the collection makes room if they are named no more.
func TestCollectionTakesBlackAway(t *testing.T) {
	for _, n := range []int{1, 3, 16, 20, 64} {
		for _, still := range []bool{false, true} {
			h := made(t, 2, 1, 0)
			pushed(t, h, end(0)+9)
			pushed(t, h, end(1)+9)
			h.Collect()
			isBlack(t, h, "both are named", 0, 1)
			if !still {
				h.Pop()
				h.Set(0, 5)
			}
			a, e := h.Alloc(n, false)
			collections(t, h, "black pages are no room", 2)
			if still {
				if a != 0 || e != api.ErrFull {
					t.Fatalf("P4: Alloc(%d, false), all pages black, = %d, %d", n, a, e)
				}
				isBlack(t, h, "named still", 0, 1)
				a, e = h.Alloc(n, true)
				collections(t, h, "black pages are room for what is atomic", 2)
			} else {
				isBlack(t, h, "named no more")
			}
			if a < api.First || e != api.OK {
				t.Fatalf("P9: Alloc(%d) = %d, %d", n, a, e)
			}
			zeros(t, h, a)
		}
	}
}

// P9: as long as there is room and trig is not passed there is no collection, whatever else is called.
func TestNoOtherCallCollects(t *testing.T) {
	for _, trig := range []int{0, 32, 4096} {
		h := made(t, 1, 1, trig)
		for k := 0; k < 32; k++ {
			laid(t, h, 1, false)
		}
		pushed(t, h, api.First)
		for k := 0; k < 10; k++ {
			x := api.First + 8*k
			h.Base(x)
			h.Size(x + 1)
			h.Load(x)
			h.Store(x, x+9)
			h.Store(x+1, 0)
			h.Push(x)
			h.Set(0, x)
			h.Pop()
			h.Sweep(k)
			h.Walk()
			h.Black()
			h.Free(x + 1)
			h.Free(x)
			h.Free(x)
			h.Alloc(33, true)
			h.Alloc(0, false)
			c := h.Counts()
			if c.Collections != 0 || c.Objects != 31-k || c.Unswept != 0 {
				t.Fatalf("P9: trig %d: no Alloc that passes it, and yet %+v", trig, c)
			}
		}
	}
}

// linked tells a heap a series of calls that hangs on seed alone; its objects name one another, and collections come by themselves. What it answers, but for Again.
func linked(t *testing.T, h *heap.Heap, pages, seed int) []int {
	t.Helper()
	r := source(seed)
	at := []int{api.First}
	var l []int
	for k := 0; k < 250; k++ {
		a, e := h.Alloc(1+r.below(1+r.below(40)), r.below(4) == 0)
		l = append(l, a, int(e))
		if e == api.OK {
			at = append(at, a)
		}
		for i := 0; i < 2; i++ {
			from, to := at[r.below(len(at))], at[r.below(len(at))]
			// The newest ones are named more often than others, lest most words name what has gone.
			if i == 0 {
				to = at[len(at)-1] + r.below(8)
			}
			l = append(l, int(h.Store(from+8*r.below(2), to)))
		}
		if r.below(3) == 0 {
			l = append(l, keepStep(h, &r, at[len(at)-1-r.below(min(9, len(at)))])...)
		}
		if k%25 == 0 {
			s := state(t, h, pages)
			l = append(l, s[:len(s)-1]...) // without Again
		}
	}
	return l
}

// P3: two heaps that differ in room alone, with collections that come by themselves: the same answers, addresses too.
func TestRoomDoesNotShowWithCollections(t *testing.T) {
	for _, pages := range []int{2, 5, 12} {
		for _, trig := range []int{0, 1, 30, 100, 250} {
			for seed := 1; seed <= 3; seed++ {
				first := made(t, pages, 1, trig)
				want := linked(t, first, pages, seed)
				if first.Counts().Collections < 10 {
					t.Errorf("%d pages, trig %d: the series is too tame: %+v", pages, trig, first.Counts())
				}
				for room := 2; room <= api.MaxStack; room++ {
					h := made(t, pages, room, trig)
					if !slices.Equal(want, linked(t, h, pages, seed)) {
						t.Fatalf("P3: %d pages, trig %d: room %d shows in other answers than Again", pages, trig, room)
					}
				}
			}
		}
	}
}

// P2: collections that come by themselves in one heap show in no other.
func TestHeapsCollectByThemselves(t *testing.T) {
	h, g := made(t, 2, 1, 10), made(t, 2, 1, 10)
	a := laid(t, h, 4, false)
	b := laid(t, h, 4, false)
	for k := 0; k < 20; k++ {
		laid(t, g, 4, false)
	}
	only(t, h, 2, "another heap collected", a, b)
	collections(t, h, "another heap collected", 0)
	laid(t, h, 2, false)
	collections(t, h, "10 words", 0)
	laid(t, h, 1, false)
	collections(t, h, "11 words", 1)
}
