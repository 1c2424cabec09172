package heap_test

import (
	"fmt"
	"math"
	"slices"
	"testing"

	"collector/api"
	"collector/heap"
)

// P1: every call ends, also where collections come by themselves.
func TestEveryCallAtAllNumbers(t *testing.T) {
	const pages = 3
	for _, laidWords := range []int{0, 3, 16, 32, 64, 96} {
		h := made(t, pages, 2, 0)
		if laidWords > 0 {
			h.Push(laid(t, h, laidWords, laidWords%2 == 0))
		}
		for _, x := range numbers(pages) {
			for _, y := range []int{0, math.MinInt, math.MaxInt} {
				for _, trig := range []int{0, 1, 4096} {
					callAll(made(t, pages, 2, trig), x, y)
				}
				heap.New(x, y, y)
				heap.New(y, x, y)
				heap.New(y, y, x)
				heap.New(1, 1, x)
				heap.New(1, x, 0)
			}
			atNumber(t, h, x, laidWords)
		}
	}
}

// callAll makes every call, with these numbers.
func callAll(h *heap.Heap, x, y int) {
	h.Push(x)
	h.Set(y, x)
	h.Set(x, y)
	h.Alloc(x, true)
	h.Alloc(x, false)
	h.Store(x, y)
	h.Collect()
	h.Sweep(x)
	h.Pop()
	h.Pop()
	h.Walk()
	h.Black()
	h.Counts()
	h.Free(x)
}

// atNumber: what the calls answer at x in a heap with one object, from First on.
func atNumber(t *testing.T, h *heap.Heap, x, words int) {
	t.Helper()
	within := x >= api.First && x < api.First+8*words
	want := [6]int{0, int(api.ErrObject), 0, int(api.ErrObject), 0, int(api.ErrObject)}
	free, store := api.ErrObject, api.ErrObject
	if within {
		want = [6]int{api.First, 0, words, 0, 0, 0}
		free, store = api.ErrBase, api.OK
	}
	if x%8 != 0 {
		want[4], want[5], store = 0, int(api.ErrAlign), api.ErrAlign
	}
	b, e := h.Base(x)
	s, f := h.Size(x)
	w, g := h.Load(x)
	if got := [6]int{b, int(e), s, int(f), w, int(g)}; got != want {
		t.Errorf("P1: %d words: Base, Size and Load of %d = %v, want %v", words, x, got, want)
	}
	if e := h.Store(x, 0); e != store {
		t.Errorf("P1: %d words: Store(%d) = %d, want %d", words, x, e, store)
	}
	if x == api.First && within {
		return
	}
	if e := h.Free(x); e != free {
		t.Errorf("P1: %d words: Free(%d) = %d, want %d", words, x, e, free)
	}
}

// P1: where several errors apply.
func TestErrorNamedFirst(t *testing.T) {
	h := made(t, 1, 1, 0)
	for _, a := range []int{api.First + 1, api.First - 1, end(1) + 4, 3, -3, math.MaxInt, math.MinInt + 1} {
		if w, e := h.Load(a); w != 0 || e != api.ErrAlign {
			t.Errorf("P6: Load(%d) = %d, %d, want 0, ErrAlign", a, w, e)
		}
		if e := h.Store(a, 1); e != api.ErrAlign {
			t.Errorf("P6: Store(%d) = %d, want ErrAlign", a, e)
		}
	}
	h.Push(laid(t, h, 32, true))
	for _, n := range []int{0, -1, math.MinInt, 33, 64, math.MaxInt} {
		if a, e := h.Alloc(n, false); a != 0 || e != api.ErrSize {
			t.Errorf("P4: Alloc(%d) in a full heap = %d, %d, want 0, ErrSize", n, a, e)
		}
	}
	full(t, h, 1, 1, false)
}

// wrong makes one call that ends in an error; a is an object of three words.
func wrong(h *heap.Heap, k int, a int) (string, int, api.Errno, api.Errno) {
	switch k {
	case 0:
		x, e := h.Alloc(0, true)
		return "Alloc(0)", x, e, api.ErrSize
	case 1:
		x, e := h.Alloc(129, false)
		return "Alloc(129)", x, e, api.ErrSize
	case 2:
		return "Free(behind)", 0, h.Free(a + 24), api.ErrObject
	case 3:
		return "Free(within)", 0, h.Free(a + 8), api.ErrBase
	case 4:
		return "Free(last byte)", 0, h.Free(a + 23), api.ErrBase
	case 5:
		x, e := h.Base(a + 24)
		return "Base(behind)", x, e, api.ErrObject
	case 6:
		x, e := h.Size(a + 24)
		return "Size(behind)", x, e, api.ErrObject
	case 7:
		x, e := h.Load(a + 4)
		return "Load(odd)", x, e, api.ErrAlign
	case 8:
		x, e := h.Load(a + 24)
		return "Load(behind)", x, e, api.ErrObject
	case 9:
		return "Store(odd)", 0, h.Store(a+4, 77), api.ErrAlign
	case 10:
		return "Store(behind)", 0, h.Store(a+24, 77), api.ErrObject
	}
	x, e := h.Alloc(math.MinInt, false)
	return "Alloc(least)", x, e, api.ErrSize
}

// P1: with an error the other result is 0 and nothing has changed, neither what is seen nor what comes of later calls.
func TestErrorsChangeNothing(t *testing.T) {
	for k := 0; k < 12; k++ {
		h, g := made(t, 4, 4, 0), made(t, 4, 4, 0)
		for _, x := range []*heap.Heap{h, g} {
			fill(t, x, laid(t, x, 3, false), 500)
			fill(t, x, laid(t, x, 40, true), 600)
		}
		before := shown(h, 4)
		call, x, e, want := wrong(h, k, api.First)
		if x != 0 || e != want {
			t.Errorf("P1: %s = %d, %d, want 0, %d", call, x, e, want)
		}
		unchanged(t, h, 4, before, call)
		a, b := laid(t, h, 3, false), laid(t, g, 3, false)
		c, d := laid(t, h, 3, true), laid(t, g, 3, true)
		if a != b || c != d || !slices.Equal(shown(h, 4), shown(g, 4)) {
			t.Errorf("P1: behind %s objects are laid otherwise: %d %d, not %d %d", call, a, c, b, d)
		}
	}
}

// P2: each heap answers as if it were alone, whatever is done to others between its calls.
func TestHeapsSideBySide(t *testing.T) {
	for seed := 1; seed <= 10; seed++ {
		h := made(t, 48, 4, 0)
		alone := answers(h, seed)
		seen := state(t, h, 48)
		other := made(t, 48, 4, 0)
		answers(other, seed+100)
		if again := state(t, h, 48); !slices.Equal(seen, again) {
			t.Fatalf("P2: what was done to one heap shows in another")
		}
		g := made(t, 48, 4, 0)
		if !slices.Equal(alone, answers(g, seed)) || !slices.Equal(seen, state(t, g, 48)) || h.Counts() != g.Counts() {
			t.Fatalf("P2: the same calls to another heap have other answers (seed %d)", seed)
		}
	}
}

// P2: calls in turn.
func TestHeapsInTurn(t *testing.T) {
	h, g := made(t, 4, 4, 0), made(t, 4, 4, 0)
	for k := 0; k < 8; k++ {
		a := laid(t, h, 4, false)
		b := laid(t, g, 4, false)
		if a != b || a != api.First+32*k {
			t.Fatalf("P2: object %d lies at %d in one heap and at %d in the other", k, a, b)
		}
		fill(t, h, a, 100*k)
		zeros(t, g, b)
	}
	freed(t, h, api.First)
	if _, e := g.Base(api.First); e != api.OK {
		t.Errorf("P2: what went from one heap went from the other: %d", e)
	}
	laid(t, h, 64, true)
	if _, e := g.Base(api.First + 2*api.PageBytes); e != api.ErrObject {
		t.Errorf("P2: what was laid in one heap lies in the other: %d", e)
	}
}

func TestNewArguments(t *testing.T) {
	for _, pages := range []int{math.MinInt, -1, 0, 1, 2, 47, 48, 49, 1 << 32, math.MaxInt} {
		for _, room := range []int{math.MinInt, -1, 0, 1, 2, 15, 16, 17, 1 << 32, math.MaxInt} {
			for _, trig := range []int{math.MinInt, -1, 0, 1, 4095, 4096, 4097, 1 << 32, math.MaxInt} {
				good := pages >= 1 && pages <= 48 && room >= 1 && room <= 16 && trig >= 0 && trig <= 4096
				h, e := heap.New(pages, room, trig)
				if good && (h == nil || e != api.OK) || !good && (h != nil || e != api.ErrArg) {
					t.Errorf("P3: New(%d, %d, %d) = %v, %d", pages, room, trig, h != nil, e)
				}
			}
		}
	}
}

// P3: a new heap has no object, and so many pages.
func TestNewHeap(t *testing.T) {
	for pages := 1; pages <= 48; pages++ {
		h := made(t, pages, 1, 0)
		for a := api.First - 9; a < end(pages)+9; a++ {
			b, e := h.Base(a)
			s, f := h.Size(a)
			if b != 0 || s != 0 || e != api.ErrObject || f != api.ErrObject {
				t.Fatalf("P3: at %d of a new heap: Base %d %d, Size %d %d", a, b, e, s, f)
			}
		}
		if a, e := h.Alloc(32*pages+1, false); a != 0 || e != api.ErrSize {
			t.Errorf("P4: %d pages: Alloc of one word more = %d, %d", pages, a, e)
		}
		if a := laid(t, h, 32*pages, false); a != api.First {
			t.Errorf("P4: %d pages: Alloc of all words = %d", pages, a)
		}
	}
}

// P3: room shows in no answer, nor does a trig that is not come to.
func TestRoomDoesNotShow(t *testing.T) {
	for seed := 1; seed <= 10; seed++ {
		h := made(t, 48, 1, 0)
		want := answers(h, seed)
		for room := 1; room <= 16; room++ {
			for _, trig := range []int{0, 4096} {
				g := made(t, 48, room, trig)
				if !slices.Equal(want, answers(g, seed)) || !slices.Equal(shown(h, 48), shown(g, 48)) {
					t.Fatalf("P3: a heap of room %d and trig %d has other answers", room, trig)
				}
			}
		}
	}
}

// P4, P5: each size from one word up to all pages.
func TestEachSize(t *testing.T) {
	for _, pages := range []int{1, 2, 5, 48} {
		for n := 1; n <= 32*pages; n++ {
			h := made(t, pages, 1, 0)
			atomic := n%2 == 0
			a := laid(t, h, n, atomic)
			size := sizeOf(n)
			if a != api.First {
				t.Errorf("P4: Alloc(%d) = %d", n, a)
			}
			for _, x := range []int{a, a + 1, a + 8*n - 1, a + 8*size - 1} {
				b, e := h.Base(x)
				s, f := h.Size(x)
				if b != a || s != size || e != api.OK || f != api.OK {
					t.Errorf("P5: %d words, byte %d: Base %d %d, Size %d %d, want %d, %d", n, x-a, b, e, s, f, a, size)
				}
			}
			for _, x := range []int{a - 1, a + 8*size} {
				if b, e := h.Base(x); b != 0 || e != api.ErrObject {
					t.Errorf("P5: %d words, byte %d: Base %d, %d, want ErrObject", n, x-a, b, e)
				}
			}
			zeros(t, h, a)
		}
	}
}

// P5: an object lies at every byte of its words and at no other, also where a page has words to spare.
func TestEveryByte(t *testing.T) {
	for _, size := range append(slices.Clone(small), 32, 64) {
		h := made(t, 4, 1, 0)
		per := max(1, 32/size)
		for k := 0; k < per; k++ {
			laid(t, h, size, false)
		}
		for x := api.First; x < end(4); x++ {
			k := (x - api.First) / (8 * size)
			b, e := h.Base(x)
			if k < per && (b != api.First+8*size*k || e != api.OK) || k >= per && (b != 0 || e != api.ErrObject) {
				t.Errorf("P5: objects of %d words: Base of byte %d = %d, %d", size, x-api.First, b, e)
			}
		}
	}
}

// Objects of one size and kind share pages; every other size and kind begins a page.
func TestPagesOfSizesAndKinds(t *testing.T) {
	h := made(t, 48, 1, 0)
	var first []int
	for _, atomic := range []bool{false, true} {
		for _, size := range small {
			a := laid(t, h, size, atomic)
			first = append(first, a)
			if want := api.First + api.PageBytes*(len(first)-1); a != want {
				t.Errorf("%d words, atomic %v: the first at %d, want %d", size, atomic, a, want)
			}
		}
	}
	great := laid(t, h, 33, true)
	if want := api.First + api.PageBytes*len(first); great != want {
		t.Errorf("33 words at %d, want %d", great, want)
	}
	for k, a := range first {
		size, atomic := small[k%8], k >= 8
		if b := laid(t, h, size, atomic); b != a+8*size {
			t.Errorf("%d words, atomic %v: the second at %d, want %d", size, atomic, b, a+8*size)
		}
	}
	for _, n := range []int{17, 32, 64} {
		if a := laid(t, h, n, false); a%api.PageBytes != 0 || pageOf(a) <= pageOf(great)+1 {
			t.Errorf("%d words at %d: not on pages of their own", n, a)
		}
	}
}

// P4: no ErrFull while there is room, ErrFull when there is none; places are taken from the lowest on.
func TestFullOnlyWithoutRoom(t *testing.T) {
	for _, atomic := range []bool{false, true} {
		for _, size := range append(slices.Clone(small), 32, 64, 96) {
			t.Run(fmt.Sprint(size, atomic), func(t *testing.T) {
				fillPages(t, size, atomic)
			})
		}
	}
}

func fillPages(t *testing.T, size int, atomic bool) {
	const pages = 6
	k := withTable(t, pages, 3)
	per, step := 32/size, 1
	if size > 16 {
		per, step = 1, size/32
	}
	for p := 3; p+step <= pages; p += step {
		for i := 0; i < per; i++ {
			a := k.lay(t, size, atomic)
			if want := api.First + api.PageBytes*p + 8*size*i; a != want {
				t.Fatalf("object %d of page %d at %d, want %d", i, p, a, want)
			}
			fill(t, k.h, a, -1000)
		}
	}
	full(t, k.h, pages, size, atomic)
	if size == 64 {
		return // a page is left
	}
	for _, n := range append(slices.Clone(small), 32, 64, 192) {
		full(t, k.h, pages, n, !atomic)
		full(t, k.h, pages, n, atomic)
	}
}

// P4, P5: a place that was given back is room for its size and kind alone; a page on which nothing is left, for all.
func TestRoomOfWhatWasGivenBack(t *testing.T) {
	const pages = 4
	for _, size := range small {
		for _, atomic := range []bool{false, true} {
			k := withTable(t, pages, 2)
			other := small[(slices.Index(small, size)+1)%8]
			var at []int
			for i := 0; i < 2*(32/size); i++ {
				at = append(at, k.lay(t, size, atomic))
				fill(t, k.h, at[i], -1000)
			}
			for _, i := range []int{0, len(at)/2 - 1, len(at) / 2, len(at) - 1} {
				k.free(t, at[i])
				full(t, k.h, pages, size, !atomic)
				full(t, k.h, pages, other, atomic)
				full(t, k.h, pages, 32, atomic)
				a := k.lay(t, size, atomic)
				if a != at[i] {
					t.Fatalf("%d words: laid at %d, where the only room was at %d", size, a, at[i])
				}
				zeros(t, k.h, a)
				fill(t, k.h, a, -1000)
			}
			for _, a := range at[:len(at)/2] {
				k.free(t, a)
			}
			full(t, k.h, pages, 33, true)
			a := k.lay(t, other, !atomic)
			if pageOf(a) != 2 {
				t.Fatalf("%d words: laid at %d, where the only room was page 2", other, a)
			}
			zeros(t, k.h, a)
			k.free(t, a)
			a = k.lay(t, 20, atomic)
			if a != api.First+2*api.PageBytes {
				t.Fatalf("20 words: laid at %d, where the only room was page 2", a)
			}
			zeros(t, k.h, a)
		}
	}
}

// P4: greater objects need pages side by side.
func TestPagesSideBySide(t *testing.T) {
	const pages = 7
	k := withTable(t, pages, 1)
	var at []int
	for i := 0; i < 6; i++ {
		at = append(at, k.lay(t, 32, i%2 == 0))
		fill(t, k.h, at[i], 7000)
	}
	k.free(t, at[0])
	k.free(t, at[2])
	k.free(t, at[5])
	full(t, k.h, pages, 64, true)
	full(t, k.h, pages, 96, false)
	k.free(t, at[4])
	full(t, k.h, pages, 96, false)
	a := k.lay(t, 64, false)
	if a != at[4] {
		t.Fatalf("64 words: laid at %d, where the only room was at %d", a, at[4])
	}
	zeros(t, k.h, a)
	k.free(t, a)
	k.free(t, at[3])
	a = k.lay(t, 100, true)
	if a != at[2] {
		t.Fatalf("128 words: laid at %d, where the only room was at %d", a, at[2])
	}
	zeros(t, k.h, a)
	full(t, k.h, pages, 64, true)
	if b := k.lay(t, 16, true); pageOf(b) != 1 {
		t.Errorf("16 words: laid at %d, where the only room was page 1", b)
	}
}

// P5: only the object that is given back goes; all of it goes.
func TestFree(t *testing.T) {
	for _, size := range append(slices.Clone(small), 32, 64) {
		h := made(t, 6, 1, 0)
		a, b, c := laid(t, h, size, false), laid(t, h, size, false), laid(t, h, size, false)
		fill(t, h, a, 100)
		fill(t, h, c, 300)
		for i := 1; i < 8*size; i++ {
			if e := h.Free(b + i); e != api.ErrBase {
				t.Fatalf("P5: %d words: Free of byte %d = %d, want ErrBase", size, i, e)
			}
		}
		freed(t, h, b)
		for i := 0; i < 8*size; i++ {
			x, e := h.Base(b + i)
			s, f := h.Size(b + i)
			if x != 0 || s != 0 || e != api.ErrObject || f != api.ErrObject {
				t.Fatalf("P5: %d words: byte %d of what went: Base %d %d, Size %d %d", size, i, x, e, s, f)
			}
			if e := h.Free(b + i); e != api.ErrObject {
				t.Fatalf("P5: %d words: Free of byte %d of what went = %d", size, i, e)
			}
		}
		for i := 0; i < size; i++ {
			v, e := h.Load(a + 8*i)
			w, f := h.Load(c + 8*i)
			if v != 100+i || w != 300+i || e != api.OK || f != api.OK {
				t.Fatalf("P5: %d words: Free changed the neighbours: %d %d, %d %d", size, v, e, w, f)
			}
			if w, e := h.Load(b + 8*i); w != 0 || e != api.ErrObject {
				t.Fatalf("P6: %d words: Load of what went = %d, %d", size, w, e)
			}
			if e := h.Store(b+8*i, 1); e != api.ErrObject {
				t.Fatalf("P6: %d words: Store to what went = %d", size, e)
			}
		}
	}
}

// P6: any int is a word, atomic or not; the words beside it stay.
func TestWords(t *testing.T) {
	values := []int{0, 1, -1, math.MaxInt, math.MinInt, api.First, api.First + 5, 1 << 32}
	for _, n := range []int{1, 3, 16, 64} {
		for _, atomic := range []bool{false, true} {
			h := made(t, 4, 1, 0)
			laid(t, h, n, atomic)
			a := laid(t, h, n, atomic)
			for i := 0; i < n; i++ {
				for _, v := range values {
					before := shown(h, 4)
					x := a + 8*i
					stored(t, h, x, v)
					before[6*(x-(api.First-9))+4] = v
					unchanged(t, h, 4, before, "Store, beside its word,")
				}
			}
			for d := 1; d < 8; d++ {
				w, e := h.Load(a + d)
				f := h.Store(a+d, 9)
				if w != 0 || e != api.ErrAlign || f != api.ErrAlign {
					t.Errorf("P6: %d bytes into a word: Load %d %d, Store %d", d, w, e, f)
				}
			}
		}
	}
}
