package heap_test

import (
	"math"
	"slices"
	"testing"

	"collector/api"
	"collector/heap"
)

// P12: Counts of a heap ahead of its first collection tells what lies there, step by step.
func TestCountsAheadOfCollections(t *testing.T) {
	const pages = 10
	h := made(t, pages, 1, 0)
	if c := h.Counts(); c != (api.Counts{}) {
		t.Errorf("P12: a new heap: %+v", c)
	}
	want := api.Counts{}
	for k, c := range []struct{ n, used int }{{1, 1}, {1, 1}, {3, 2}, {5, 3}, {64, 5}, {17, 6}, {16, 7}, {16, 7}, {16, 8}, {40, 10}} {
		laid(t, h, c.n, false)
		want.Objects++
		want.Words += sizeOf(c.n)
		want.Used = c.used
		if got := h.Counts(); got != want {
			t.Errorf("P12: object %d, of %d words: %+v, want %+v", k, c.n, got, want)
		}
	}
	for _, w := range []int{api.First, 7, end(9)} {
		pushed(t, h, w)
	}
	stored(t, h, api.First, 99)
	h.Sweep(5)
	h.Black()
	if got := h.Counts(); got != want {
		t.Errorf("P12: behind calls that lay and take no object: %+v, want %+v", got, want)
	}
	for _, a := range objectsOf(h, pages) {
		size, _ := h.Size(a)
		freed(t, h, a)
		want.Objects--
		want.Words -= size
		want.Used = busy(h, pages)
		if got := h.Counts(); got != want {
			t.Errorf("P12: Free(%d): %+v, want %+v", a, got, want)
		}
	}
}

// P12: Collections counts all of them, in a heap without objects, too.
func TestCollectionsAreCounted(t *testing.T) {
	h := made(t, 3, 1, 0)
	for k := 1; k <= 100; k++ {
		collected(t, h, 3, 1)
		if c := h.Counts(); c != (api.Counts{Collections: k}) {
			t.Fatalf("P12: collection %d of a heap without objects: %+v", k, c)
		}
	}
	for k := 101; k <= 200; k++ {
		laid(t, h, k%96+1, k%2 == 0)
		collected(t, h, 3, 1)
		if c := h.Counts(); c.Objects != 0 || c.Words != 0 || c.Collections != k || c.Again != 0 {
			t.Fatalf("P12: collection %d, nothing stayed: %+v", k, c)
		}
	}
}

// P11: nothing is unswept ahead of the first collection, whatever goes; Sweep has nothing to do then.
func TestNothingUnsweptAtFirst(t *testing.T) {
	h := made(t, 8, 1, 0)
	for _, n := range []int{3, 3, 40, 16, 40} {
		pushed(t, h, laid(t, h, n, false))
	}
	freed(t, h, api.First)
	for _, a := range objectsOf(h, 8)[1:3] {
		freed(t, h, a)
	}
	for _, n := range []int{0, -1, 1, 2, 8, 48, math.MaxInt, math.MinInt} {
		before, counts := state(t, h, 8), h.Counts()
		h.Sweep(n)
		if !slices.Equal(before, state(t, h, 8)) || h.Counts() != counts || counts.Unswept != 0 {
			t.Errorf("P11: Sweep(%d) ahead of the first collection: %+v, then %+v", n, counts, h.Counts())
		}
	}
}

// mixed: a heap behind a collection in which some objects stayed: pages of small objects and of great ones, some of them left without objects.
func mixed(t *testing.T, pages int) *heap.Heap {
	t.Helper()
	h := made(t, pages, 2, 0)
	for k, n := range []int{3, 40, 16, 1, 64, 90, 16, 12, 5, 20, 3, 70} {
		a := laid(t, h, n, k%3 == 0)
		fill(t, h, a, -100*k-100)
		if k%2 == 0 {
			pushed(t, h, a)
		}
	}
	pushed(t, h, end(pages)-1)
	collected(t, h, pages, 2)
	return h
}

// P11: Sweep(n) leaves at least n pages fewer unswept, or none; nothing else that is told changes, but Used.
func TestSweep(t *testing.T) {
	const pages = 24
	for _, n := range []int{1, 2, 3, 5, 23, 24, 25, 48, 49, 1 << 32, math.MaxInt} {
		h := mixed(t, pages)
		before := state(t, h, pages)
		for k := 0; k < 30; k++ {
			c := h.Counts()
			h.Sweep(n)
			d := h.Counts()
			if d.Unswept != 0 && d.Unswept > c.Unswept-n || d.Unswept > c.Unswept || d.Used > c.Used {
				t.Fatalf("P11: Sweep(%d): from %+v to %+v", n, c, d)
			}
			bounds(t, h, pages, "Sweep")
			if !slices.Equal(before, state(t, h, pages)) {
				t.Fatalf("P11: Sweep(%d) changed more than Used and Unswept", n)
			}
		}
		if c := h.Counts(); c.Unswept != 0 || c.Used != busy(h, pages) {
			t.Fatalf("P11, P12: all is swept: %+v, where objects lie on %d pages", c, busy(h, pages))
		}
		collected(t, h, pages, 2)
		if c := h.Counts(); c.Unswept != busy(h, pages) {
			t.Fatalf("P11: a collection where all was swept: %+v, where objects lie on %d pages", c, busy(h, pages))
		}
	}
}

// P11: at 0 or less nothing happens at all.
func TestSweepNothing(t *testing.T) {
	for _, n := range []int{0, -1, -2, -48, -1 << 32, math.MinInt, math.MinInt + 1} {
		for first := 0; first < 5; first++ {
			h := mixed(t, 24)
			h.Sweep(first)
			before, counts := state(t, h, 24), h.Counts()
			h.Sweep(n)
			if !slices.Equal(before, state(t, h, 24)) || h.Counts() != counts {
				t.Errorf("P11: Sweep(%d): from %+v to %+v", n, counts, h.Counts())
			}
		}
	}
}

// P11: at most n runs: of pages of small objects that stayed just n, of greater objects all pages of n of them.
func TestSweepRuns(t *testing.T) {
	for _, c := range []struct{ words, runPages int }{{16, 1}, {12, 1}, {32, 1}, {64, 2}, {96, 3}} {
		for n := 1; n <= 6; n++ {
			h := made(t, 18, 1, 0)
			for k := 0; k < 5; k++ {
				// Two of them lie on a page, if they are small.
				pushed(t, h, laid(t, h, c.words, false))
				if c.words <= 16 {
					pushed(t, h, laid(t, h, c.words, false))
				}
			}
			collected(t, h, 18, 1)
			h.Sweep(n)
			if got, want := h.Counts().Unswept, c.runPages*max(5-n, 0); got != want {
				t.Errorf("P11: five runs of %d pages, Sweep(%d): %d pages are unswept, want %d", c.runPages, n, got, want)
			}
		}
	}
}

// P11: whatever is swept, the calls that follow answer the same, as long as they lay no object; and there is room for just the same ones.
func TestNothingHangsOnSweep(t *testing.T) {
	const pages = 18
	for n := 1; n <= 12; n++ {
		for seed := 1; seed <= 8; seed++ {
			h, g := mixed(t, pages), mixed(t, pages)
			g.Sweep(n)
			r, q := source(seed), source(seed)
			at := objectsOf(h, pages)
			for k := 0; k < 60; k++ {
				x := at[k*seed%len(at)]
				if a, b := keptAnswers(h, &r, x), keptAnswers(g, &q, x); !slices.Equal(a, b) {
					t.Fatalf("P11: behind Sweep(%d) a call answers %v, not %v", n, b, a)
				}
				g.Sweep(k % 3)
				bounds(t, g, pages, "Sweep between calls")
			}
			if !slices.Equal(state(t, h, pages), state(t, g, pages)) {
				t.Fatalf("P11: the same calls, one heap swept: what is told differs")
			}
			words := 1 + r.below(300)
			_, e := h.Alloc(words, seed%2 == 0)
			if _, f := g.Alloc(words, seed%2 == 0); e != f {
				t.Fatalf("P11: behind Sweep Alloc(%d) = %d, not %d", words, f, e)
			}
		}
	}
}

// keptAnswers: one call that lays no object, and its answer, without Used and Unswept.
func keptAnswers(h *heap.Heap, r *source, x int) []int {
	switch r.below(8) {
	case 0:
		return []int{int(h.Push(x + r.below(300)))}
	case 1:
		w, e := h.Pop()
		return []int{w, int(e)}
	case 2:
		return []int{int(h.Set(r.below(4), x+r.below(300)))}
	case 3:
		h.Collect()
	case 4:
		return h.Black()
	case 5:
		return step(h, r, x)
	case 6:
		return []int{int(h.Store(x, x+r.below(300)))}
	}
	c := h.Counts()
	return []int{c.Objects, c.Words, c.Collections, c.Again}
}

// P11, P12: what lies on unswept pages can be given back like anything else.
func TestFreeOnUnsweptPages(t *testing.T) {
	const pages = 24
	for swept := 0; swept < 6; swept++ {
		h := mixed(t, pages)
		h.Sweep(swept)
		l := objectsOf(h, pages)
		for k, a := range l {
			freed(t, h, a)
			only(t, h, pages, "Free on unswept pages", l[k+1:]...)
			bounds(t, h, pages, "Free on unswept pages")
		}
		h.Sweep(pages)
		if c := h.Counts(); c != (api.Counts{Collections: 1, Again: c.Again}) {
			t.Errorf("P12: all has gone and is swept: %+v", c)
		}
		// The last page is black: what is not atomic has all others.
		if a := laid(t, h, 32*(pages-1), false); a != api.First {
			t.Errorf("P4: all pages but the last at %d", a)
		}
	}
}

// P11, P12: collections behind collections, with more and less swept between them.
func TestCollectionsInARow(t *testing.T) {
	const pages = 24
	for swept := 0; swept < 6; swept++ {
		h := mixed(t, pages)
		for len(rootsOf(t, h)) > 0 {
			h.Sweep(swept)
			bounds(t, h, pages, "between collections")
			h.Pop()
			before := objectsOf(h, pages)
			collected(t, h, pages, 2)
			for _, a := range objectsOf(h, pages) {
				if !slices.Contains(before, a) {
					t.Fatalf("P8: a collection brought an object back: %d", a)
				}
			}
			if n := len(rootsOf(t, h)); h.Counts().Objects != n {
				t.Fatalf("P8: %d roots, %+v", n, h.Counts())
			}
		}
		only(t, h, pages, "no root any more")
	}
}
