package heap_test

import (
	"math"
	"slices"
	"testing"

	"collector/api"
	"collector/heap"
)

// P7: a long series of calls, held against a plain list.
func TestRootsAreAList(t *testing.T) {
	values := append(numbers(2), 1, 2, 3, api.First+40)
	for seed := 1; seed <= 6; seed++ {
		h := made(t, 2, 1, 0)
		r := source(seed)
		var want []int
		for k := 0; k < 3000; k++ {
			w := values[r.below(len(values))]
			// Stretches in which the list grows and stretches in which it shrinks, so that it is full at times and empty at times.
			growing := r.below(10) < 7
			if k/200%2 == 1 {
				growing = !growing
			}
			switch {
			case r.below(3) == 0:
				want = setRoot(t, h, want, r.below(api.MaxRoots+4)-2, w)
			case growing:
				want = pushRoot(t, h, want, w)
			default:
				want = popRoot(t, h, want)
			}
		}
		if got := rootsOf(t, h); !slices.Equal(got, want) {
			t.Fatalf("P7: the roots are %v, want %v", got, want)
		}
	}
}

func pushRoot(t *testing.T, h *heap.Heap, roots []int, w int) []int {
	t.Helper()
	e := h.Push(w)
	if len(roots) == api.MaxRoots {
		if e != api.ErrRoots {
			t.Fatalf("P7: Push at %d roots = %d, want ErrRoots", len(roots), e)
		}
		return roots
	}
	if e != api.OK {
		t.Fatalf("P7: Push at %d roots = %d", len(roots), e)
	}
	return append(roots, w)
}

func popRoot(t *testing.T, h *heap.Heap, roots []int) []int {
	t.Helper()
	w, e := h.Pop()
	if len(roots) == 0 {
		if w != 0 || e != api.ErrEmpty {
			t.Fatalf("P7: Pop of no root = %d, %d, want 0, ErrEmpty", w, e)
		}
		return roots
	}
	last := len(roots) - 1
	if w != roots[last] || e != api.OK {
		t.Fatalf("P7: Pop at %d roots = %d, %d, want %d", len(roots), w, e, roots[last])
	}
	return roots[:last]
}

func setRoot(t *testing.T, h *heap.Heap, roots []int, i, w int) []int {
	t.Helper()
	e := h.Set(i, w)
	if i < 0 || i >= len(roots) {
		if e != api.ErrRoot {
			t.Fatalf("P7: Set(%d) at %d roots = %d, want ErrRoot", i, len(roots), e)
		}
		return roots
	}
	if e != api.OK {
		t.Fatalf("P7: Set(%d) at %d roots = %d", i, len(roots), e)
	}
	roots[i] = w
	return roots
}

// P7: Set at every number of roots, at its edges and far from them.
func TestSetEdges(t *testing.T) {
	h := made(t, 1, 1, 0)
	for n := 0; n <= api.MaxRoots; n++ {
		for _, i := range append(numbers(1), n-1, n, n+1, api.MaxRoots-1, api.MaxRoots, math.MinInt) {
			want := api.ErrRoot
			if i >= 0 && i < n {
				want = api.OK
			}
			if e := h.Set(i, 5); e != want {
				t.Fatalf("P7: Set(%d) at %d roots = %d, want %d", i, n, e, want)
			}
		}
		if n < api.MaxRoots {
			pushed(t, h, 5)
		}
	}
}

// P1, P7: an error of Push, Pop or Set changes nothing, neither the roots nor anything else, nor what the next collection keeps.
func TestErrorsOfRootsChangeNothing(t *testing.T) {
	for n := 0; n <= api.MaxRoots; n++ {
		h := made(t, 4, 2, 0)
		a, b := laid(t, h, 3, false), laid(t, h, 40, true)
		for k := 0; k < n; k++ {
			pushed(t, h, a+k%24)
		}
		collected(t, h, 4, 2)
		b = laid(t, h, 40, true)
		before, counts := state(t, h, 4), h.Counts()
		for _, i := range []int{-1, n, n + 1, api.MaxRoots, math.MaxInt, math.MinInt} {
			if e := h.Set(i, b); e != api.ErrRoot {
				t.Errorf("P7: Set(%d) at %d roots = %d, want ErrRoot", i, n, e)
			}
		}
		if n == api.MaxRoots {
			if e := h.Push(b); e != api.ErrRoots {
				t.Errorf("P7: Push at %d roots = %d, want ErrRoots", n, e)
			}
		}
		if n == 0 {
			if w, e := h.Pop(); w != 0 || e != api.ErrEmpty {
				t.Errorf("P7: Pop of no root = %d, %d, want 0, ErrEmpty", w, e)
			}
		}
		if !slices.Equal(before, state(t, h, 4)) || counts != h.Counts() {
			t.Errorf("P1: at %d roots an error of Push, Pop or Set changed the heap", n)
		}
		collected(t, h, 4, 2)
		if n == 0 {
			only(t, h, 4, "no root")
		} else {
			only(t, h, 4, "errors name no object", a)
		}
	}
}

// P7, P8: each root keeps its object, from the first to the last; one that was taken off or set otherwise keeps none.
func TestEachRootKeeps(t *testing.T) {
	const pages = 4
	for n := 1; n <= api.MaxRoots; n++ {
		h := made(t, pages, 1, 0)
		var at []int
		for k := 0; k < n; k++ {
			at = append(at, laid(t, h, 4, k%2 == 0))
			pushed(t, h, at[k]+k)
		}
		spare := laid(t, h, 4, false)
		collected(t, h, pages, 1)
		only(t, h, pages, "a root for each", at...)
		spare = laid(t, h, 4, false)
		if e := h.Set(n/2, spare+31); e != api.OK {
			t.Fatalf("P7: Set = %d", e)
		}
		collected(t, h, pages, 1)
		at[n/2] = spare
		only(t, h, pages, "one root set otherwise", at...)
		for k := n - 1; k >= 0; k-- {
			if w, e := h.Pop(); e != api.OK || k != n/2 && w != at[k]+k || k == n/2 && w != spare+31 {
				t.Fatalf("P7: Pop = %d, %d", w, e)
			}
			collected(t, h, pages, 1)
			only(t, h, pages, "roots taken off", at[:k]...)
		}
	}
}
