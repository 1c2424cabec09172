package heap_test

import (
	"fmt"
	"slices"
	"testing"

	"collector/api"
	"collector/heap"
)

// sizes: all small sizes and some great ones.
func sizes() []int { return append(slices.Clone(small), 32, 64, 96) }

// named: which of these objects, all of one size, lies at a.
func named(at []int, size, a int) []int {
	for _, b := range at {
		if a >= b && a < b+8*size {
			return []int{b}
		}
	}
	return nil
}

// P8: a root at every byte of an object, and beside it, small and great, atomic or not.
func TestRootAtEachByte(t *testing.T) {
	const pages = 10
	for _, size := range sizes() {
		for _, atomic := range []bool{false, true} {
			for d := -1; d <= 8*size; d++ {
				h := made(t, pages, 1, 0)
				var at []int
				for k := 0; k < 3; k++ {
					at = append(at, laid(t, h, size, atomic))
				}
				pushed(t, h, at[1]+d)
				collected(t, h, pages, 1)
				only(t, h, pages, fmt.Sprintf("%d words, a root at byte %d", size, d), named(at, size, at[1]+d)...)
			}
		}
	}
}

// P8: the same through a word of an object that stays, whichever of its words.
func TestWordAtEachByte(t *testing.T) {
	const pages = 10
	for _, size := range sizes() {
		for _, keeper := range []int{1, 3, 6, 16, 32, 96} {
			for _, i := range []int{0, keeper / 2, keeper - 1} {
				for _, d := range []int{-1, 0, 1, 7, 8, 4 * size, 8*size - 8, 8*size - 1, 8 * size} {
					h := made(t, pages, 1, 0)
					var at []int
					// The keeper has the other kind than what it names, so that they share no page even if their sizes are the same.
					k := laid(t, h, keeper, false)
					for j := 0; j < 2; j++ {
						at = append(at, laid(t, h, size, true))
					}
					stored(t, h, k+8*i, at[0]+d)
					pushed(t, h, k+8*keeper-1)
					collected(t, h, pages, 1)
					// One byte ahead of the first one may lie the keeper itself.
					only(t, h, pages, fmt.Sprintf("%d words, named at byte %d by word %d of %d", size, d, i, keeper), append(named(at, size, at[0]+d), k)...)
					if w, e := h.Load(k + 8*i); w != at[0]+d || e != api.OK {
						t.Errorf("P8: the word in an object that stayed is %d, %d", w, e)
					}
				}
			}
		}
	}
}

// P8: all words of an object are followed, those too for which its size was rounded up.
func TestEveryWordIsFollowed(t *testing.T) {
	const pages = 12
	for _, n := range []int{1, 2, 3, 5, 7, 9, 13, 17, 33, 65} {
		h := made(t, pages, 1, 0)
		k := laid(t, h, n, false)
		size := sizeOf(n)
		pushed(t, h, k)
		for i := 0; i < size; i++ {
			a := laid(t, h, 2, true)
			stored(t, h, k+8*i, a+9)
			collected(t, h, pages, 1)
			only(t, h, pages, fmt.Sprintf("word %d of %d", i, size), a, k)
			stored(t, h, k+8*i, -5)
		}
		collected(t, h, pages, 1)
		only(t, h, pages, "no word names the last one", k)
	}
}

// P8: words in atomic objects and in objects that go keep nothing and make no page black.
func TestWordsThatKeepNothing(t *testing.T) {
	const pages = 12
	for _, size := range sizes() {
		for _, rooted := range []bool{false, true} {
			h := made(t, pages, 2, 0)
			k := laid(t, h, size, rooted) // with a root: atomic
			var at []int
			for i := 0; i < min(size, 20); i++ {
				at = append(at, laid(t, h, 3, i%2 == 0))
				stored(t, h, k+8*i, at[i]+i%24)
			}
			stored(t, h, k+8*(size-1), end(pages)-1)
			pushed(t, h, 77)
			if rooted {
				h.Set(0, k)
			}
			collected(t, h, pages, 2)
			if rooted {
				only(t, h, pages, "an atomic object names them", k)
			} else {
				only(t, h, pages, "an object that goes names them")
			}
			isBlack(t, h, "words that count for nothing")
		}
	}
}

// net: objects of one size that hold one another's addresses, laid in an order that hangs on seed (0: as they are numbered), and garbage between them that names them.
type net struct {
	h     *heap.Heap
	pages int
	room  int
	at    []int
	to    [][]int
}

func netOf(t *testing.T, room, n, size, seed int) *net {
	t.Helper()
	x := &net{made(t, 48, room, 0), 48, room, make([]int, n), make([][]int, n)}
	order := make([]int, n)
	r := source(seed)
	for i := range order {
		j := r.below(i + 1)
		order[i], order[j] = order[j], i
	}
	if seed == 0 {
		slices.Sort(order)
	}
	for _, i := range order {
		x.at[i] = laid(t, x.h, size, false)
		g := laid(t, x.h, 2, true)
		stored(t, x.h, g, x.at[i])
		g = laid(t, x.h, 1, false)
		stored(t, x.h, g, x.at[i])
	}
	return x
}

// link: word w of object i names object j, at some byte.
func (x *net) link(t *testing.T, i, w, j int) {
	t.Helper()
	stored(t, x.h, x.at[i]+8*w, x.at[j]+(i+j)%16)
	x.to[i] = append(x.to[i], j)
}

// from: the objects to which object i leads.
func (x *net) from(i int) []int {
	seen := make([]bool, len(x.at))
	seen[i] = true
	next := []int{i}
	var l []int
	for len(next) > 0 {
		k := next[0]
		next = next[1:]
		l = append(l, x.at[k])
		for _, j := range x.to[k] {
			if !seen[j] {
				seen[j] = true
				next = append(next, j)
			}
		}
	}
	return l
}

// kept: a root in object i keeps what it leads to and nothing else; without it nothing stays.
func (x *net) kept(t *testing.T, call string, i int) {
	t.Helper()
	call = fmt.Sprintf("%s of %d objects, room %d, root in object %d", call, len(x.at), x.room, i)
	pushed(t, x.h, x.at[i]+1)
	collected(t, x.h, x.pages, x.room)
	only(t, x.h, x.pages, call, x.from(i)...)
	isBlack(t, x.h, call)
	x.h.Set(0, 0)
	collected(t, x.h, x.pages, x.room)
	only(t, x.h, x.pages, call+", set otherwise")
}

// P8, P12: chains, rings, trees and thickets at each room, shorter than it and longer, laid in several orders.
func TestNets(t *testing.T) {
	for room := 1; room <= api.MaxStack; room++ {
		for _, n := range []int{1, 2, room - 1, room, room + 1, 2*room + 1, 60, 100} {
			for seed := 0; n > 0 && seed < 4; seed++ {
				nets(t, room, n, seed)
			}
		}
	}
}

func nets(t *testing.T, room, n, seed int) {
	t.Helper()
	for _, root := range []int{0, n / 2} {
		x := netOf(t, room, n, 2, seed)
		for i := 0; i+1 < n; i++ {
			x.link(t, i, i%2, i+1)
		}
		x.kept(t, "a chain", root)
	}

	x := netOf(t, room, n, 3, seed)
	for i := 0; i < n; i++ {
		x.link(t, i, i%3, (i+1)%n)
	}
	x.kept(t, "a ring", n/3)

	for _, root := range []int{0, n / 7} {
		x = netOf(t, room, n, 2, seed)
		for i := 1; i < n; i++ {
			x.link(t, (i-1)/2, (i-1)%2, i)
		}
		x.kept(t, "a tree", root)
	}

	r := source(seed + 77)
	x = netOf(t, room, n, 4, seed)
	for i := 0; i < n; i++ {
		for w := 0; w < r.below(4); w++ {
			x.link(t, i, w, r.below(n))
		}
	}
	x.kept(t, "a thicket", r.below(n))

	x = netOf(t, room, n, 8, seed)
	for i := 1; i < n; i++ {
		x.link(t, (i-1)/8, (i-1)%8, i)
	}
	x.kept(t, "a broad tree", 0)
}

// P8, P12: one great object names many that have chains of their own; and roots that name many, too.
func TestHub(t *testing.T) {
	for room := 1; room <= api.MaxStack; room++ {
		for _, chains := range []int{1, room, room + 1, 40, 64} {
			for _, byRoots := range []bool{false, true} {
				h := made(t, 48, room, 0)
				want := []int{laid(t, h, 64, false)}
				hub := want[0]
				if !byRoots {
					pushed(t, h, hub+500)
				}
				for k := 0; k < chains; k++ {
					last := 0
					for i := 0; i < 3; i++ {
						a := laid(t, h, 4, false)
						stored(t, h, a+24, last)
						last = a + 8*i
						want = append(want, a)
					}
					laid(t, h, 4, false)
					stored(t, h, hub+8*k, last)
					if byRoots && k < api.MaxRoots {
						pushed(t, h, last)
					}
				}
				collected(t, h, 48, room)
				if byRoots {
					want = want[1 : 1+3*min(chains, api.MaxRoots)]
				}
				only(t, h, 48, fmt.Sprintf("%d chains, room %d", chains, room), want...)
			}
		}
	}
}

// P8, P12: a chain each of whose objects names, beside the next one, as many others as the list of work has room for. Neither by its depth nor by its breadth is it held by the list: the collection must go over the heap again, and do so until it has found all.
func TestListOfWorkIsFull(t *testing.T) {
	const n = 25
	for room := 1; room <= api.MaxStack; room++ {
		for _, next := range []int{0, room} { // the word that names the next one of the chain
			for _, falling := range []bool{false, true} {
				h := made(t, 48, room, 0)
				chain := make([]int, n)
				for k := range chain {
					chain[k] = laid(t, h, room+1, false)
				}
				if falling {
					slices.Reverse(chain)
				}
				want := slices.Clone(chain)
				for k, a := range chain {
					for w := 0; w <= room; w++ {
						if w != next {
							want = append(want, laid(t, h, 1, false))
							stored(t, h, a+8*w, want[len(want)-1])
						} else if k+1 < n {
							stored(t, h, a+8*w, chain[k+1])
						}
					}
				}
				laid(t, h, 1, false)
				pushed(t, h, chain[0])
				collected(t, h, 48, room)
				only(t, h, 48, fmt.Sprintf("room %d, the next one in word %d", room, next), want...)
				if c := h.Counts(); c.Again < 1 {
					t.Errorf("P12: room %d: the list of work cannot have held this: %+v", room, c)
				}
				// There is no room for so much: Alloc collects.
				if _, e := h.Alloc(48*32, true); e != api.ErrFull {
					t.Fatalf("P4: Alloc of all words = %d", e)
				}
				only(t, h, 48, fmt.Sprintf("room %d, a collection by Alloc", room), want...)
				if c := h.Counts(); c.Again < 1 || c.Again > c.Objects+1 || c.Collections != 2 {
					t.Errorf("P12: room %d: the list of work cannot have held this, by Alloc either: %+v", room, c)
				}
				h.Set(0, chain[n-1])
				collected(t, h, 48, room)
				if c := h.Counts(); c.Objects != room+1 {
					t.Errorf("P8: room %d: %d objects stay at the end of the chain: %+v", room, room+1, c)
				}
			}
		}
	}
}

// P8: up to the heap's last word: objects of one word fill its last page, and one that is found when the list of work is full lies at its end, or at its beginning.
func TestLastWord(t *testing.T) {
	for room := 1; room <= 12; room++ {
		for turn := 0; turn < 2; turn++ {
			h := made(t, 2, room, 0)
			hub := laid(t, h, 32, false)
			var at []int
			for k := 0; k < 32; k++ {
				at = append(at, laid(t, h, 1, false))
			}
			if turn == 1 {
				slices.Reverse(at)
			}
			for k := 16; k < 32; k++ {
				stored(t, h, hub+8*k, at[k])
				stored(t, h, at[k], at[k-16]+7)
			}
			pushed(t, h, hub)
			collected(t, h, 2, room)
			only(t, h, 2, fmt.Sprintf("room %d, all are named", room), append(at, hub)...)
		}
	}
}

// P3: two heaps that differ in room alone tell the same, addresses too, also of what is laid behind collections whose list of work was full.
func TestRoomShowsInAgainAlone(t *testing.T) {
	for seed := 0; seed < 4; seed++ {
		var want []int
		for room := 1; room <= api.MaxStack; room++ {
			x := netOf(t, room, 60, 4, seed)
			r := source(seed + 5)
			for i := 0; i < 60; i++ {
				x.link(t, i, 0, r.below(60))
				x.link(t, i, 1, r.below(60))
				x.link(t, i, 2, r.below(60))
			}
			pushed(t, x.h, x.at[0])
			pushed(t, x.h, end(40)+3)
			x.h.Collect()
			var got []int
			for k := 0; k < 30; k++ {
				a, e := x.h.Alloc(1+r.below(40), k%2 == 0)
				got = append(got, a, int(e))
				if k == 15 {
					x.h.Sweep(3)
				}
			}
			got = append(got, answers(x.h, seed)...)
			s := state(t, x.h, 48)
			got = append(got, s[:len(s)-1]...) // without Again
			c := x.h.Counts()
			got = append(got, c.Used, c.Unswept)
			if room == 1 {
				want = got
			}
			if !slices.Equal(got, want) {
				t.Fatalf("P3: room %d shows in other answers than Again", room)
			}
		}
	}
}

// P8: what stays stays where it is, with its words; what goes has gone at once, at every byte of it, and its place is room at once.
func TestGoneAtOnce(t *testing.T) {
	const pages = 12
	for _, size := range sizes() {
		for _, atomic := range []bool{false, true} {
			h := made(t, pages, 3, 0)
			var at []int
			for k := 0; k < 4; k++ {
				at = append(at, laid(t, h, size, atomic))
				fill(t, h, at[k], -1000*k-1000)
			}
			pushed(t, h, at[1])
			pushed(t, h, at[2]+8*size-1)
			collected(t, h, pages, 3)
			only(t, h, pages, "two of four", at[1], at[2])
			for _, k := range []int{0, 3} {
				for d := 0; d < 8*size; d++ {
					_, e := h.Base(at[k] + d)
					_, f := h.Size(at[k] + d)
					_, g := h.Load(at[k] + d/8*8)
					if e != api.ErrObject || f != api.ErrObject || g != api.ErrObject {
						t.Fatalf("P8: %d words: byte %d of what has gone: Base %d, Size %d, Load %d", size, d, e, f, g)
					}
					if e, f := h.Free(at[k]+d), h.Store(at[k]+d/8*8, 1); e != api.ErrObject || f != api.ErrObject {
						t.Fatalf("P8: %d words: byte %d of what has gone: Free %d, Store %d", size, d, e, f)
					}
				}
			}
			for _, k := range []int{1, 2} {
				for i := 0; i < size; i++ {
					if w, e := h.Load(at[k] + 8*i); w != -1000*k-1000+i || e != api.OK {
						t.Fatalf("P8: %d words: word %d of what stayed is %d, %d", size, i, w, e)
					}
				}
			}
		}
	}
}

// P8, P4: pages that a collection has left without objects are room for every size and kind, swept or not, in part or all.
func TestRoomOfWhatHasGone(t *testing.T) {
	const pages = 8
	for _, size := range sizes() {
		for _, n := range []int{1, 3, 16, 17, 64, 192, 256} {
			for swept := 0; swept < 4; swept++ {
				h := made(t, pages, 1, 0)
				for i := 0; i < pages*32; i += 4 {
					if a, e := h.Alloc(size, i%3 == 0); e == api.OK {
						fill(t, h, a, -9000)
					}
				}
				h.Collect()
				before := h.Counts()
				h.Sweep(swept)
				only(t, h, pages, "nothing is named")
				a := laid(t, h, n, size%2 == 0)
				zeros(t, h, a)
				only(t, h, pages, "one object is new", a)
				bounds(t, h, pages, "a new object")
				for x := api.First; x < end(pages); x++ {
					b, e := h.Base(x)
					if in := x >= a && x < a+8*sizeOf(n); in && (b != a || e != api.OK) || !in && e != api.ErrObject {
						t.Fatalf("P5: %d words where %d had lain: Base(%d) = %d, %d", n, size, x, b, e)
					}
				}
				if c := h.Counts(); c.Collections != before.Collections {
					t.Fatalf("P9: there was room, and yet a collection: %+v", c)
				}
			}
		}
	}
}

// P8, P4: the same, with objects that stayed between.
func TestRoomBesideWhatStayed(t *testing.T) {
	const pages = 10
	for stay := 0; stay < 5; stay++ {
		for swept := 0; swept < 6; swept++ {
			h := made(t, pages, 1, 0)
			var at []int
			for k := 0; k < 5; k++ {
				at = append(at, laid(t, h, 64, k%2 == 0))
			}
			pushed(t, h, at[stay]+300)
			collected(t, h, pages, 1)
			h.Sweep(swept)
			want := []int{at[stay]}
			for _, n := range []int{1, 2, 33, 12, 32} {
				a := laid(t, h, n, false)
				zeros(t, h, a)
				fill(t, h, a, -50)
				want = append(want, a)
				only(t, h, pages, "new objects beside one that stayed", want...)
				bounds(t, h, pages, "new objects")
			}
			collected(t, h, pages, 1)
			only(t, h, pages, "the new objects are not named", at[stay])
		}
	}
}

// P8, P4: where a greater object has gone, a later collection may find some of its pages black and others not: what is laid between and beside them stays whole.
func TestBlackWhereAGreatObjectWas(t *testing.T) {
	const pages = 8
	for black := 0; black < 1<<4; black++ {
		for swept := 0; swept < 4; swept++ {
			for _, n := range []int{1, 32, 64} {
				h := made(t, pages, 2, 0)
				first := laid(t, h, 16, false)
				laid(t, h, 128, black%2 == 0) // pages 1 to 4
				other := laid(t, h, 64, false)
				fill(t, h, first, -70)
				fill(t, h, other, -700)
				pushed(t, h, first)
				pushed(t, h, other)
				collected(t, h, pages, 2)
				h.Sweep(swept)
				for p := 0; p < 4; p++ {
					if black>>p&1 == 1 {
						pushed(t, h, end(1+p)+255)
					}
				}
				collected(t, h, pages, 2)
				h.Sweep(swept)
				want := []int{first, other}
				for k := 0; k < 3; k++ {
					if a, e := h.Alloc(n, k == 2); e == api.OK {
						want = append(want, a)
						pushed(t, h, a)
						fill(t, h, a, -7)
						only(t, h, pages, "laid between black pages", want...)
					}
				}
				bounds(t, h, pages, "laid between black pages")
				seen := shown(h, pages)
				h.Sweep(pages)
				if !slices.Equal(seen, shown(h, pages)) {
					t.Fatalf("P11: black %b: Sweep changed what lies there", black)
				}
				bounds(t, h, pages, "all is swept")
				collected(t, h, pages, 2)
				if !slices.Equal(seen, shown(h, pages)) {
					t.Fatalf("P8: black %b: a collection changed what it kept", black)
				}
			}
		}
	}
}

// As long as nothing has gone the lowest place is taken, also behind a collection that kept all, swept or not.
func TestLowestPlaceBehindCollect(t *testing.T) {
	for _, swept := range []int{0, 1, 48} {
		h := made(t, 8, 2, 0)
		var want []int
		for _, size := range []int{4, 64, 3} {
			want = append(want, laid(t, h, size, false))
			pushed(t, h, want[len(want)-1])
		}
		pushed(t, h, end(5)+9)
		collected(t, h, 8, 2)
		isBlack(t, h, "page 5 is named", 5)
		h.Sweep(swept)
		for _, c := range []struct {
			n      int
			atomic bool
			at     int
		}{{4, false, end(0) + 32}, {3, false, end(3) + 24}, {4, true, end(4)}, {8, false, end(6)}, {8, true, end(5)}, {32, false, end(7)}} {
			if a := laid(t, h, c.n, c.atomic); a != c.at {
				t.Errorf("nothing has gone: %d words, atomic %v at %d, want %d", c.n, c.atomic, a, c.at)
			}
		}
	}
}
