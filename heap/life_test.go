package heap_test

import (
	"math"
	"slices"
	"testing"

	"collector/api"
	"collector/heap"
)

// collect: what a collection leaves of the model, in the document's words.
func (m *model) collect(roots []int) {
	stays := make([]bool, len(m.objects))
	for grown := true; grown; {
		grown = false
		for _, w := range m.followed(roots, stays) {
			if i := m.find(w); i >= 0 && !stays[i] {
				stays[i] = true
				grown = true
			}
		}
	}
	m.black = make([]bool, m.pages)
	for _, w := range m.followed(roots, stays) {
		if w >= api.First && w < end(m.pages) && m.find(w) < 0 {
			m.black[pageOf(w)] = true
		}
	}
	var left []object
	for i, o := range m.objects {
		if stays[i] {
			left = append(left, o)
		}
	}
	m.gone = m.gone || len(left) < len(m.objects)
	m.objects = left
}

// followed: the roots, and the words of objects that stay and are not atomic.
func (m *model) followed(roots []int, stays []bool) []int {
	l := slices.Clone(roots)
	for i, o := range m.objects {
		if stays[i] && !o.atomic {
			l = append(l, o.words...)
		}
	}
	return l
}

// life tells a heap a long series of calls of all sorts and holds its answers against the model, which knows nothing of what is swept.
type life struct {
	t          *testing.T
	h          *heap.Heap
	m          model
	r          source
	room, trig int
	roots      []int

	since                        int        // the words laid since the last collection
	counts                       api.Counts // as last told
	fulls, lost, kept, blackened int
	due, helped, vain            int // collections ahead of an object: by trig; where there was no room, and then there was; and then there was none
}

func TestLifeAgainstModel(t *testing.T) {
	var all life
	for _, c := range []struct{ pages, steps, most int }{{1, 2000, 4}, {2, 2000, 20}, {3, 2000, 10}, {5, 2000, 60}, {9, 1500, 100}, {14, 1500, 8}, {48, 600, 400}} {
		for seed := 1; seed <= 8; seed++ {
			room := 1 + (seed*5+c.pages)%api.MaxStack
			if seed <= 3 {
				room = seed
			}
			trig := []int{0, 0, 1, 4096, 10, 40, 150, 600}[seed-1]
			x := life{t: t, h: made(t, c.pages, room, trig), m: model{pages: c.pages, black: make([]bool, c.pages)}, r: source(1000*c.pages + seed), room: room, trig: trig}
			for i := 0; i < c.steps; i++ {
				x.step(c.most)
				x.count()
				if i%100 == 99 {
					x.compare()
				}
			}
			all.fulls += x.fulls
			all.lost += x.lost
			all.kept += x.kept
			all.blackened += x.blackened
			all.due += x.due
			all.helped += x.helped
			all.vain += x.vain
		}
	}
	if all.fulls == 0 || all.lost == 0 || all.kept == 0 || all.blackened == 0 {
		t.Errorf("the series are too tame: %d times full, %d objects gone and %d kept, %d pages black", all.fulls, all.lost, all.kept, all.blackened)
	}
	if all.due == 0 || all.helped == 0 || all.vain == 0 || all.fulls == all.vain {
		t.Errorf("the series are too tame: ahead of objects %d collections by trig, %d that made room and %d that made none; %d times full", all.due, all.helped, all.vain, all.fulls)
	}
}

func (x *life) step(most int) {
	x.t.Helper()
	switch x.r.below(20) {
	case 0, 1, 2, 3, 4, 5:
		x.alloc(1+x.r.below(1+x.r.below(most)), x.r.below(3) == 0)
	case 6:
		x.free()
	case 7, 8, 9, 10, 11:
		x.store()
	case 12, 13:
		x.roots = pushRoot(x.t, x.h, x.roots, x.word())
	case 14, 15:
		x.roots = popRoot(x.t, x.h, x.roots)
	case 16:
		x.roots = setRoot(x.t, x.h, x.roots, x.r.below(api.MaxRoots+2)-1, x.word())
	case 17:
		if x.r.below(3) == 0 {
			x.collect()
		}
	default:
		x.sweep(x.r.below(x.m.pages+3) - 1)
	}
}

// word: most words lie in an object, at any byte of it; others in some page, about its edges, or far away.
func (x *life) word() int {
	switch k := x.r.below(12); {
	case k < 7 && len(x.m.objects) > 0:
		o := x.m.objects[x.r.below(len(x.m.objects))]
		return o.at + x.r.below(8*o.size)
	case k < 8:
		return api.First + x.r.below(x.m.pages*api.PageBytes)
	case k < 9:
		l := numbers(x.m.pages)
		return l[x.r.below(len(l))]
	}
	return x.r.below(2000) - 1000
}

func (x *life) alloc(n int, atomic bool) {
	x.t.Helper()
	if n > 32*x.m.pages {
		return
	}
	size := sizeOf(n)
	collects := x.trig != 0 && x.since+size > x.trig
	if collects {
		x.due++
		x.clear()
	}
	rooms := x.m.rooms(size, atomic)
	if len(rooms) == 0 && !collects {
		collects = true
		x.clear()
		rooms = x.m.rooms(size, atomic)
		if len(rooms) == 0 {
			x.vain++
		} else {
			x.helped++
		}
	}
	stayed := len(x.m.objects)
	a, e := x.h.Alloc(n, atomic)
	if collects {
		x.counted(stayed)
	}
	if len(rooms) == 0 {
		x.fulls++
		if a != 0 || e != api.ErrFull {
			x.t.Fatalf("P4: Alloc(%d, %v) = %d, %d, want 0, ErrFull", n, atomic, a, e)
		}
		x.compare()
		return
	}
	if e != api.OK || !slices.Contains(rooms, a) {
		x.t.Fatalf("P4: Alloc(%d, %v) = %d, %d: there is room at %v", n, atomic, a, e, rooms)
	}
	if !x.m.gone && a != rooms[0] {
		x.t.Fatalf("nothing has gone: %d words, atomic %v at %d, want %d", size, atomic, a, rooms[0])
	}
	zeros(x.t, x.h, a)
	x.m.objects = append(x.m.objects, object{a, size, atomic, make([]int, size)})
	x.since += size
	if collects {
		x.compare()
	}
	if x.r.below(2) == 0 {
		x.name(a)
	}
}

// counted: the last call made one collection, and so many objects stayed.
func (x *life) counted(stayed int) {
	x.t.Helper()
	c := x.h.Counts()
	if c.Collections != x.counts.Collections+1 {
		x.t.Fatalf("P9, P12: one collection turned %+v to %+v", x.counts, c)
	}
	if c.Again < 0 || c.Again > stayed+1 || stayed <= x.room && c.Again != 0 {
		x.t.Fatalf("P12: Again, with room %d, where %d objects stayed: %+v", x.room, stayed, c)
	}
	x.counts = c
}

// name lets a root, or a word of some object, name a new one, so that chains of them come about.
func (x *life) name(a int) {
	x.t.Helper()
	if len(x.m.objects) > 1 && x.r.below(3) > 0 {
		x.put(x.r.below(len(x.m.objects)-1), a)
		return
	}
	x.roots = setRoot(x.t, x.h, x.roots, x.r.below(len(x.roots)+1), a)
}

func (x *life) free() {
	x.t.Helper()
	if len(x.m.objects) == 0 {
		return
	}
	i := x.r.below(len(x.m.objects))
	freed(x.t, x.h, x.m.objects[i].at)
	x.m.objects = slices.Delete(x.m.objects, i, i+1)
	x.m.gone = true
}

func (x *life) store() {
	x.t.Helper()
	if len(x.m.objects) > 0 {
		x.put(x.r.below(len(x.m.objects)), x.word())
	}
}

// put: a word of object i is w.
func (x *life) put(i, w int) {
	x.t.Helper()
	o := x.m.objects[i]
	k := x.r.below(o.size)
	stored(x.t, x.h, o.at+8*k, w)
	o.words[k] = w
}

func (x *life) collect() {
	x.t.Helper()
	collected(x.t, x.h, x.m.pages, x.room)
	x.clear()
	x.counted(len(x.m.objects))
	x.compare()
}

// clear: a collection of the model.
func (x *life) clear() {
	before := len(x.m.objects)
	x.m.collect(x.roots)
	x.since = 0
	x.lost += before - len(x.m.objects)
	x.kept += len(x.m.objects)
	for _, b := range x.m.black {
		if b {
			x.blackened++
		}
	}
}

func (x *life) sweep(n int) {
	x.t.Helper()
	before := x.h.Counts()
	x.h.Sweep(n)
	c := x.h.Counts()
	if n <= 0 && c != before || n > 0 && c.Unswept != 0 && c.Unswept > before.Unswept-n {
		x.t.Fatalf("P11: Sweep(%d): from %+v to %+v", n, before, c)
	}
}

// count: what Counts must say at any time.
func (x *life) count() {
	x.t.Helper()
	words := 0
	for _, o := range x.m.objects {
		words += o.size
	}
	c := x.h.Counts()
	if c.Objects != len(x.m.objects) || c.Words != words {
		x.t.Fatalf("P12: %+v, want %d objects of %d words", c, len(x.m.objects), words)
	}
	if c.Collections != x.counts.Collections || c.Again != x.counts.Again {
		x.t.Fatalf("P12: no collection, but %+v turned to %+v", x.counts, c)
	}
	bounds(x.t, x.h, x.m.pages, "a series of calls")
}

// compare: all that is told of the heap.
func (x *life) compare() {
	x.t.Helper()
	var at, black []int
	for _, o := range x.m.objects {
		at = append(at, o.at)
		for i, w := range o.words {
			if v, e := x.h.Load(o.at + 8*i); v != w || e != api.OK {
				x.t.Fatalf("P6: word %d of the object at %d is %d, %d, want %d", i, o.at, v, e, w)
			}
		}
	}
	for p, b := range x.m.black {
		if b {
			black = append(black, p)
		}
	}
	only(x.t, x.h, x.m.pages, "a series of calls", at...)
	isBlack(x.t, x.h, "a series of calls", black...)
	if got := rootsOf(x.t, x.h); !slices.Equal(got, x.roots) {
		x.t.Fatalf("P7: the roots are %v, want %v", got, x.roots)
	}
	for _, a := range []int{math.MinInt, api.First - 1, end(x.m.pages), math.MaxInt} {
		if b, e := x.h.Base(a); b != 0 || e != api.ErrObject {
			x.t.Fatalf("P5: Base(%d) = %d, %d", a, b, e)
		}
	}
}
