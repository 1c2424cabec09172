package heap_test

import (
	"testing"

	"collector/api"
)

// object and model tell what a heap must hold, in the document's words and in the plainest way.
type object struct {
	at, size int
	atomic   bool
	words    []int
}

type model struct {
	pages   int
	objects []object
	gone    bool
	black   []bool // by page; nil: none is
}

// find: which object lies at a, or -1.
func (m *model) find(a int) int {
	for i, o := range m.objects {
		if a >= o.at && a < o.at+8*o.size {
			return i
		}
	}
	return -1
}

// holds: whether objects lie on a page; one of them.
func (m *model) holds(p int) (bool, object) {
	for _, o := range m.objects {
		if pageOf(o.at) <= p && p <= pageOf(o.at+8*o.size-1) {
			return true, o
		}
	}
	return false, object{}
}

// rooms: all addresses at which an object may be laid, those of shared pages first, each rising.
func (m *model) rooms(size int, atomic bool) []int {
	var shared, bare []int
	for p := 0; p < m.pages; p++ {
		start := api.First + p*api.PageBytes
		if size > 16 {
			if m.bare(p, size/32, atomic) {
				bare = append(bare, start)
			}
			continue
		}
		used, o := m.holds(p)
		for i := 0; i < 32/size; i++ {
			a := start + 8*size*i
			if m.bare(p, 1, atomic) {
				bare = append(bare, a)
			} else if used && o.size == size && o.atomic == atomic && m.find(a) < 0 {
				shared = append(shared, a)
			}
		}
	}
	return append(shared, bare...)
}

// bare: whether so many pages from p on are without objects, and room for one of that kind.
func (m *model) bare(p, count int, atomic bool) bool {
	for q := p; q < p+count; q++ {
		if used, _ := m.holds(q); used || q >= m.pages {
			return false
		}
		if m.black != nil && m.black[q] && !atomic {
			return false
		}
	}
	return true
}

// run tells a heap a long series of calls and holds its answers against the model. All objects are named by the table, so that none goes by itself.
type run struct {
	t *testing.T
	k *table
	m model
	r source

	fulls int
}

func TestAgainstModel(t *testing.T) {
	for _, c := range []struct{ pages, tablePages, steps, most int }{{3, 1, 3000, 6}, {6, 2, 3000, 20}, {9, 2, 3000, 100}, {48, 8, 3000, 40}, {48, 8, 3000, 400}} {
		for seed := 1; seed <= 4; seed++ {
			k := withTable(t, c.pages, c.tablePages)
			x := run{t: t, k: k, m: model{pages: c.pages}, r: source(seed)}
			x.m.objects = []object{{k.at, 32 * c.tablePages, false, k.of}}
			for i := 0; i < c.steps; i++ {
				x.step(c.most, i)
				if i%500 == 499 {
					x.compare()
				}
			}
			if x.fulls == 0 {
				t.Errorf("%d pages, seed %d: the heap was never full", c.pages, seed)
			}
		}
	}
}

func (x *run) step(most, i int) {
	// Stretches that mostly lay and stretches that mostly give back, so that the heap is full at times and bare at times.
	mostly := 9
	if i/500%2 == 1 {
		mostly = 3
	}
	laying := x.r.below(10) < mostly
	switch x.r.below(4) {
	case 0, 1:
		if laying && len(x.m.objects) <= len(x.k.of) {
			x.alloc(1+x.r.below(1+x.r.below(most)), x.r.below(2) == 0)
		} else if len(x.m.objects) > 1 {
			x.free(1 + x.r.below(len(x.m.objects)-1))
		}
	case 2:
		x.store()
	case 3:
		x.at(api.First - 20 + x.r.below(x.m.pages*api.PageBytes+40))
	}
}

func (x *run) alloc(n int, atomic bool) {
	x.t.Helper()
	if n > 32*x.m.pages {
		return
	}
	size := sizeOf(n)
	rooms := x.m.rooms(size, atomic)
	if len(rooms) == 0 {
		x.fulls++
		if a, e := x.k.h.Alloc(n, atomic); a != 0 || e != api.ErrFull {
			x.t.Fatalf("P4: Alloc(%d, %v) = %d, %d, want 0, ErrFull", n, atomic, a, e)
		}
		return
	}
	a := x.k.lay(x.t, n, atomic)
	if !x.m.gone && a != rooms[0] {
		x.t.Fatalf("nothing has gone: %d words, atomic %v at %d, want %d", size, atomic, a, rooms[0])
	}
	found := false
	for _, b := range rooms {
		found = found || a == b
	}
	if !found {
		x.t.Fatalf("P4: %d words, atomic %v at %d: no room for them", size, atomic, a)
	}
	zeros(x.t, x.k.h, a)
	x.m.objects = append(x.m.objects, object{a, size, atomic, make([]int, size)})
}

func (x *run) free(i int) {
	x.t.Helper()
	x.k.free(x.t, x.m.objects[i].at)
	x.m.objects = append(x.m.objects[:i], x.m.objects[i+1:]...)
	x.m.gone = true
}

// store: an atomic object may hold any word; others none that names a page of the heap, which a collection would take for an address.
func (x *run) store() {
	x.t.Helper()
	if len(x.m.objects) < 2 {
		return
	}
	o := x.m.objects[1+x.r.below(len(x.m.objects)-1)]
	w := -1 - x.r.below(1000)
	if o.atomic {
		w = api.First + x.r.below(x.m.pages*api.PageBytes)
	}
	i := x.r.below(o.size)
	stored(x.t, x.k.h, o.at+8*i, w)
	o.words[i] = w
}

// at: all that is told of one address.
func (x *run) at(a int) {
	x.t.Helper()
	h := x.k.h
	i := x.m.find(a)
	b, e := h.Base(a)
	s, f := h.Size(a)
	w, g := h.Load(a)
	want := [6]int{0, int(api.ErrObject), 0, int(api.ErrObject), 0, int(api.ErrObject)}
	if i >= 0 {
		o := x.m.objects[i]
		want = [6]int{o.at, 0, o.size, 0, o.words[(a-o.at)/8], 0}
	}
	if a%8 != 0 {
		want[4], want[5] = 0, int(api.ErrAlign)
	}
	if got := [6]int{b, int(e), s, int(f), w, int(g)}; got != want {
		x.t.Fatalf("P5, P6: Base, Size and Load of %d = %v, want %v", a, got, want)
	}
	if i >= 0 && a != x.m.objects[i].at {
		if e := h.Free(a); e != api.ErrBase {
			x.t.Fatalf("P5: Free(%d), within an object, = %d", a, e)
		}
	} else if i < 0 {
		if e := h.Free(a); e != api.ErrObject {
			x.t.Fatalf("P5: Free(%d), where nothing lies, = %d", a, e)
		}
	}
}

func (x *run) compare() {
	x.t.Helper()
	for a := api.First - 9; a < end(x.m.pages)+9; a++ {
		x.at(a)
	}
}
