package heap_test

import (
	"cmp"
	"math"
	"reflect"
	"slices"
	"testing"

	"lodestone/api"
	"lodestone/heap"
	"lodestone/samples"
)

func hit(id uint64, dist int64) api.Hit { return api.Hit{ID: id, Dist: dist} }

// near puts the nearer one ahead, in the document's words.
func near(a, b api.Hit) int {
	return cmp.Or(cmp.Compare(a.Dist, b.Dist), cmp.Compare(a.ID, b.ID))
}

func nearestFirst(l []api.Hit) []api.Hit { return slices.SortedFunc(slices.Values(l), near) }

// plain is a heap in the document's words: a list, the nearest first, that is gone through each time.
type plain struct {
	most int
	list []api.Hit
}

func (p *plain) push(x api.Hit) bool {
	if slices.ContainsFunc(p.list, func(y api.Hit) bool { return y.ID == x.ID }) {
		return false
	}
	if len(p.list) == p.most && near(x, p.list[p.most-1]) >= 0 {
		return false
	}
	p.list = nearestFirst(append(p.list, x))
	if len(p.list) > p.most {
		p.list = p.list[:p.most]
	}
	return true
}

func (p *plain) pop() (api.Hit, bool) {
	x, ok := p.worst()
	if ok {
		p.list = p.list[:len(p.list)-1]
	}
	return x, ok
}

func (p *plain) worst() (api.Hit, bool) {
	if len(p.list) == 0 {
		return api.Hit{}, false
	}
	return p.list[len(p.list)-1], true
}

func made(t *testing.T, n int, l ...api.Hit) *heap.Heap {
	t.Helper()
	h, e := heap.New(n)
	if h == nil || e != api.OK {
		t.Fatalf("New(%d): %v, %d", n, h, e)
	}
	for _, x := range l {
		checkPush(t, h, x, true)
	}
	return h
}

func checkPush(t *testing.T, h *heap.Heap, x api.Hit, want bool) {
	t.Helper()
	if ok := h.Push(x); ok != want {
		t.Errorf("Push(%v) = %t", x, ok)
	}
}

func checkPop(t *testing.T, h *heap.Heap, want api.Hit, there bool) {
	t.Helper()
	if x, ok := h.Pop(); x != want || ok != there {
		t.Errorf("Pop = %v, %t; want %v, %t", x, ok, want, there)
	}
}

// checkKept asks for all that can be told without a change; want has the nearest first.
func checkKept(t *testing.T, h *heap.Heap, want ...api.Hit) {
	t.Helper()
	if l := h.Hits(); !slices.Equal(l, want) {
		t.Errorf("Hits = %v; want %v", l, want)
	}
	if n := h.Len(); n != len(want) {
		t.Errorf("Len = %d; want %d", n, len(want))
	}
	worst, there := (&plain{list: want}).worst()
	if x, ok := h.Worst(); x != worst || ok != there {
		t.Errorf("Worst = %v, %t; want %v, %t", x, ok, worst, there)
	}
}

// checkDrained: the hits go one by one, the farthest first, till there is none.
func checkDrained(t *testing.T, h *heap.Heap, want ...api.Hit) {
	t.Helper()
	for i := len(want) - 1; i >= 0; i-- {
		checkPop(t, h, want[i], true)
		checkKept(t, h, want[:i]...)
	}
	for range 2 {
		checkPop(t, h, api.Hit{}, false)
		checkKept(t, h)
	}
}

// P4.1

func TestNewRefuses(t *testing.T) {
	for _, n := range []int{0, -1, -2, -api.MaxHits, api.MaxHits + 1, api.MaxHits + 2, 1000, 65537, 1<<32 + 1, math.MaxInt, math.MinInt, math.MinInt + 1} {
		if h, e := heap.New(n); h != nil || e != api.ErrArg {
			t.Errorf("New(%d) = %v, %d", n, h, e)
		}
	}
}

func TestNewHasNone(t *testing.T) {
	for n := 1; n <= api.MaxHits; n++ {
		checkKept(t, made(t, n))
		checkDrained(t, made(t, n))
	}
}

// Each number of hits that may be is filled, and no hit more is kept.
func TestNewKeepsSoMany(t *testing.T) {
	for n := 1; n <= api.MaxHits; n++ {
		h := made(t, n)
		var want []api.Hit
		for i := range n {
			want = append(want, hit(uint64(i), int64(3*i)))
			checkPush(t, h, want[i], true)
			if h.Len() != i+1 {
				t.Fatalf("New(%d): %d are kept of %d", n, h.Len(), i+1)
			}
		}
		checkPush(t, h, hit(1000, int64(3*n)), false)
		checkKept(t, h, want...)
		checkPush(t, h, hit(1001, -1), true)
		want = slices.Insert(want[:n-1], 0, hit(1001, -1))
		checkKept(t, h, want...)
		checkDrained(t, h, want...)
	}
}

// P4.2

func TestKnown(t *testing.T) {
	h := made(t, 2)
	checkPush(t, h, hit(1, 5), true)
	checkPush(t, h, hit(1, 2), false)
	checkPush(t, h, hit(2, 9), true)
	checkPush(t, h, hit(3, 9), false)
	checkPush(t, h, hit(4, 1), true)
	checkKept(t, h, hit(4, 1), hit(1, 5))
	checkPop(t, h, hit(1, 5), true)
	checkKept(t, h, hit(4, 1))
}

func TestHeapOfOne(t *testing.T) {
	h := made(t, 1, hit(5, 10))
	checkPush(t, h, hit(6, 11), false)
	checkPush(t, h, hit(6, 10), false)
	checkPush(t, h, hit(5, 3), false)
	checkKept(t, h, hit(5, 10))
	checkPush(t, h, hit(4, 10), true)
	checkKept(t, h, hit(4, 10))
	checkPush(t, h, hit(6, 9), true)
	checkKept(t, h, hit(6, 9))
	checkDrained(t, h, hit(6, 9))
	checkPush(t, h, hit(6, 100), true)
	checkKept(t, h, hit(6, 100))
}

// As long as there is room, a hit is kept, however far it is.
func TestRoomIsForAnyHit(t *testing.T) {
	h := made(t, 5, hit(3, 4), hit(4, 5), hit(2, 5), hit(9, math.MaxInt64), hit(8, math.MinInt64))
	checkKept(t, h, hit(8, math.MinInt64), hit(3, 4), hit(2, 5), hit(4, 5), hit(9, math.MaxInt64))
}

func full(t *testing.T) *heap.Heap {
	t.Helper()
	return made(t, 3, hit(20, 5), hit(30, 7), hit(10, 2))
}

func TestFullHeapKeepsWhatIsNearerThanTheWorst(t *testing.T) {
	for _, x := range []api.Hit{hit(31, 6), hit(1, 6), hit(29, 7), hit(0, 7)} {
		h := full(t)
		checkPush(t, h, x, true)
		checkKept(t, h, hit(10, 2), hit(20, 5), x)
	}
	for _, x := range []api.Hit{hit(31, 2), hit(11, 2), hit(19, 5), hit(1, 3)} {
		h := full(t)
		checkPush(t, h, x, true)
		checkKept(t, h, hit(10, 2), x, hit(20, 5))
	}
	for _, x := range []api.Hit{hit(9, 2), hit(40, 1), hit(40, 0), hit(40, -1), hit(0, math.MinInt64)} {
		h := full(t)
		checkPush(t, h, x, true)
		checkKept(t, h, x, hit(10, 2), hit(20, 5))
	}
}

func TestFullHeapRefusesWhatIsNot(t *testing.T) {
	h := full(t)
	for _, x := range []api.Hit{hit(30, 7), hit(31, 7), hit(math.MaxUint64, 7), hit(31, 8), hit(1, 8), hit(0, math.MaxInt64)} {
		checkPush(t, h, x, false)
		checkKept(t, h, hit(10, 2), hit(20, 5), hit(30, 7))
	}
}

// Of hits that are as far, those with the lower IDs are nearer.
func TestAsFarGoesByID(t *testing.T) {
	h := made(t, 3, hit(7, 4), hit(9, 4), hit(8, 4))
	checkKept(t, h, hit(7, 4), hit(8, 4), hit(9, 4))
	checkPush(t, h, hit(10, 4), false)
	checkPush(t, h, hit(1<<63, 4), false)
	checkPush(t, h, hit(0, 4), true)
	checkKept(t, h, hit(0, 4), hit(7, 4), hit(8, 4))
	checkPush(t, h, hit(9, 4), false)
	checkPush(t, h, hit(3, 4), true)
	checkDrained(t, h, hit(0, 4), hit(3, 4), hit(7, 4))
}

// Numbers of both signs, and above MaxNumber, keep their order.
func TestEdgesOfNumbers(t *testing.T) {
	want := []api.Hit{
		hit(1, math.MinInt64), hit(2, -1), hit(0, 0), hit(api.MaxNumber, 0), hit(api.MaxNumber+1, 0),
		hit(1<<63, 0), hit(math.MaxUint64, 0), hit(3, 1), hit(4, 1<<32), hit(5, math.MaxInt64),
	}
	for _, n := range []int{1, 4, 9, 10, 11} {
		h := made(t, n)
		for _, i := range []int{4, 9, 0, 7, 5, 8, 2, 6, 1, 3} {
			h.Push(want[i])
		}
		checkDrained(t, h, want[:min(n, len(want))]...)
	}
}

// An ID that is kept is refused, nearer, as near and farther, with room and without, and stays as far as it is.
func TestKeptIDIsRefused(t *testing.T) {
	l := []api.Hit{hit(1, 10), hit(2, 20), hit(3, 30)}
	for _, n := range []int{3, 4, api.MaxHits} {
		h := made(t, n, l...)
		for _, x := range l {
			for _, dist := range []int64{x.Dist - 1, x.Dist, x.Dist + 1, 0, -5, 15, 25, 99, math.MinInt64, math.MaxInt64} {
				checkPush(t, h, hit(x.ID, dist), false)
				checkKept(t, h, l...)
			}
		}
		checkDrained(t, h, l...)
	}
}

// An ID is not kept any more when it went by Pop.
func TestPoppedIDComesAgain(t *testing.T) {
	for _, dist := range []int64{-1, 5, 15, 20, 99} {
		h := made(t, 2, hit(1, 10), hit(2, 20))
		checkPop(t, h, hit(2, 20), true)
		checkPush(t, h, hit(1, 1), false)
		checkPush(t, h, hit(2, dist), true)
		checkKept(t, h, nearestFirst([]api.Hit{hit(1, 10), hit(2, dist)})...)
		checkPush(t, h, hit(2, -9), false)
	}
}

// Likewise when a nearer one drove it out: then it must be nearer than the worst.
func TestDrivenOutIDComesAgain(t *testing.T) {
	h := made(t, 2, hit(1, 10), hit(2, 20), hit(3, 15))
	checkKept(t, h, hit(1, 10), hit(3, 15))
	checkPush(t, h, hit(2, 20), false)
	checkPush(t, h, hit(2, 15), true)
	checkKept(t, h, hit(1, 10), hit(2, 15))
	checkPush(t, h, hit(2, 1), false)
	checkPush(t, h, hit(3, 16), false)
	checkPush(t, h, hit(3, 3), true)
	checkPush(t, h, hit(2, 11), false)
	checkPush(t, h, hit(2, 9), true)
	checkPush(t, h, hit(1, 9), true)
	checkKept(t, h, hit(3, 3), hit(1, 9))
	checkPop(t, h, hit(1, 9), true)
	checkPush(t, h, hit(2, 20), true)
	checkKept(t, h, hit(3, 3), hit(2, 20))
}

// A hit that was refused leaves nothing behind: its ID may come nearer, or when there is room.
func TestRefusedIDComesAgain(t *testing.T) {
	h := made(t, 2, hit(1, 10), hit(2, 20))
	checkPush(t, h, hit(3, 30), false)
	checkPush(t, h, hit(3, 30), false)
	checkPush(t, h, hit(3, 12), true)
	checkPush(t, h, hit(2, 30), false)
	checkPop(t, h, hit(3, 12), true)
	checkPush(t, h, hit(2, 30), true)
	checkKept(t, h, hit(1, 10), hit(2, 30))
}

func TestPopTakesTheFarthest(t *testing.T) {
	h := made(t, 10)
	var want []api.Hit
	for _, dist := range []int64{5, 1, 4, 1, 5, 9, 2, 6} {
		want = append(want, hit(uint64(len(want)), dist))
		checkPush(t, h, want[len(want)-1], true)
	}
	checkDrained(t, h, nearestFirst(want)...)
}

// A heap that was emptied is as a new one.
func TestEmptiedHeapIsAsNew(t *testing.T) {
	h := made(t, 3)
	for round := range int64(5) {
		for i := range uint64(4) {
			checkPush(t, h, hit(i, round), i < 3)
		}
		checkDrained(t, h, hit(0, round), hit(1, round), hit(2, round))
	}
}

// The zero hit is a hit like another one.
func TestZeroHitIsAHit(t *testing.T) {
	h := made(t, 2, api.Hit{})
	checkKept(t, h, api.Hit{})
	checkPush(t, h, api.Hit{}, false)
	checkPop(t, h, api.Hit{}, true)
	checkPop(t, h, api.Hit{}, false)
	checkPush(t, h, api.Hit{}, true)
}

// P4.3

func TestAskingChangesNothing(t *testing.T) {
	h := full(t)
	for range 5 {
		checkKept(t, h, hit(10, 2), hit(20, 5), hit(30, 7))
	}
	checkPush(t, h, hit(30, 1), false)
	checkDrained(t, h, hit(10, 2), hit(20, 5), hit(30, 7))
}

// P4.4

func TestNearestAreKeptInEachOrder(t *testing.T) {
	l := []api.Hit{hit(6, 3), hit(2, 8), hit(5, 3), hit(1, 3), hit(4, 0), hit(3, 8)}
	want := nearestFirst(l)
	for n := 1; n <= len(l)+1; n++ {
		samples.Orders(l, func(order []api.Hit) {
			h := made(t, n)
			for _, x := range order {
				h.Push(x)
			}
			if got := h.Hits(); !slices.Equal(got, want[:min(n, len(want))]) {
				t.Fatalf("%d of %v: %v", n, order, got)
			}
		})
	}
}

func TestNearestOfManyAreKept(t *testing.T) {
	for _, kinds := range []uint64{1, 3, 100, 1 << 30} {
		draw := samples.Drawer(kinds)
		var l []api.Hit
		for i := range uint64(1000) {
			l = append(l, hit(i*7%1000, int64(draw()%kinds)))
		}
		rising := nearestFirst(l)
		falling := slices.Clone(rising)
		slices.Reverse(falling)
		byID := slices.SortedFunc(slices.Values(l), func(a, b api.Hit) int { return cmp.Compare(a.ID, b.ID) })
		for _, n := range []int{1, 2, 3, 7, 100, 255, api.MaxHits} {
			for i, order := range [][]api.Hit{l, rising, falling, byID} {
				h := made(t, n)
				for _, x := range order {
					h.Push(x)
				}
				if !slices.Equal(h.Hits(), rising[:n]) {
					t.Errorf("%d kinds, order %d: not the nearest %d", kinds, i, n)
				}
				checkDrained(t, h, rising[:n]...)
			}
		}
	}
}

// checkRun does what the numbers tell, and holds each answer against the plain heap's.
func checkRun(t *testing.T, n, count int, draw func() uint64, ids, dists uint64) {
	t.Helper()
	h, p := made(t, n), &plain{most: n}
	for range count {
		if draw()%4 == 0 {
			x, ok := p.pop()
			checkPop(t, h, x, ok)
		} else {
			x := hit(draw()%ids, int64(draw()%dists)-int64(dists/2))
			checkPush(t, h, x, p.push(x))
		}
		checkKept(t, h, p.list...)
		if t.Failed() {
			t.Fatalf("a heap for %d, %d IDs, %d distances", n, ids, dists)
		}
	}
	checkDrained(t, h, p.list...)
}

func TestRunsAgreeWithThePlainHeap(t *testing.T) {
	for _, n := range []int{1, 2, 3, 5, 8, 33} {
		for _, ids := range []uint64{1, 2, 6, 20, 1 << 31} {
			for _, dists := range []uint64{1, 2, 5, 1 << 31} {
				checkRun(t, n, 400, samples.Drawer(uint64(n)+ids*31+dists), ids, dists)
			}
		}
	}
}

func TestLongRunsAgreeWithThePlainHeap(t *testing.T) {
	for _, n := range []int{255, api.MaxHits} {
		checkRun(t, n, 1500, samples.Drawer(5), 1<<31, 1<<31)
		checkRun(t, n, 1500, samples.Drawer(6), 500, 3)
	}
}

// FuzzHeap takes bytes for what is done, one behind the other.
func FuzzHeap(f *testing.F) {
	f.Add([]byte{1, 1, 5, 1, 1, 2, 1, 2, 9, 1, 3, 9, 1, 4, 1, 0}, 2)
	f.Add([]byte{1, 7, 7, 0, 1, 7, 7}, 1)
	f.Fuzz(func(t *testing.T, b []byte, n int) {
		if n < 1 || n > api.MaxHits {
			if h, e := heap.New(n); h != nil || e != api.ErrArg {
				t.Fatalf("New(%d) = %v, %d", n, h, e)
			}
			return
		}
		checkRun(t, n, min(len(b), 300), samples.Bytes(b), 256, 256)
	})
}

// R3

func TestHeapThatIsNotThere(t *testing.T) {
	var none *heap.Heap
	var zero heap.Heap
	for _, h := range []*heap.Heap{none, &zero, new(heap.Heap), {}} {
		for range 3 {
			checkPush(t, h, hit(1, 1), false)
			checkPush(t, h, api.Hit{}, false)
			checkPush(t, h, hit(0, math.MinInt64), false)
			checkPop(t, h, api.Hit{}, false)
			checkKept(t, h)
		}
	}
}

// Whoever has a heap has no calls but the chapter's: another one could break what it keeps.
func TestHeapHasNoOtherCalls(t *testing.T) {
	var names []string
	for m := range reflect.TypeFor[*heap.Heap]().Methods() {
		names = append(names, m.Name)
	}
	slices.Sort(names)
	if !slices.Equal(names, []string{"Hits", "Len", "Pop", "Push", "Worst"}) {
		t.Errorf("%v", names)
	}
}

// R4, R5

// Whatever is done to an answer, its spare room too, neither the heap nor another answer is changed by it.
func TestHitsShareNoMemory(t *testing.T) {
	for _, n := range []int{3, 4, api.MaxHits} {
		h := made(t, n, hit(20, 5), hit(30, 7), hit(10, 2))
		want := []api.Hit{hit(10, 2), hit(20, 5), hit(30, 7)}
		other := h.Hits()
		for _, bad := range []api.Hit{{}, hit(30, -1), hit(99, 99), hit(math.MaxUint64, math.MinInt64)} {
			l := h.Hits()
			l = l[:cap(l)]
			for i := range l {
				l[i] = bad
			}
			checkKept(t, h, want...)
			if !slices.Equal(other, want) {
				t.Errorf("another answer is %v", other)
			}
		}
		slices.Reverse(h.Hits())
		_ = append(h.Hits()[:1], hit(5, 5), hit(6, 6), hit(7, 7))
		checkPush(t, h, hit(30, 0), false)
		checkPush(t, h, hit(99, 6), true)
		checkPop(t, h, nearestFirst(append(want, hit(99, 6)))[min(n, 4)-1], true)
	}
}

func TestHitsStayAsTheyWereAnswered(t *testing.T) {
	h := full(t)
	l := h.Hits()
	checkPush(t, h, hit(1, 1), true)
	checkPop(t, h, hit(20, 5), true)
	checkPush(t, h, hit(2, 0), true)
	checkDrained(t, h, hit(2, 0), hit(1, 1), hit(10, 2))
	checkPush(t, h, hit(77, 77), true)
	if !slices.Equal(l, []api.Hit{hit(10, 2), hit(20, 5), hit(30, 7)}) {
		t.Errorf("%v", l)
	}
}

func TestHeapsShareNothing(t *testing.T) {
	a, b := made(t, 2), made(t, 2)
	checkPush(t, a, hit(1, 1), true)
	checkKept(t, b)
	checkPush(t, b, hit(1, 9), true)
	checkPush(t, b, hit(2, 8), true)
	checkPush(t, a, hit(2, 2), true)
	checkPop(t, a, hit(2, 2), true)
	checkPush(t, b, hit(2, 0), false)
	checkKept(t, a, hit(1, 1))
	checkKept(t, b, hit(2, 8), hit(1, 9))
	checkKept(t, made(t, 2))
}

func BenchmarkPush(b *testing.B) {
	draw := samples.Drawer(1)
	h, _ := heap.New(api.MaxHits)
	id := uint64(0)
	for b.Loop() {
		id++
		if !h.Push(hit(id, int64(draw()))) && id%4 == 0 {
			h.Pop()
		}
	}
}
