package sets_test

import (
	"math"
	"reflect"
	"slices"
	"testing"

	"lodestone/api"
	"lodestone/samples"
	"lodestone/sets"
)

// plain is a set in the document's words: a list, rising, that is gone through each time.
type plain struct {
	bound int
	list  []int
}

func (p *plain) has(n int) bool { return slices.Contains(p.list, n) }

func (p *plain) add(n int) bool {
	if n < 0 || n >= p.bound || p.has(n) {
		return false
	}
	p.list = append(p.list, n)
	slices.Sort(p.list)
	return true
}

func (p *plain) drop(n int) bool {
	if !p.has(n) {
		return false
	}
	p.list = slices.DeleteFunc(p.list, func(m int) bool { return m == n })
	return true
}

func (p *plain) next(n int) int {
	for _, m := range p.list {
		if m >= n {
			return m
		}
	}
	return -1
}

func made(t *testing.T, bound int, l ...int) *sets.Set {
	t.Helper()
	s, e := sets.New(bound)
	if s == nil || e != api.OK {
		t.Fatalf("New(%d): %v, %d", bound, s, e)
	}
	for _, n := range l {
		checkAdd(t, s, n, true)
	}
	return s
}

func checkAdd(t *testing.T, s *sets.Set, n int, want bool) {
	t.Helper()
	if ok := s.Add(n); ok != want {
		t.Errorf("Add(%d) = %t", n, ok)
	}
}

func checkDrop(t *testing.T, s *sets.Set, n int, want bool) {
	t.Helper()
	if ok := s.Drop(n); ok != want {
		t.Errorf("Drop(%d) = %t", n, ok)
	}
}

func checkHas(t *testing.T, s *sets.Set, n int, want bool) {
	t.Helper()
	if ok := s.Has(n); ok != want {
		t.Errorf("Has(%d) = %t", n, ok)
	}
}

func checkNext(t *testing.T, s *sets.Set, n, want int) {
	t.Helper()
	if m := s.Next(n); m != want {
		t.Errorf("Next(%d) = %d; want %d", n, m, want)
	}
}

// checkList asks for the set's numbers, and how many they are; want is rising.
func checkList(t *testing.T, s *sets.Set, want ...int) {
	t.Helper()
	if l := s.All(); !slices.Equal(l, want) {
		t.Errorf("All = %v; want %v", l, want)
	}
	if n := s.Len(); n != len(want) {
		t.Errorf("Len = %d; want %d", n, len(want))
	}
}

// checkWalk goes from -1 on, by Next of one more each time.
func checkWalk(t *testing.T, s *sets.Set, want ...int) {
	t.Helper()
	n := -1
	for _, m := range want {
		checkNext(t, s, n+1, m)
		n = m
	}
	checkNext(t, s, n+1, -1)
}

// farOff are numbers that are in no set; in 32 bits or fewer some of them would be others.
var farOff = []int{
	-1, -2, -63, -64, -65, -api.MaxItems, api.MaxItems, api.MaxItems + 1, 1 << 16, 1 << 31, 1<<32 + 1, 1<<32 + 64,
	math.MaxInt, math.MaxInt - 1, math.MaxInt - 62, math.MaxInt - 63, math.MaxInt - 64,
	math.MinInt, math.MinInt + 1, math.MinInt + 63, math.MinInt + 64, math.MinInt + 65,
}

// checkSet asks for all that can be told without a change; want is rising.
func checkSet(t *testing.T, s *sets.Set, want ...int) {
	t.Helper()
	checkList(t, s, want...)
	checkWalk(t, s, want...)
	p := &plain{list: want}
	for _, m := range append([]int{0, 63, 64}, want...) {
		for n := m - 2; n <= m+2; n++ {
			checkHas(t, s, n, p.has(n))
			checkNext(t, s, n, p.next(n))
		}
	}
	for _, n := range farOff {
		checkHas(t, s, n, false)
		checkNext(t, s, n, p.next(n))
	}
}

// P5.1

func TestNewRefuses(t *testing.T) {
	for _, n := range farOff {
		if n == api.MaxItems {
			continue
		}
		if s, e := sets.New(n); s != nil || e != api.ErrArg {
			t.Errorf("New(%d) = %v, %d", n, s, e)
		}
	}
}

func TestNewHasNone(t *testing.T) {
	for bound := range api.MaxItems + 1 {
		s := made(t, bound)
		checkList(t, s)
		checkWalk(t, s)
	}
	for _, bound := range []int{0, 1, 63, 64, 65, api.MaxItems} {
		checkSet(t, made(t, bound))
	}
}

// Of each bound that may be, all numbers below it can be in the set, and no other one.
func TestNewTakesNumbersBelow(t *testing.T) {
	for bound := range api.MaxItems + 1 {
		s := made(t, bound)
		for _, n := range farOff {
			checkAdd(t, s, n, false)
		}
		for n := bound; n < bound+130; n++ {
			checkAdd(t, s, n, false)
		}
		checkList(t, s)
		if bound > 0 {
			checkAdd(t, s, bound-1, true)
			checkList(t, s, bound-1)
			checkNext(t, s, 0, bound-1)
			checkNext(t, s, bound, -1)
			checkDrop(t, s, bound-1, true)
		}
		checkList(t, s)
	}
}

func TestFullSet(t *testing.T) {
	for _, bound := range []int{0, 1, 2, 62, 63, 64, 65, 66, 127, 128, 129, 1000, api.MaxItems - 1, api.MaxItems} {
		checkSet(t, made(t, bound, samples.UpTo(bound)...), samples.UpTo(bound)...)
	}
}

// P5.2

func TestKnown(t *testing.T) {
	s := made(t, 70)
	checkAdd(t, s, 69, true)
	checkAdd(t, s, 69, false)
	checkAdd(t, s, 3, true)
	checkAdd(t, s, 70, false)
	checkAdd(t, s, -1, false)
	checkList(t, s, 3, 69)
	checkHas(t, s, 3, true)
	checkNext(t, s, 4, 69)
	checkNext(t, s, -5, 3)
	checkNext(t, s, 70, -1)
	checkDrop(t, s, 3, true)
	checkDrop(t, s, 3, false)
	checkList(t, s, 69)
}

func TestSetForNone(t *testing.T) {
	s := made(t, 0)
	for _, n := range append([]int{0, 1, 63, 64}, farOff...) {
		checkAdd(t, s, n, false)
		checkDrop(t, s, n, false)
	}
	checkSet(t, s)
}

func TestSetForOne(t *testing.T) {
	s := made(t, 1)
	for range 3 {
		checkAdd(t, s, 1, false)
		checkAdd(t, s, 0, true)
		checkAdd(t, s, 0, false)
		checkSet(t, s, 0)
		checkDrop(t, s, 1, false)
		checkDrop(t, s, 0, true)
		checkDrop(t, s, 0, false)
		checkSet(t, s)
	}
}

// What is beyond the set's numbers is neither added nor dropped, and changes none of them.
func TestNumbersBeyond(t *testing.T) {
	for _, bound := range []int{1, 63, 64, 65, 100, 128, api.MaxItems} {
		for _, l := range [][]int{nil, {0}, {bound - 1}, samples.UpTo(bound)} {
			s := made(t, bound, l...)
			for _, n := range append([]int{bound, bound + 1, bound + 63, bound + 64}, farOff...) {
				checkAdd(t, s, n, false)
				checkDrop(t, s, n, false)
				checkHas(t, s, n, false)
			}
			checkList(t, s, l...)
		}
	}
}

// Each number alone is in its set, and then out of it, and no other one with it.
func TestEachNumberAlone(t *testing.T) {
	for n := range 200 {
		s := made(t, 200, n)
		checkAdd(t, s, n, false)
		checkList(t, s, n)
		for m := range 200 {
			checkHas(t, s, m, m == n)
			checkDrop(t, s, m, m == n)
			checkAdd(t, s, n, m == n)
		}
		checkList(t, s, n)
		full := made(t, 200, samples.UpTo(200)...)
		checkDrop(t, full, n, true)
		checkDrop(t, full, n, false)
		checkList(t, full, slices.Delete(samples.UpTo(200), n, n+1)...)
		checkAdd(t, full, n, true)
		checkList(t, full, samples.UpTo(200)...)
	}
}

func TestEndsOfWords(t *testing.T) {
	ends := []int{0, 63, 64, 127, 128, 191, 192, 1983, 1984, 2047}
	s := made(t, api.MaxItems, ends...)
	checkSet(t, s, ends...)
	for i, n := range ends {
		checkDrop(t, s, n, true)
		checkDrop(t, s, n, false)
		checkSet(t, s, slices.Delete(slices.Clone(ends), i, i+1)...)
		checkAdd(t, s, n, true)
		checkAdd(t, s, n, false)
		checkSet(t, s, ends...)
	}
}

func TestDroppedNumberComesAgain(t *testing.T) {
	s := made(t, 10, 5, 2)
	for range 4 {
		checkAdd(t, s, 5, false)
		checkDrop(t, s, 5, true)
		checkSet(t, s, 2)
		checkDrop(t, s, 5, false)
		checkAdd(t, s, 5, true)
		checkSet(t, s, 2, 5)
	}
}

func TestEachOrder(t *testing.T) {
	l := []int{0, 7, 63, 64, 129, 130}
	samples.Orders(l, func(order []int) {
		s := made(t, 131, order...)
		checkList(t, s, l...)
		checkWalk(t, s, l...)
		for _, n := range order {
			checkDrop(t, s, n, true)
		}
		checkList(t, s)
		checkWalk(t, s)
	})
}

func TestOrdersOfMany(t *testing.T) {
	draw := samples.Drawer(3)
	l := samples.UpTo(api.MaxItems)
	falling := slices.Clone(l)
	slices.Reverse(falling)
	mixed := slices.Clone(l)
	for i := range mixed {
		j := int(draw() % uint64(i+1))
		mixed[i], mixed[j] = mixed[j], mixed[i]
	}
	for _, order := range [][]int{l, falling, mixed} {
		s := made(t, api.MaxItems, order...)
		checkList(t, s, l...)
		for _, n := range order {
			checkDrop(t, s, n, true)
			checkDrop(t, s, n, false)
		}
		checkSet(t, s)
	}
}

// P5.3

func TestNextAroundNumbers(t *testing.T) {
	s := made(t, 300, 10, 20, 63, 64, 200)
	for n := -200; n < 500; n++ {
		want := -1
		for _, m := range []int{200, 64, 63, 20, 10} {
			if m >= n {
				want = m
			}
		}
		checkNext(t, s, n, want)
	}
	checkNext(t, s, math.MinInt, 10)
	checkNext(t, s, math.MaxInt, -1)
}

func TestAskingChangesNothing(t *testing.T) {
	s := made(t, 70, 3, 69, 0)
	for range 5 {
		checkSet(t, s, 0, 3, 69)
	}
	checkAdd(t, s, 3, false)
	checkDrop(t, s, 69, true)
	checkSet(t, s, 0, 3)
}

// checkRun does what the numbers tell, and holds each answer against the plain set's.
func checkRun(t *testing.T, bound, count int, draw func() uint64) {
	t.Helper()
	s, p := made(t, bound), &plain{bound: bound}
	for range count {
		do, n := draw()%8, int((draw()*256+draw())%uint64(bound+6))-3
		switch {
		case do < 4:
			checkAdd(t, s, n, p.add(n))
		case do < 7:
			checkDrop(t, s, n, p.drop(n))
		default:
			checkList(t, s, p.list...)
			checkWalk(t, s, p.list...)
		}
		checkHas(t, s, n, p.has(n))
		checkNext(t, s, n, p.next(n))
		if t.Failed() {
			t.Fatalf("a set for %d", bound)
		}
	}
	checkSet(t, s, p.list...)
}

func TestRunsAgreeWithThePlainSet(t *testing.T) {
	for _, bound := range []int{0, 1, 2, 5, 63, 64, 65, 128, 300, api.MaxItems} {
		for seed := range uint64(4) {
			checkRun(t, bound, 1000, samples.Drawer(seed+uint64(bound)))
		}
	}
}

// FuzzSet takes bytes for what is done, one behind the other.
func FuzzSet(f *testing.F) {
	f.Add([]byte{1, 0, 72, 1, 0, 72, 1, 0, 6, 1, 0, 73, 1, 0, 2, 7, 0, 0, 5, 0, 6, 5, 0, 6}, 70)
	f.Add([]byte{0, 0, 3, 5, 0, 3, 0, 0, 3}, 1)
	f.Add([]byte{0, 8, 2, 7, 8, 2, 5, 8, 2}, api.MaxItems)
	f.Fuzz(func(t *testing.T, b []byte, bound int) {
		if bound < 0 || bound > api.MaxItems {
			if s, e := sets.New(bound); s != nil || e != api.ErrArg {
				t.Fatalf("New(%d) = %v, %d", bound, s, e)
			}
			return
		}
		checkRun(t, bound, min(len(b), 300), samples.Bytes(b))
	})
}

// P5.4

func TestWalkTellsAll(t *testing.T) {
	for _, kinds := range []uint64{1, 2, 3, 10, 100, 1000} {
		draw := samples.Drawer(kinds)
		for _, bound := range []int{1, 64, 65, 700, api.MaxItems} {
			var l []int
			for n := range bound {
				if draw()%kinds == 0 {
					l = append(l, n)
				}
			}
			s := made(t, bound, l...)
			var told []int
			for n := s.Next(0); n != -1 && len(told) <= bound; n = s.Next(n + 1) {
				told = append(told, n)
			}
			if !slices.Equal(told, l) || !slices.Equal(told, s.All()) {
				t.Errorf("a set for %d tells %v; want %v", bound, told, l)
			}
		}
	}
}

// A walk tells what is there when it comes by, whatever was changed on its way.
func TestWalkOfASetThatChanges(t *testing.T) {
	s := made(t, 300, 0, 1, 64, 100, 299)
	var told []int
	for n := s.Next(0); n != -1; n = s.Next(n + 1) {
		told = append(told, n)
		s.Drop(n)
		s.Drop(100)
		s.Add(max(n-1, 0))
		s.Add(200)
	}
	if !slices.Equal(told, []int{0, 1, 64, 200, 299}) {
		t.Errorf("%v", told)
	}
	checkSet(t, s, 0, 63, 199, 200, 298)
}

// R3

func TestSetThatIsNotThere(t *testing.T) {
	var none *sets.Set
	var zero sets.Set
	for _, s := range []*sets.Set{none, &zero, new(sets.Set), {}} {
		for range 2 {
			for _, n := range append([]int{0, 1, 63, 64, 65}, farOff...) {
				checkAdd(t, s, n, false)
				checkDrop(t, s, n, false)
				checkHas(t, s, n, false)
				checkNext(t, s, n, -1)
			}
			checkSet(t, s)
		}
	}
}

// Whoever has a set has no calls but the chapter's: another one could break what it keeps.
func TestSetHasNoOtherCalls(t *testing.T) {
	var names []string
	for m := range reflect.TypeFor[*sets.Set]().Methods() {
		names = append(names, m.Name)
	}
	slices.Sort(names)
	if !slices.Equal(names, []string{"Add", "All", "Drop", "Has", "Len", "Next"}) {
		t.Errorf("%v", names)
	}
}

// R4, R5

// Whatever is done to an answer, its spare room too, neither the set nor another answer is changed by it.
func TestAllSharesNoMemory(t *testing.T) {
	for _, bound := range []int{70, 128, api.MaxItems} {
		want := []int{0, 3, 63, 64, 69}
		s := made(t, bound, want...)
		other := s.All()
		for _, bad := range []int{0, -1, 1, 68, math.MaxInt} {
			l := s.All()
			l = l[:cap(l)]
			for i := range l {
				l[i] = bad
			}
			checkSet(t, s, want...)
			if !slices.Equal(other, want) {
				t.Errorf("another answer is %v", other)
			}
		}
		slices.Reverse(s.All())
		_ = append(s.All()[:1], 5, 6, 7, 8, 9, 10)
		checkAdd(t, s, 3, false)
		checkAdd(t, s, 5, true)
		checkDrop(t, s, 64, true)
		checkSet(t, s, 0, 3, 5, 63, 69)
	}
}

func TestAllStaysAsItWasAnswered(t *testing.T) {
	s := made(t, 70, 3, 69)
	l := s.All()
	checkDrop(t, s, 3, true)
	checkAdd(t, s, 4, true)
	checkDrop(t, s, 69, true)
	if !slices.Equal(l, []int{3, 69}) {
		t.Errorf("%v", l)
	}
	checkSet(t, s, 4)
}

func TestSetsShareNothing(t *testing.T) {
	a, b := made(t, 70), made(t, 70)
	checkAdd(t, a, 3, true)
	checkSet(t, b)
	checkAdd(t, b, 3, true)
	checkAdd(t, b, 69, true)
	checkDrop(t, a, 3, true)
	checkSet(t, a)
	checkSet(t, b, 3, 69)
	checkSet(t, made(t, 70))
}

func BenchmarkWalk(b *testing.B) {
	s, _ := sets.New(api.MaxItems)
	for n := 0; n < api.MaxItems; n += 5 {
		s.Add(n)
	}
	for b.Loop() {
		for n := s.Next(0); n != -1; n = s.Next(n + 1) {
		}
	}
}
