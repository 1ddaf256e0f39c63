package disk_test

import (
	"bytes"
	"math"
	"reflect"
	"slices"
	"testing"

	"lodestone/api"
	"lodestone/disk"
	"lodestone/samples"
)

// filled is a sector of one byte.
func filled(c byte) []byte { return bytes.Repeat([]byte{c}, 512) }

// joined are the parts, one behind the other.
func joined(parts ...[]byte) []byte { return bytes.Join(parts, nil) }

// made makes a disk of noughts, and the plain one.
func made(t *testing.T, size int) *pair {
	t.Helper()
	d, e := disk.New(size)
	if d == nil || e != api.OK {
		t.Fatalf("New(%d): %d", size, e)
	}
	return &pair{t, d, plainOf(size)}
}

// from makes a disk of the bytes, and the plain one.
func from(t *testing.T, b []byte) *pair {
	t.Helper()
	d, e := disk.From(b)
	if d == nil || e != api.OK {
		t.Fatalf("From(%d bytes): %d", len(b), e)
	}
	return &pair{t, d, &plain{laid: slices.Clone(b)}}
}

// mixed is a disk of four sectors: 0 was never written, 1 is laid, 2 is laid and written anew twice, 3 is written alone.
func mixed(t *testing.T) *pair {
	t.Helper()
	x := made(t, 4)
	x.write(1, samples.Raw(1, 512))
	x.write(2, samples.Raw(2, 512))
	x.sync()
	x.write(2, samples.Raw(3, 512))
	x.write(3, samples.Raw(4, 512))
	x.write(2, samples.Raw(5, 512))
	return x
}

// badSectors are no sectors of a disk of so many.
func badSectors(size int) []int {
	return append(samples.FarNumbers(), size, size+1, size+256, 1<<16, 1<<32-1, math.MaxInt-1, -size, -512)
}

// P14.1

func TestNewRefuses(t *testing.T) {
	for _, n := range append(samples.FarNumbers(), 0, -512, api.MaxSectors+1, api.MaxSectors+2, api.MaxSectors*2, 1<<32+2) {
		if d, e := disk.New(n); d != nil || e != api.ErrArg {
			t.Errorf("New(%d) = %v, %d", n, d, e)
		}
	}
}

func TestNewHasNoughts(t *testing.T) {
	for _, size := range append(samples.UpTo(70)[1:], 511, 512, 513) {
		made(t, size).same()
	}
}

func TestNewOfMost(t *testing.T) {
	for _, size := range []int{api.MaxSectors - 1, api.MaxSectors} {
		x := made(t, size)
		x.same()
		x.write(size-1, filled(7))
		x.write(0, filled(8))
		x.write(size, filled(9))
		x.same()
		x.sync()
		x.same()
	}
}

func TestFromRefuses(t *testing.T) {
	most := make([]byte, api.MaxSectors*api.Sector+2*api.Sector)
	for _, size := range []int{0, 1, 2, 255, 256, 511, 513, 767, 1023, 1025, 512*700 + 1, len(most) - 1025, len(most) - 1023, len(most) - 512, len(most) - 1, len(most)} {
		if d, e := disk.From(most[:size]); d != nil || e != api.ErrArg {
			t.Errorf("From(%d bytes) = %d", size, e)
		}
	}
	if d, e := disk.From(nil); d != nil || e != api.ErrArg {
		t.Errorf("From(nil) = %d", e)
	}
}

func TestFromLaysBytes(t *testing.T) {
	for _, size := range []int{1, 2, 3, 10, 513} {
		from(t, samples.Raw(uint64(size), size*512)).same()
		from(t, make([]byte, size*512)).same()
	}
	x := from(t, joined(filled(1), filled(0), filled(2)))
	checkBytes(t, x.disk.Read, 0, filled(1), api.OK)
	checkBytes(t, x.disk.Read, 1, filled(0), api.OK)
	checkBytes(t, x.disk.Read, 2, filled(2), api.OK)
	if n := x.disk.Waits(); n != 0 {
		t.Errorf("Waits = %d", n)
	}
}

func TestFromMost(t *testing.T) {
	b := samples.Raw(1, api.MaxSectors*api.Sector)
	x := from(t, b)
	x.same()
	x.write(api.MaxSectors-1, filled(7))
	x.same()
	from(t, b[:len(b)-512]).same()
}

// What is made of a disk's bytes goes on as if nothing had been made anew.
func TestFromOfACrash(t *testing.T) {
	x := mixed(t)
	b, _ := x.disk.Crash([]int{2, 0}, 2)
	y := from(t, b)
	y.same()
	checkBytes(t, y.disk.Read, 2, joined(samples.Raw(5, 512)[:256], samples.Raw(3, 512)[256:]), api.OK)
	checkBytes(t, y.disk.Read, 3, filled(0), api.OK)
	y.write(2, filled(1))
	y.same()
	x.same()
}

// P14.2

func TestKnown(t *testing.T) {
	ones, twos, noughts := filled(1), filled(2), filled(0)
	d, _ := disk.New(2)
	if d.Len() != 2 || d.Write(1, ones) != api.OK || d.Write(1, twos) != api.OK || d.Waits() != 2 {
		t.Fatal("two writes")
	}
	checkBytes(t, d.Read, 1, twos, api.OK)
	checkBytes(t, d.Read, 0, noughts, api.OK)
	checkBytes(t, d.Read, 2, nil, api.ErrArg)
	checkCrash(t, d, nil, -1, joined(noughts, noughts), api.OK)
	checkCrash(t, d, []int{0}, -1, joined(noughts, ones), api.OK)
	checkCrash(t, d, []int{1, 0}, 1, joined(noughts, twos[:256], ones[256:]), api.OK)
	checkCrash(t, d, []int{2}, -1, nil, api.ErrArg)
	if e := d.Sync(); e != api.OK || d.Waits() != 0 {
		t.Errorf("Sync = %d, then %d wait", e, d.Waits())
	}
	checkCrash(t, d, nil, -1, joined(noughts, twos), api.OK)
}

func TestWriteRefuses(t *testing.T) {
	for _, x := range []*pair{made(t, 1), mixed(t), from(t, samples.Raw(3, 1024))} {
		for _, n := range badSectors(x.plain.size()) {
			for _, size := range []int{0, 511, 512, 513} {
				if e := x.disk.Write(n, make([]byte, size)); e != api.ErrArg {
					t.Errorf("Write(%d, %d bytes) = %d", n, size, e)
				}
			}
		}
		for n := range x.plain.size() {
			for _, size := range []int{0, 1, 256, 511, 513, 514, 1023, 1024, 4096, 1<<16 + 512} {
				if e := x.disk.Write(n, samples.Raw(9, size)); e != api.ErrArg {
					t.Errorf("Write(%d, %d bytes) = %d", n, size, e)
				}
			}
			if e := x.disk.Write(n, nil); e != api.ErrArg {
				t.Errorf("Write(%d, nil) = %d", n, e)
			}
		}
		x.same()
	}
}

func TestReadRefuses(t *testing.T) {
	for _, x := range []*pair{made(t, 1), mixed(t), from(t, samples.Raw(3, 1024))} {
		for _, n := range badSectors(x.plain.size()) {
			checkBytes(t, x.disk.Read, n, nil, api.ErrArg)
		}
		x.same()
	}
}

// Each sector is what it was written to last, and no other one with it.
func TestReadIsWrittenLast(t *testing.T) {
	for n := range 5 {
		for _, laid := range []bool{false, true} {
			x := from(t, samples.Raw(1, 5*512))
			for i := range uint64(3) {
				x.write(n, samples.Raw(10+i, 512))
				x.same()
				if laid {
					x.sync()
					x.same()
				}
			}
		}
	}
}

// Noughts are written as anything else: they are not what stood there before.
func TestNoughtsAreWritten(t *testing.T) {
	x := from(t, samples.Raw(1, 3*512))
	x.write(1, filled(0))
	x.same()
	checkBytes(t, x.disk.Read, 1, filled(0), api.OK)
	x.crash([]int{0}, 0)
	x.sync()
	x.same()
	x.write(1, filled(3))
	x.write(1, filled(0))
	x.same()
	checkBytes(t, x.disk.Read, 1, filled(0), api.OK)
}

// Sectors are asked for as quickly, however many writes wait.
func TestManyWrites(t *testing.T) {
	x := made(t, api.MaxSectors)
	last := make([]byte, api.MaxSectors)
	draw := samples.Drawer(1)
	for i := range 3 * api.MaxSectors {
		n := int(draw()) % api.MaxSectors
		last[n] = byte(i)
		if e := x.disk.Write(n, filled(byte(i))); e != api.OK || x.disk.Waits() != i+1 {
			t.Fatalf("the write %d: %d", i, e)
		}
	}
	for range 2 {
		for n, c := range last {
			checkBytes(t, x.disk.Read, n, filled(c), api.OK)
		}
		x.disk.Sync()
	}
}

// P14.3

func TestSyncLaysInOrder(t *testing.T) {
	x := made(t, 3)
	for i := range 40 {
		x.write(i%2, filled(byte(i)))
	}
	x.sync()
	x.same()
	checkCrash(t, x.disk, nil, -1, joined(filled(38), filled(39), filled(0)), api.OK)
}

func TestSyncOfNone(t *testing.T) {
	x := mixed(t)
	for range 3 {
		x.sync()
		x.same()
	}
	y := made(t, 2)
	y.sync()
	y.same()
}

// Behind a Sync the places of writes count from 0 again, and just what is written from then on can be lost.
func TestWritesBehindSync(t *testing.T) {
	x := made(t, 3)
	for i := range byte(6) {
		x.write(1, filled(10+i))
		x.write(2, filled(20+i))
		x.same()
		checkCrash(t, x.disk, []int{2}, -1, nil, api.ErrArg)
		x.sync()
		x.same()
		checkCrash(t, x.disk, []int{0}, -1, nil, api.ErrArg)
		x.write(1, filled(30+i))
		x.same()
		checkCrash(t, x.disk, []int{0}, 0, joined(filled(0), filled(30 + i)[:256], filled(10 + i)[:256], filled(20+i)), api.OK)
		x.sync()
		x.same()
	}
}

// P14.4

// Each list of places, in each order, each write torn, and all ways to write to two sectors.
func TestEachCrash(t *testing.T) {
	const count = 4
	for ways := range 1 << count {
		x := from(t, samples.Raw(1, 3*512))
		for i := range count {
			x.write(ways>>i&1, samples.Raw(uint64(10+i), 512))
		}
		samples.Subsets(count, func(kept []int) {
			samples.Orders(kept, func(order []int) {
				for torn := -2; torn <= count; torn++ {
					x.crash(order, torn)
				}
			})
		})
		x.same()
	}
}

func TestCrashRefuses(t *testing.T) {
	for _, x := range []*pair{mixed(t), made(t, 2)} {
		count := x.disk.Waits()
		all := samples.UpTo(count)
		bad := append(samples.FarNumbers(), count, count+1, count+256, count+512)
		for _, place := range bad {
			for at := range len(all) + 1 {
				checkCrash(t, x.disk, slices.Insert(slices.Clone(all), at, place), -1, nil, api.ErrArg)
			}
			checkCrash(t, x.disk, []int{place}, -1, nil, api.ErrArg)
			checkCrash(t, x.disk, []int{place, place}, -1, nil, api.ErrArg)
		}
		for _, place := range all {
			checkCrash(t, x.disk, []int{place, place}, -1, nil, api.ErrArg)
			for at := range len(all) + 1 {
				checkCrash(t, x.disk, slices.Insert(slices.Clone(all), at, place), place, nil, api.ErrArg)
			}
		}
		for _, torn := range bad {
			if torn >= 0 {
				checkCrash(t, x.disk, nil, torn, nil, api.ErrArg)
				checkCrash(t, x.disk, all, torn, nil, api.ErrArg)
			}
		}
		x.same()
	}
}

// A number below 0 tears none; so does the place of a write that is not kept.
func TestCrashThatTearsNone(t *testing.T) {
	x := mixed(t)
	for _, torn := range append(samples.FarNumbers(), -3, -256, -512) {
		if torn < 0 {
			x.crash(nil, torn)
			x.crash([]int{0, 1, 2}, torn)
		}
	}
	whole, _ := x.disk.Crash([]int{0, 2}, -1)
	checkCrash(t, x.disk, []int{0, 2}, 1, whole, api.OK)
}

// Of a torn write the first 256 bytes are there, and what was there before stands behind them: what was laid, or kept.
func TestTornWrite(t *testing.T) {
	old, one, two := samples.Raw(1, 512), samples.Raw(2, 512), samples.Raw(3, 512)
	x := from(t, joined(filled(5), old, filled(6)))
	x.write(1, one)
	x.write(1, two)
	for _, c := range []struct {
		kept []int
		torn int
		want []byte
	}{
		{[]int{0}, 0, joined(one[:256], old[256:])},
		{[]int{1}, 1, joined(two[:256], old[256:])},
		{[]int{0, 1}, 1, joined(two[:256], one[256:])},
		{[]int{0, 1}, 0, two},
		{[]int{1}, 0, two},
	} {
		checkCrash(t, x.disk, c.kept, c.torn, joined(filled(5), c.want, filled(6)), api.OK)
	}
	x.same()
}

func TestCrashLeavesTheDisk(t *testing.T) {
	for _, torn := range []int{-1, 0, 1, 2} {
		x := mixed(t)
		samples.Subsets(3, func(kept []int) {
			x.crash(kept, torn)
			x.same()
		})
		x.write(0, filled(3))
		x.sync()
		x.same()
	}
}

func TestCrashOfManyWrites(t *testing.T) {
	x := made(t, 7)
	draw := samples.Drawer(2)
	for i := range uint64(3000) {
		x.write(int(draw()%7), samples.Raw(i, 512))
	}
	for seed := range uint64(20) {
		kept := drawnPlaces(samples.Drawer(seed), 3000, 1+seed%5)
		x.crash(kept, int(draw()%3000))
		x.crash(kept, kept[len(kept)-1])
	}
}

// drawnPlaces are about one of so many of the places below count, mixed.
func drawnPlaces(draw func() uint64, count int, of uint64) []int {
	var l []int
	for place := range count {
		if draw()%of == 0 {
			l = slices.Insert(l, int(draw()%uint64(len(l)+1)), place)
		}
	}
	return l
}

// P14.5

// Whatever is kept and torn of the writes behind a Sync, the sectors to which none of them goes are as they were synced.
func TestSyncedIsThere(t *testing.T) {
	for seed := range uint64(20) {
		draw := samples.Drawer(seed)
		x := made(t, 8)
		for range 5 {
			for range 10 {
				x.write(int(draw()%8), samples.Raw(draw(), 512))
			}
			x.sync()
			synced, _ := x.disk.Crash(nil, -1)
			for n := range 8 {
				checkBytes(t, x.disk.Read, n, synced[n*512:n*512+512], api.OK)
			}
			for range 4 {
				x.write(2*int(draw()%4), samples.Raw(draw(), 512))
			}
			samples.Subsets(4, func(kept []int) {
				for torn := -1; torn < 4; torn++ {
					b, e := x.disk.Crash(kept, torn)
					if e != api.OK {
						t.Fatalf("Crash(%v, %d) = %d", kept, torn, e)
					}
					for n := 1; n < 8; n += 2 {
						if !bytes.Equal(b[n*512:n*512+512], synced[n*512:n*512+512]) {
							t.Errorf("Crash(%v, %d): the sector %d is not as it was synced", kept, torn, n)
						}
					}
				}
			})
		}
	}
}

// run does what the numbers tell, and holds each answer against the plain disk's; now and then the power fails, and it goes on with what is left.
func run(t *testing.T, size, count int, draw func() uint64) {
	t.Helper()
	x := made(t, size)
	for range count {
		do, n := draw()%16, int(draw()%uint64(size+2))-1
		switch {
		case do < 8:
			x.write(n, samples.Raw(draw(), 512))
		case do == 8:
			x.write(n, samples.Raw(draw(), int(draw()%1025)))
		case do < 11:
			x.read(n)
		case do == 11:
			x.sync()
		default:
			waits := len(x.plain.waits)
			kept := drawnPlaces(draw, waits, 1+draw()%3)
			if draw()%8 == 0 {
				kept = append(kept, int(draw()%uint64(waits+2))-1)
			}
			torn := int(draw()%uint64(waits+4)) - 2
			x.crash(kept, torn)
			if b, e := x.disk.Crash(kept, torn); e == api.OK && do == 15 {
				x = from(t, b)
			}
		}
		if t.Failed() {
			t.Fatalf("a disk of %d", size)
		}
	}
	x.same()
}

func TestRunsAgreeWithThePlainDisk(t *testing.T) {
	for _, size := range []int{1, 2, 3, 7, 40} {
		for seed := range uint64(6) {
			run(t, size, 1000, samples.Drawer(seed+uint64(size)))
		}
	}
}

// FuzzDisk takes bytes for what is done, one behind the other.
func FuzzDisk(f *testing.F) {
	f.Add([]byte{0, 1, 5, 0, 1, 6, 12, 0, 1, 0, 0, 0, 0, 1, 2, 3, 11, 0, 9, 1}, uint8(2))
	f.Add([]byte{8, 1, 4, 2, 0, 2, 7, 15, 0, 0, 0, 0, 0, 3, 10, 2, 0, 2, 9, 13, 0, 0, 0}, uint8(3))
	f.Fuzz(func(t *testing.T, b []byte, size uint8) {
		run(t, 1+int(size%20), min(len(b), 300), samples.Bytes(b))
	})
}

// R3

func TestDiskThatIsNotThere(t *testing.T) {
	var none *disk.Disk
	for _, d := range []*disk.Disk{none, {}, new(disk.Disk)} {
		for range 2 {
			if d.Len() != 0 || d.Waits() != 0 {
				t.Errorf("Len = %d, Waits = %d", d.Len(), d.Waits())
			}
			if e := d.Sync(); e != api.ErrNil {
				t.Errorf("Sync = %d", e)
			}
			for _, n := range append(badSectors(1), 0) {
				checkBytes(t, d.Read, n, nil, api.ErrNil)
				checkCrash(t, d, nil, n, nil, api.ErrNil)
				checkCrash(t, d, []int{n}, -1, nil, api.ErrNil)
				checkCrash(t, d, []int{n, n}, n, nil, api.ErrNil)
				for _, size := range []int{0, 511, 512, 513} {
					if e := d.Write(n, make([]byte, size)); e != api.ErrNil {
						t.Errorf("Write(%d, %d bytes) = %d", n, size, e)
					}
				}
			}
		}
	}
}

// Whoever has a disk has no calls but the chapter's, and no part of it: else what it keeps could be broken.
func TestDiskHasNoOtherCalls(t *testing.T) {
	var names []string
	for m := range reflect.TypeFor[*disk.Disk]().Methods() {
		names = append(names, m.Name)
	}
	slices.Sort(names)
	if !slices.Equal(names, []string{"Crash", "Len", "Read", "Sync", "Waits", "Write"}) {
		t.Errorf("%v", names)
	}
	for part := range reflect.TypeFor[disk.Disk]().Fields() {
		if part.IsExported() {
			t.Errorf("%s", part.Name)
		}
	}
}

// R4

// What is handed in is not changed by any later call, its spare room neither.
func TestWhatIsHandedInStays(t *testing.T) {
	b, same := samples.RoomyRaw(1, 2*512)
	x := from(t, b)
	one, sameOne := samples.RoomyRaw(2, 512)
	two, sameTwo := samples.RoomyRaw(3, 512)
	check := func() {
		t.Helper()
		if !same() || !sameOne() || !sameTwo() {
			t.Error("it is changed")
		}
	}
	for _, sector := range [][]byte{one, two, one[:511], filled(5), two, one} {
		x.write(1, sector)
		check()
		x.write(0, sector)
		check()
		x.same()
		check()
	}
	kept := append(make([]int, 0, 40), 3, 1, 0)
	for i := range kept[:40][3:] {
		kept[:40][3+i] = 7
	}
	before := slices.Clone(kept[:40])
	for torn := -1; torn < 5; torn++ {
		x.crash(kept, torn)
		x.crash(kept[:4], torn)
	}
	if !slices.Equal(kept[:40], before) {
		t.Errorf("%v", kept[:40])
	}
	x.sync()
	check()
	x.write(1, filled(6))
	x.sync()
	x.same()
	check()
}

// What was handed in may be changed: the disk has it as it was.
func TestWhatIsHandedInIsNotKept(t *testing.T) {
	b := samples.Raw(1, 3*512)
	x := from(t, b)
	samples.SpoilRaw(b)
	x.same()
	one := samples.Raw(2, 512)
	for n := range 2 {
		x.write(n, one)
		samples.SpoilRaw(one)
		x.same()
	}
	x.sync()
	samples.SpoilRaw(one)
	x.same()
	kept := []int{0, 1}
	x.write(0, filled(1))
	x.write(0, filled(2))
	x.crash(kept, 1)
	kept[0], kept[1] = 1, 1
	x.same()
}

// Whatever is done to an answer, its spare room too, neither the disk nor another answer is changed by it.
func TestAnswersShareNoMemory(t *testing.T) {
	laid := from(t, samples.Raw(1, 2*512))
	synced := mixed(t)
	synced.sync()
	for _, x := range []*pair{made(t, 2), laid, mixed(t), synced} {
		spoilReads(x)
		all := samples.UpTo(x.disk.Waits())
		for _, kept := range [][]int{nil, all} {
			other, _ := x.disk.Crash(kept, -1)
			want := slices.Clone(other)
			b, _ := x.disk.Crash(kept, -1)
			samples.SpoilRaw(b)
			if !bytes.Equal(other, want) {
				t.Error("another answer is changed")
			}
			x.same()
		}
		x.sync()
		x.same()
	}
}

func spoilReads(x *pair) {
	x.Helper()
	for n := range x.plain.size() {
		other, _ := x.disk.Read(n)
		want := slices.Clone(other)
		b, _ := x.disk.Read(n)
		samples.SpoilRaw(b)
		if !bytes.Equal(other, want) {
			x.Errorf("another answer of Read(%d) is changed", n)
		}
		x.same()
	}
}

func TestAnswersStay(t *testing.T) {
	x := mixed(t)
	b, _ := x.disk.Read(2)
	left, _ := x.disk.Crash([]int{1}, -1)
	first, whole := slices.Clone(b), slices.Clone(left)
	for range 2 {
		x.write(2, filled(1))
		x.write(3, filled(2))
		x.sync()
	}
	if !bytes.Equal(b, first) || !bytes.Equal(left, whole) {
		t.Error("an answer is changed")
	}
}

// R5

func TestDisksShareNothing(t *testing.T) {
	b := samples.Raw(1, 2*512)
	w, x, y, z := from(t, b), from(t, b), made(t, 2), made(t, 2)
	for i := range byte(3) {
		w.write(1, filled(i))
		y.write(1, filled(10+i))
		for _, p := range []*pair{w, x, y, z} {
			p.same()
		}
		if i == 1 {
			w.sync()
			y.sync()
		}
	}
	x.write(0, b[512:])
	z.write(0, b[512:])
	for _, p := range []*pair{w, x, y, z} {
		p.same()
	}
}

func BenchmarkCrash(b *testing.B) {
	d, _ := disk.New(2000)
	for n := range 2000 {
		d.Write(n, filled(byte(n)))
	}
	d.Sync()
	for n := range 100 {
		d.Write(n, filled(byte(n)))
	}
	kept := samples.UpTo(100)
	for b.Loop() {
		d.Crash(kept, 50)
	}
}
