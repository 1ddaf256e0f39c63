package disk_test

import (
	"bytes"
	"slices"
	"strconv"
	"strings"
	"testing"

	"lodestone/api"
	"lodestone/disk"
)

// plain is a disk in the document's words: bytes, as they are laid, and writes, which are gone through each time.
type plain struct {
	laid  []byte
	waits []wait
}

type wait struct {
	sector int
	bytes  []byte
}

func plainOf(size int) *plain { return &plain{laid: make([]byte, size*512)} }

func (p *plain) size() int { return len(p.laid) / 512 }

func (p *plain) write(n int, b []byte) api.Errno {
	if n < 0 || n >= p.size() || len(b) != 512 {
		return api.ErrArg
	}
	p.waits = append(p.waits, wait{n, slices.Clone(b)})
	return api.OK
}

func (p *plain) read(n int) ([]byte, api.Errno) {
	if n < 0 || n >= p.size() {
		return nil, api.ErrArg
	}
	b := p.laid[n*512 : n*512+512]
	for _, w := range p.waits {
		if w.sector == n {
			b = w.bytes
		}
	}
	return slices.Clone(b), api.OK
}

func (p *plain) sync() {
	for _, w := range p.waits {
		copy(p.laid[w.sector*512:], w.bytes)
	}
	p.waits = nil
}

func (p *plain) crash(kept []int, torn int) ([]byte, api.Errno) {
	rising := slices.Sorted(slices.Values(kept))
	if len(slices.Compact(rising)) != len(kept) || torn >= len(p.waits) {
		return nil, api.ErrArg
	}
	for _, place := range kept {
		if place < 0 || place >= len(p.waits) {
			return nil, api.ErrArg
		}
	}
	b := slices.Clone(p.laid)
	for _, place := range rising {
		w, lasts := p.waits[place], 512
		if place == torn {
			lasts = 256
		}
		for i := range lasts {
			b[w.sector*512+i] = w.bytes[i]
		}
	}
	return b, api.OK
}

// pair is a disk and the plain one that is to answer the same.
type pair struct {
	*testing.T
	disk  *disk.Disk
	plain *plain
}

func (x *pair) write(n int, b []byte) {
	x.Helper()
	want := x.plain.write(n, b)
	if e := x.disk.Write(n, b); e != want {
		x.Errorf("Write(%d, %d bytes) = %d; want %d", n, len(b), e, want)
	}
}

func (x *pair) read(n int) {
	x.Helper()
	want, fault := x.plain.read(n)
	checkBytes(x.T, x.disk.Read, n, want, fault)
}

func (x *pair) sync() {
	x.Helper()
	x.plain.sync()
	if e := x.disk.Sync(); e != api.OK {
		x.Errorf("Sync = %d", e)
	}
}

func (x *pair) crash(kept []int, torn int) {
	x.Helper()
	want, fault := x.plain.crash(kept, torn)
	checkCrash(x.T, x.disk, kept, torn, want, fault)
}

// same asks for all that can be told without a change.
func (x *pair) same() {
	x.Helper()
	if n := x.disk.Len(); n != x.plain.size() {
		x.Errorf("Len = %d; want %d", n, x.plain.size())
	}
	if n := x.disk.Waits(); n != len(x.plain.waits) {
		x.Errorf("Waits = %d; want %d", n, len(x.plain.waits))
	}
	for n := -1; n <= x.plain.size(); n++ {
		x.read(n)
	}
	var all []int
	for place := range x.plain.waits {
		all = append(all, place)
		x.crash([]int{place}, place)
	}
	x.crash(nil, -1)
	x.crash(all, -1)
	x.crash(all, len(all))
}

func checkBytes(t *testing.T, read func(int) ([]byte, api.Errno), n int, want []byte, fault api.Errno) {
	t.Helper()
	b, e := read(n)
	if e != fault {
		t.Errorf("Read(%d) = %d; want %d", n, e, fault)
	}
	if !bytes.Equal(b, want) {
		t.Errorf("Read(%d) = %s; want %s", n, tell(b), tell(want))
	}
}

func checkCrash(t *testing.T, d *disk.Disk, kept []int, torn int, want []byte, fault api.Errno) {
	t.Helper()
	b, e := d.Crash(kept, torn)
	if e != fault {
		t.Errorf("Crash(%v, %d) = %d; want %d", kept, torn, e, fault)
	}
	if !bytes.Equal(b, want) {
		t.Errorf("Crash(%v, %d) = %s; want %s", kept, torn, tell(b), tell(want))
	}
}

// tell tells bytes briefly: where they change, and to what.
func tell(b []byte) string {
	var text strings.Builder
	text.WriteString(strconv.Itoa(len(b)) + " bytes")
	told := 0
	for i, c := range b {
		if i > 0 && b[i-1] == c {
			continue
		}
		if told++; told > 8 {
			text.WriteString(" ..")
			break
		}
		text.WriteString(" [" + strconv.Itoa(i) + "] " + strconv.Itoa(int(c)))
	}
	return text.String()
}
