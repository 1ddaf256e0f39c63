package samples

import "slices"

// Raw makes so many bytes without a pattern, the same ones for the same seed.
func Raw(seed uint64, size int) []byte {
	draw := Drawer(seed)
	b := make([]byte, size)
	for i := range b {
		b[i] = byte(draw())
	}
	return b
}

// RoomyRaw makes bytes as Raw does, with spare room, and a function that says whether all of them, the spare room too, are as they were.
func RoomyRaw(seed uint64, size int) (b []byte, same func() bool) {
	whole := Raw(seed, size+100)
	before := slices.Clone(whole)
	return whole[:size], func() bool { return slices.Equal(whole, before) }
}

// SpoilRaw changes each byte, the spare room too.
func SpoilRaw(b []byte) {
	b = b[:cap(b)]
	for i := range b {
		b[i] ^= 0x5a
	}
}
