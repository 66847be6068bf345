package wal_test

import (
	"math"
	"strings"
	"testing"

	"palinode/api"
	"palinode/wal"
)

// ids, indexes are numbers that a mark may have, the least and the greatest ones among them.
var (
	ids     = []int{1, 2, 255, 256, 257, 65536, 0x01020304050607, 1 << 32, 1<<32 + 1, 1 << 48, api.MaxNumber - 1, api.MaxNumber}
	indexes = []int{0, 1, 2, 63, 64, 65, 255, 256, 257, 65535, 65536, 0x01020304, 1<<24 - 1, 1 << 24, math.MaxInt32 - 1, math.MaxInt32}
)

// noIDs, noIndexes are numbers that a mark may not have.
var (
	noIDs     = []int{math.MinInt, math.MinInt + 1, -1 << 56, -1 << 32, -api.MaxNumber, -2, -1, 0, api.MaxNumber + 1, api.MaxNumber + 2, 1<<56 - 1, 1 << 56, 1<<56 + 1, math.MaxInt - 1, math.MaxInt}
	noIndexes = []int{math.MinInt, math.MinInt + 1, -1 << 32, math.MinInt32, -2, -1, math.MaxInt32 + 1, 1<<32 - 1, 1 << 32, 1<<32 + 1, 1<<32 + 2, 1 << 56, math.MaxInt - 1, math.MaxInt}
)

// bytesOf is n in so many bytes, the most significant one first, whatever n is.
func bytesOf(n, many int) string {
	var b []byte
	for i := range many {
		b = append(b, byte(uint64(n)>>(8*(many-1-i))))
	}
	return string(b)
}

// raw is the bytes of a mark, whatever the numbers are.
func raw(id, index, size int) string {
	front := bytesOf(id, 7) + bytesOf(index, 4)
	return "LG" + front + bytesOf(size, 4) + strings.Repeat("\x00", 36) + front
}

// marks checks Mark, and ReadMark of what it answers.
func marks(t *testing.T, id, index, size int, want string) {
	t.Helper()
	s, err := wal.Mark(id, index, size)
	if err != nil || s != want || len(s) != 64 {
		t.Fatalf("Mark(%d, %d, %d) = %q, %v; want %q", id, index, size, s, err, want)
	}
	n, err := wal.ReadMark(s, id, index)
	if n != size || err != nil {
		t.Fatalf("ReadMark(%q, %d, %d) = %d, %v; want %d", s, id, index, n, err, size)
	}
}

// noMark checks that Mark refuses numbers.
func noMark(t *testing.T, id, index, size int) {
	t.Helper()
	if s, err := wal.Mark(id, index, size); s != "" || err != api.ErrArg {
		t.Fatalf("Mark(%d, %d, %d) = %q, %v; want error %d", id, index, size, s, err, api.ErrArg)
	}
}

// noSize checks that ReadMark refuses bytes.
func noSize(t *testing.T, b string, id, index int) {
	t.Helper()
	if n, err := wal.ReadMark(b, id, index); n != 0 || err != api.ErrForm {
		t.Fatalf("ReadMark(%q, %d, %d) = %d, %v; want error %d", b, id, index, n, err, api.ErrForm)
	}
}

// P8.1: the bytes of a mark, one by one.
func TestMark(t *testing.T) {
	marks(t, 0x01020304050607, 0x11121314, 0x21222324, "LG\x01\x02\x03\x04\x05\x06\x07\x11\x12\x13\x14\x21\x22\x23\x24"+strings.Repeat("\x00", 36)+"\x01\x02\x03\x04\x05\x06\x07\x11\x12\x13\x14")
	marks(t, 1, 0, 0, "LG\x00\x00\x00\x00\x00\x00\x01"+strings.Repeat("\x00", 50)+"\x01\x00\x00\x00\x00")
	marks(t, api.MaxNumber, math.MaxInt32, math.MaxInt32, "LG\x1f\xff\xff\xff\xff\xff\xff\x7f\xff\xff\xff\x7f\xff\xff\xff"+strings.Repeat("\x00", 36)+"\x1f\xff\xff\xff\xff\xff\xff\x7f\xff\xff\xff")
	for _, id := range ids {
		for _, index := range indexes {
			for _, size := range indexes {
				marks(t, id, index, size, raw(id, index, size))
			}
		}
	}
}

// P8.1: numbers that no mark has are refused, whatever the others are.
func TestMarkRefuses(t *testing.T) {
	for _, index := range append(indexes, noIndexes...) {
		for _, size := range append(indexes, noIndexes...) {
			for _, id := range noIDs {
				noMark(t, id, index, size)
			}
		}
	}
	for _, id := range ids {
		for _, index := range indexes {
			for _, n := range noIndexes {
				noMark(t, id, n, index)
				noMark(t, id, index, n)
			}
		}
	}
}

// P8.1: a mark is that of one file and one index; those of no mark have none.
func TestReadMarkOfAnother(t *testing.T) {
	for _, id := range ids {
		for _, index := range indexes {
			b := raw(id, index, 300)
			for _, other := range append(ids, noIDs...) {
				if other != id {
					noSize(t, b, other, index)
				}
			}
			for _, other := range append(indexes, noIndexes...) {
				if other != index {
					noSize(t, b, id, other)
				}
			}
		}
	}
	for _, id := range noIDs {
		noSize(t, raw(id, 2, 300), id, 2)
		noSize(t, raw(id, 0, 0), id, 0)
	}
	for _, n := range noIndexes {
		noSize(t, raw(5, n, 300), 5, n)
		if n>>31&1 == 1 { // in 4 bytes it is still a number that no mark has
			noSize(t, raw(5, 2, n), 5, 2)
		}
	}
}

// P8.1: bytes of another length are no mark.
func TestReadMarkLength(t *testing.T) {
	b := raw(5, 2, 300)
	for n := range len(b) {
		noSize(t, b[:n], 5, 2)
		noSize(t, b[n:]+b[:n]+b, 5, 2)
		if n > 0 {
			noSize(t, b[n:], 5, 2)
		}
	}
	for _, more := range []string{"\x00", "L", b, strings.Repeat("\x00", 1<<16)} {
		noSize(t, b+more, 5, 2)
		noSize(t, more+b, 5, 2)
	}
	// The index's last bytes are zero bytes, and may still not lack.
	noSize(t, raw(1, 0, 0)[:63], 1, 0)
	noSize(t, raw(1, 0, 0)+"\x00", 1, 0)
	noSize(t, strings.Repeat("\x00", 64), 0, 0)
	noSize(t, strings.Repeat("\x00", 64), 1, 0)
}

// P8.1: of a mark, one byte of which is another one, only a byte of the size makes another mark.
func TestReadMarkBytes(t *testing.T) {
	for _, size := range []int{0, 300, 0x7f80ff01} {
		b := raw(0x01020304050607, 0x11121314, size)
		for at := range b {
			for c := range 256 {
				changed := b[:at] + string([]byte{byte(c)}) + b[at+1:]
				n := 0
				for _, c := range []byte(changed[13:17]) {
					n = n*256 + int(c)
				}
				if changed == raw(0x01020304050607, 0x11121314, n) && n < 1<<31 {
					marks(t, 0x01020304050607, 0x11121314, n, changed)
				} else {
					noSize(t, changed, 0x01020304050607, 0x11121314)
				}
			}
		}
	}
}

// P8.1, P8.4: a mark that was torn over zero bytes, or zero bytes over it, is that mark, or none.
func TestTornMark(t *testing.T) {
	zeros := strings.Repeat("\x00", 64)
	for _, id := range ids {
		for _, index := range indexes {
			for _, size := range []int{0, 1, 256, 300, 1 << 24} {
				b := raw(id, index, size)
				for cut := range 65 {
					for _, torn := range []string{b[:cut] + zeros[cut:], zeros[:cut] + b[cut:]} {
						if torn == b {
							marks(t, id, index, size, torn)
						} else {
							noSize(t, torn, id, index)
						}
					}
				}
			}
		}
	}
}

// P8.1: Mark refuses just the numbers beyond the limits, and ReadMark reads what it answers.
func FuzzMark(f *testing.F) {
	f.Add(1, 0, 0)
	f.Add(api.MaxNumber, math.MaxInt32, math.MaxInt32)
	f.Add(api.MaxNumber+1, 1, 1)
	f.Add(5, math.MaxInt32+1, -1)
	f.Fuzz(func(t *testing.T, id, index, size int) {
		log := id >= 1 && id <= 1<<53-1 && index >= 0 && index <= 1<<31-1
		if !log {
			noSize(t, raw(id, index, size), id, index)
		}
		if !log || size < 0 || size > 1<<31-1 {
			noMark(t, id, index, size)
			return
		}
		marks(t, id, index, size, raw(id, index, size))
	})
}

// P8.1: ReadMark takes just what Mark answers.
func FuzzReadMark(f *testing.F) {
	f.Add(raw(5, 2, 300), 5, 2)
	f.Add(raw(5, 2, 1<<31), 5, 2)
	f.Add(raw(0, 2, 3), 0, 2)
	f.Add("", 1, 0)
	f.Fuzz(func(t *testing.T, b string, id, index int) {
		n, err := wal.ReadMark(b, id, index)
		if err != nil {
			if n != 0 || err != api.ErrForm {
				t.Fatalf("%d, %v", n, err)
			}
			if len(b) == 64 {
				size := 0
				for _, c := range []byte(b[13:17]) {
					size = size*256 + int(c)
				}
				if m, err := wal.Mark(id, index, size); err == nil && m == b {
					t.Fatalf("ReadMark refuses Mark(%d, %d, %d)", id, index, size)
				}
			}
			return
		}
		marks(t, id, index, n, b)
	})
}
