package disk_test

import (
	"math"
	"slices"
	"strings"
	"testing"

	"palinode/api"
	"palinode/disk"
)

// newDisk is a new disk that must be had.
func newDisk(t *testing.T, sectors int) *disk.Disk {
	t.Helper()
	d, err := disk.New(sectors)
	if err != nil {
		t.Fatalf("New(%d): %v", sectors, err)
	}
	return d
}

// padded is s as a sector's bytes.
func padded(s string) string { return s + strings.Repeat("\x00", api.Sector-len(s)) }

// write writes what must be taken.
func write(t *testing.T, d *disk.Disk, sector int, s string) {
	t.Helper()
	if err := d.Write(sector, s); err != nil {
		t.Fatalf("Write(%d, %q): %v", sector, s, err)
	}
}

// sync syncs a disk that must be up.
func sync(t *testing.T, d *disk.Disk) {
	t.Helper()
	if err := d.Sync(); err != nil {
		t.Fatalf("Sync: %v", err)
	}
}

// holds checks the bytes of the disk's first sectors, given without the zero bytes behind.
func holds(t *testing.T, d *disk.Disk, want ...string) {
	t.Helper()
	for i, s := range want {
		if got, err := d.Read(i); got != padded(s) || err != nil {
			t.Errorf("Read(%d) = %q, %v; want %q", i, strings.TrimRight(got, "\x00"), err, s)
		}
	}
}

// refuses checks a call's error.
func refuses(t *testing.T, name string, err, want error) {
	t.Helper()
	if err != want {
		t.Errorf("%s: %v; want %v", name, err, want)
	}
}

// extremes are numbers that are no sector of any disk.
var extremes = []int{math.MinInt, math.MinInt + 1, -api.MaxSectors, -1, api.MaxSectors, 1 << 32, 1 << 58, math.MaxInt}

// P4.1: a new disk has as many sectors as it was asked for, all of them zero bytes, and its power is on.
func TestNew(t *testing.T) {
	for _, sectors := range []int{1, 2, 63, 64, 65, api.MaxSectors - 1, api.MaxSectors} {
		d := newDisk(t, sectors)
		if d.Size() != sectors || d.Down() || d.Writes() != 0 {
			t.Errorf("New(%d): %d sectors, down %t, %d writes", sectors, d.Size(), d.Down(), d.Writes())
		}
		holds(t, d, make([]string, sectors)...)
		for _, sector := range []int{-1, sectors, sectors + 1} {
			s, err := d.Read(sector)
			if s != "" || err != api.ErrArg {
				t.Errorf("New(%d), Read(%d) = %q, %v", sectors, sector, s, err)
			}
			refuses(t, "Write beside the disk", d.Write(sector, "x"), api.ErrArg)
		}
	}
}

// P4.1: no disk has fewer sectors than one, or more than MaxSectors.
func TestNewOutOfRange(t *testing.T) {
	for _, sectors := range []int{0, -1, -api.MaxSectors, math.MinInt, api.MaxSectors + 1, 1 << 32, 1<<32 + 1, math.MaxInt} {
		if d, err := disk.New(sectors); d != nil || err != api.ErrArg {
			t.Errorf("New(%d) = %v, %v; want ErrArg", sectors, d, err)
		}
	}
}

// P4.1: strings of every length that a sector holds are read as they were written, with zero bytes behind, in their own sector only.
func TestWriteAndRead(t *testing.T) {
	long := strings.Repeat("0123456789abcdef", api.Sector/16)
	d := newDisk(t, 3)
	for size := range api.Sector + 1 {
		s := long[:size]
		write(t, d, 1, long)
		write(t, d, 1, s)
		holds(t, d, "", s, "")
		if got, err := d.Read(1); len(got) != api.Sector || err != nil {
			t.Errorf("Read: %d bytes, %v", len(got), err)
		}
		sync(t, d)
		holds(t, d, "", s, "")
	}
	write(t, d, 0, "first")
	write(t, d, 2, "\xff\x00last\x00\x00")
	holds(t, d, "first", long, "\xff\x00last")
}

// P4.1: a sector has what was written to it last, synced or not.
func TestLastWriteCounts(t *testing.T) {
	d := newDisk(t, 2)
	for _, s := range []string{"a", "bcd", "", "e"} {
		write(t, d, 0, s)
		write(t, d, 1, "1"+s)
		holds(t, d, s, "1"+s)
	}
	sync(t, d)
	holds(t, d, "e", "1e")
	write(t, d, 0, "f")
	holds(t, d, "f", "1e")
}

// P4.1: all sectors of the greatest disk have their own bytes.
func TestEverySector(t *testing.T) {
	d := newDisk(t, api.MaxSectors)
	want := make([]string, api.MaxSectors)
	for i := range want {
		want[i] = string([]byte{1, byte(i >> 8), byte(i), 1})
		write(t, d, i, want[i])
	}
	holds(t, d, want...)
	sync(t, d)
	d.Crash(nil, 0, 5)
	holds(t, d, want...)
}

// P4.1, P6, P2: the error that the chapter names first is the one told, and nothing has changed.
func TestRefusals(t *testing.T) {
	long := strings.Repeat("x", api.Sector+1)
	d := newDisk(t, 2)
	write(t, d, 0, "a")
	d.Fuse(1)
	for _, sector := range append(extremes, 2) {
		s, err := d.Read(sector)
		if s != "" || err != api.ErrArg {
			t.Errorf("Read(%d) = %q, %v", sector, s, err)
		}
		refuses(t, "Write to no sector", d.Write(sector, "x"), api.ErrArg)
		refuses(t, "Write of a long string to no sector", d.Write(sector, long), api.ErrArg)
	}
	refuses(t, "Write of a long string", d.Write(0, long), api.ErrLong)
	refuses(t, "Write of a longer string", d.Write(1, strings.Repeat(long, 1<<14)), api.ErrLong)
	holds(t, d, "a", "")
	if d.Writes() != 1 || d.Down() {
		t.Errorf("%d writes, down %t", d.Writes(), d.Down())
	}
	// The fuse has not burnt, and the cache has the one write.
	write(t, d, 1, "b")
	d.Crash([]int{0, 1}, -1, 0)
	holds(t, d, "", "b")
}

// P4.1, P4.2: without power there is no reading, writing or syncing, whatever else is wrong; what the disk tells about itself it still tells.
func TestWithoutPower(t *testing.T) {
	d := newDisk(t, 2)
	write(t, d, 0, "a")
	d.Fuse(0)
	refuses(t, "the write that the power fails at", d.Write(1, "b"), api.ErrDown)
	for _, fuse := range []int{0, 5, -1} {
		d.Fuse(fuse)
		for _, sector := range append(extremes, 0, 1, 2) {
			s, err := d.Read(sector)
			if s != "" || err != api.ErrDown {
				t.Errorf("Read(%d) = %q, %v", sector, s, err)
			}
			refuses(t, "Write", d.Write(sector, "x"), api.ErrDown)
			refuses(t, "Write of a long string", d.Write(sector, strings.Repeat("x", api.Sector+1)), api.ErrDown)
		}
		refuses(t, "Sync", d.Sync(), api.ErrDown)
		if !d.Down() || d.Size() != 2 || d.Writes() != 1 {
			t.Errorf("down %t, %d sectors, %d writes", d.Down(), d.Size(), d.Writes())
		}
	}
	// The refused writes are not in the cache, the refused Sync made nothing durable, the fuse is gone.
	d.Crash([]int{0, 1, 1, 1}, -1, 0)
	holds(t, d, "", "")
	if d.Down() {
		t.Error("down after the crash")
	}
	for range 10 {
		write(t, d, 1, "c")
	}
}

// P4.1: Sync makes all writes durable, in their order, and empties the cache.
func TestSync(t *testing.T) {
	d := newDisk(t, 3)
	sync(t, d)
	for _, s := range []string{"a", "b", "cd"} {
		write(t, d, 0, s)
	}
	write(t, d, 1, "e")
	sync(t, d)
	d.Crash(nil, -1, 0)
	holds(t, d, "cd", "e", "")
	// What is synced has no number any more: the crash reaches nothing of it, and the next write is the one numbered 0.
	write(t, d, 0, "f")
	write(t, d, 1, "g")
	sync(t, d)
	d.Crash([]int{0, 0, 0}, 0, 1)
	holds(t, d, "f", "g", "")
	write(t, d, 0, "old")
	sync(t, d)
	write(t, d, 2, "h")
	write(t, d, 2, "i")
	d.Crash([]int{1, 0}, -1, 0)
	holds(t, d, "old", "g", "h")
}

// P4.2: the fuse lets so many writes through, and the power fails at the next one.
func TestFuse(t *testing.T) {
	for n := range 6 {
		d := newDisk(t, 2)
		d.Fuse(n)
		for range n {
			write(t, d, 0, "a")
			if d.Down() {
				t.Fatalf("Fuse(%d): down too early", n)
			}
		}
		// Only a write finds out that the fuse has burnt down.
		sync(t, d)
		holds(t, d, "a"[:min(n, 1)], "")
		refuses(t, "Write to no sector", d.Write(2, "b"), api.ErrArg)
		refuses(t, "Write of a long string", d.Write(0, strings.Repeat("x", api.Sector+1)), api.ErrLong)
		if d.Down() || d.Writes() != n {
			t.Fatalf("Fuse(%d): down %t, %d writes", n, d.Down(), d.Writes())
		}
		refuses(t, "the write behind the fuse", d.Write(1, "b"), api.ErrDown)
		if !d.Down() || d.Writes() != n {
			t.Errorf("Fuse(%d): down %t, %d writes", n, d.Down(), d.Writes())
		}
		d.Crash([]int{1, 1, 1, 1, 1, 1}, -1, 0)
		holds(t, d, "a"[:min(n, 1)], "")
	}
}

// P4.2: a fuse is set anew from the number given, and unset by a negative one.
func TestFuseAnew(t *testing.T) {
	d := newDisk(t, 1)
	for _, n := range []int{-1, -2, math.MinInt, 1000, 1 << 32, math.MaxInt} {
		d.Fuse(0)
		d.Fuse(n)
		for range 5 {
			write(t, d, 0, "a")
		}
	}
	d.Fuse(1)
	write(t, d, 0, "b")
	d.Fuse(2)
	write(t, d, 0, "c")
	write(t, d, 0, "d")
	refuses(t, "the write behind the fuse", d.Write(0, "e"), api.ErrDown)
	if d.Writes() != 33 {
		t.Errorf("%d writes", d.Writes())
	}
}

// P4.2: a fuse is gone behind a crash, also one that was set without power, or had not burnt down.
func TestFuseGone(t *testing.T) {
	for _, n := range []int{0, 1, 2, 3} {
		d := newDisk(t, 1)
		d.Fuse(n)
		d.Crash(nil, -1, 0)
		for range 5 {
			write(t, d, 0, "a")
		}
		d.Fuse(0)
		refuses(t, "the write that the power fails at", d.Write(0, "b"), api.ErrDown)
		d.Fuse(n)
		d.Crash(nil, -1, 0)
		for range 5 {
			write(t, d, 0, "c")
		}
		if d.Writes() != 10 {
			t.Errorf("%d writes", d.Writes())
		}
	}
}

// P4.2: Writes counts the writes that were made, and neither a crash nor a Sync takes one away, lost or not.
func TestWrites(t *testing.T) {
	d := newDisk(t, 2)
	for i := range 7 {
		if d.Writes() != i {
			t.Errorf("%d writes; want %d", d.Writes(), i)
		}
		write(t, d, i%2, "a")
		switch i % 3 {
		case 0:
			sync(t, d)
		case 1:
			d.Crash(nil, 0, 1)
		}
	}
	d.Crash(nil, -1, 0)
	if d.Writes() != 7 {
		t.Errorf("%d writes; want 7", d.Writes())
	}
}

// P4.3: the writes at the odd elements become durable, in their order, and the others are lost.
func TestCrashKeeps(t *testing.T) {
	for _, c := range []struct {
		keeps []int
		want  []string
	}{
		{nil, []string{"old", "", ""}},
		{[]int{}, []string{"old", "", ""}},
		{[]int{0, 0, 0, 0, 0}, []string{"old", "", ""}},
		{[]int{1}, []string{"a", "", ""}},
		{[]int{0, 1}, []string{"old", "b", ""}},
		{[]int{0, 0, 1}, []string{"c", "", ""}},
		{[]int{1, 0, 1}, []string{"c", "", ""}},
		{[]int{1, 0, 0, 1}, []string{"a", "", "d"}},
		{[]int{1, 1, 1, 1, 0}, []string{"c", "b", "d"}},
		{[]int{1, 1, 1, 1, 1}, []string{"c", "", "d"}},
		{[]int{0, 1, 0, 0, 1}, []string{"old", "", ""}},
		{[]int{1, 1, 1, 1, 1, 1, 1, 1, 1}, []string{"c", "", "d"}},
		{[]int{0, 0, 0, 0, 0, 1, 1}, []string{"old", "", ""}},
		{[]int{-1, 3, 2, -3}, []string{"a", "b", "d"}},
		{[]int{-2, 2, 4, -4}, []string{"old", "", ""}},
		{[]int{math.MaxInt, math.MinInt, math.MinInt, math.MinInt + 1}, []string{"a", "", "d"}},
		{[]int{math.MinInt, 1 << 32, 1<<32 + 1, -1 << 32}, []string{"c", "", ""}},
	} {
		d := newDisk(t, 3)
		write(t, d, 0, "old")
		sync(t, d)
		for i, s := range []string{"a", "b", "c", "d", ""} {
			write(t, d, []int{0, 1, 0, 2, 1}[i], s)
		}
		keeps := slices.Clone(c.keeps)
		d.Crash(keeps, -1, api.Sector)
		holds(t, d, c.want...)
		if !slices.Equal(keeps, c.keeps) {
			t.Errorf("Crash changed keeps: %d; was %d", keeps, c.keeps)
		}
	}
}

// P4.3: of the torn write the first bytes become durable, with the zero bytes that were written, and the rest of the sector stays.
func TestCrashTorn(t *testing.T) {
	old := strings.Repeat("0123456789ABCDEF", api.Sector/16)
	for _, s := range []string{"", "wxyz", strings.Repeat("z", api.Sector-1), strings.Repeat("w", api.Sector)} {
		sizes := []int{math.MinInt, -1 << 32, api.Sector + 1, 1 << 32, 1<<32 + 5, math.MaxInt}
		for size := -3; size <= api.Sector+3; size++ {
			sizes = append(sizes, size)
		}
		for _, size := range sizes {
			d := newDisk(t, 2)
			write(t, d, 0, old)
			sync(t, d)
			write(t, d, 0, s)
			d.Crash(nil, 0, size)
			cut := min(max(size, 0), api.Sector)
			holds(t, d, padded(s)[:cut]+old[cut:], "")
		}
	}
}

// P4.3: which write is torn, and that it is torn whatever keeps says; a torn write that there is none of.
func TestCrashWhichTorn(t *testing.T) {
	for _, c := range []struct {
		keeps []int
		torn  int
		want  []string
	}{
		{nil, 0, []string{"aAold", "old1"}},
		{nil, 1, []string{"old0", "bBold"}},
		{nil, 2, []string{"cCold", "old1"}},
		// A torn write lies over what was kept ahead of it, and under what is kept behind it.
		{[]int{1}, 2, []string{"cCaaa", "old1"}},
		{[]int{1, 1, 1}, 2, []string{"cCaaa", "bBbbb"}},
		{[]int{0, 0, 1}, 0, []string{"cCccc", "old1"}},
		{[]int{1, 1, 1}, 0, []string{"cCccc", "bBbbb"}},
		{[]int{1, 1, 1}, 1, []string{"cCccc", "bBold"}},
		{[]int{0, 1, 0}, 1, []string{"old0", "bBold"}},
		{[]int{1, 1}, 3, []string{"aAaaa", "bBbbb"}},
		{[]int{1, 1}, -1, []string{"aAaaa", "bBbbb"}},
		{[]int{0, 1}, math.MinInt, []string{"old0", "bBbbb"}},
		{[]int{0, 1}, math.MaxInt, []string{"old0", "bBbbb"}},
		{nil, 1 << 32, []string{"old0", "old1"}},
		{nil, 1<<32 + 1, []string{"old0", "old1"}},
	} {
		d := newDisk(t, 2)
		write(t, d, 0, "--old")
		write(t, d, 1, "--old")
		sync(t, d)
		for i, s := range []string{"aAaaa", "bBbbb", "cCccc"} {
			write(t, d, i%2, s)
		}
		d.Crash(c.keeps, c.torn, 2)
		for i, want := range c.want {
			if strings.HasPrefix(want, "old") {
				want = "--old"
			}
			if got, err := d.Read(i); got != padded(want) || err != nil {
				t.Errorf("Crash(%d, %d, 2): Read(%d) = %q, %v; want %q", c.keeps, c.torn, i, got, err, want)
			}
		}
	}
}

// P4.3: behind a crash the cache is empty: what was lost does not come back, and the next write is the one numbered 0.
func TestCrashEmptiesCache(t *testing.T) {
	d := newDisk(t, 2)
	write(t, d, 0, "lost")
	write(t, d, 1, "lost, too")
	d.Crash(nil, -1, 0)
	holds(t, d, "", "")
	sync(t, d)
	d.Crash([]int{1, 1, 1}, 0, 4)
	holds(t, d, "", "")
	write(t, d, 1, "kept")
	write(t, d, 0, "lost")
	d.Crash([]int{1}, -1, 0)
	holds(t, d, "", "kept")
	// What a crash has kept is durable.
	d.Crash(nil, 0, api.Sector)
	holds(t, d, "", "kept")
}

// P4.3: a crash on a disk whose power is on, and on a new one, is one like any other.
func TestCrashWithPower(t *testing.T) {
	d := newDisk(t, 1)
	d.Crash([]int{1}, 0, 3)
	holds(t, d, "")
	write(t, d, 0, "abc")
	d.Crash([]int{1}, 0, 2)
	holds(t, d, "ab")
	if d.Down() {
		t.Error("down after the crash")
	}
}

// P3: keeps is not retained: changed between two crashes, it changes neither; and strings read stay what they were.
func TestMemory(t *testing.T) {
	keeps := []int{1, 0}
	d := newDisk(t, 2)
	write(t, d, 0, "a")
	write(t, d, 1, "b")
	d.Crash(keeps, -1, 0)
	one, _ := d.Read(0)
	keeps[0], keeps[1] = 0, 1
	holds(t, d, "a", "")
	write(t, d, 0, "c")
	if one != padded("a") {
		t.Errorf("a string that was read became %q", one)
	}
	d.Crash(nil, -1, 0)
	holds(t, d, "a", "")
}

// P4: two disks do not know of each other.
func TestTwoDisks(t *testing.T) {
	one, two := newDisk(t, 2), newDisk(t, 2)
	write(t, one, 0, "a")
	one.Fuse(0)
	refuses(t, "the write that the power fails at", one.Write(1, "b"), api.ErrDown)
	holds(t, two, "", "")
	if two.Down() || two.Writes() != 0 {
		t.Errorf("down %t, %d writes", two.Down(), two.Writes())
	}
	write(t, two, 1, "c")
	two.Crash([]int{1}, -1, 0)
	if !one.Down() {
		t.Error("another disk's crash brought the power back")
	}
	one.Crash([]int{1}, -1, 0)
	holds(t, one, "a", "")
	holds(t, two, "", "c")
}
