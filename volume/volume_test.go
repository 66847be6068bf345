package volume_test

import (
	"errors"
	"math"
	"reflect"
	"slices"
	"strings"
	"testing"

	"palinode/api"
	"palinode/disk"
	"palinode/root"
	"palinode/volume"
)

// slotSize is how many sectors a slot has.
const slotSize = 9

// beyond are numbers that are no file, no sector and no size of one.
var beyond = []int{math.MinInt, math.MinInt + 1, -1 << 32, -api.MaxSectors, -2, -1, api.MaxSectors, 1 << 32, 1<<32 + 1, api.MaxNumber, api.MaxNumber + 1, math.MaxInt - 1, math.MaxInt}

// newDisk is a new disk that must be had.
func newDisk(t *testing.T, sectors int) *disk.Disk {
	t.Helper()
	d, err := disk.New(sectors)
	if err != nil {
		t.Fatalf("New(%d): %v", sectors, err)
	}
	return d
}

// format is a new volume that must be had, on a disk that was formatted.
func format(t *testing.T, d *disk.Disk) *volume.Volume {
	t.Helper()
	v, err := volume.Format(d)
	if err != nil || v == nil {
		t.Fatalf("Format: %v, %v", v, err)
	}
	return v
}

// open is the volume on a disk, which must be had.
func open(t *testing.T, d *disk.Disk) *volume.Volume {
	t.Helper()
	v, err := volume.Open(d)
	if err != nil || v == nil {
		t.Fatalf("Open: %v, %v", v, err)
	}
	return v
}

// fine checks that a call had no error.
func fine(t *testing.T, name string, err error) {
	t.Helper()
	if err != nil {
		t.Fatalf("%s: %v", name, err)
	}
}

// makes makes a file that must be had, and checks its ID.
func makes(t *testing.T, v *volume.Volume, many, id int) {
	t.Helper()
	if got, err := v.Make(many); got != id || err != nil {
		t.Fatalf("Make(%d) = %d, %v; want %d", many, got, err, id)
	}
}

// fault is a call's error as the volume's own, which must be one.
func fault(t *testing.T, name string, err error, code api.Errno) *api.Fault {
	t.Helper()
	f, ok := err.(*api.Fault)
	if !ok || f.Layer != 7 || f.Code != code || !errors.Is(err, code) {
		t.Fatalf("%s: %v; want error %d of layer 7", name, err, code)
	}
	return f
}

// refuses checks an error that comes from nothing below.
func refuses(t *testing.T, name string, err error, code api.Errno) {
	t.Helper()
	if f := fault(t, name, err, code); f.Inner != nil {
		t.Fatalf("%s: %v; want nothing within", name, err)
	}
}

// wraps checks an error that comes from the disk.
func wraps(t *testing.T, name string, err error, code api.Errno) {
	t.Helper()
	var inner api.Errno
	if f := fault(t, name, err, code); f.Inner != code || !errors.As(err, &inner) || inner != code {
		t.Fatalf("%s: %v; want the disk's error %d within", name, err, code)
	}
}

// same tells whether two roots are the same, be an empty list nil or not.
func same(a, b api.Root) bool {
	return a.Seq == b.Seq && a.Next == b.Next && a.Current == b.Current && slices.Equal(a.Files, b.Files)
}

// has checks a volume's root, and that it is alive.
func has(t *testing.T, v *volume.Volume, want api.Root) {
	t.Helper()
	if got := v.Root(); !same(got, want) || v.Dead() {
		t.Fatalf("Root() = %v, dead %t; want %v", got, v.Dead(), want)
	}
}

// keeps checks that a volume, and what is durable on its disk, has this root.
func keeps(t *testing.T, v *volume.Volume, d *disk.Disk, want api.Root) {
	t.Helper()
	has(t, v, want)
	d.Crash(nil, -1, 0)
	has(t, open(t, d), want)
}

// files is a list of files, written as the ID, the first sector and how many, three numbers a file.
func files(threes ...int) []api.File {
	var l []api.File
	for i := 0; i+2 < len(threes); i += 3 {
		l = append(l, api.File{ID: threes[i], At: threes[i+1], Many: threes[i+2]})
	}
	return l
}

// padded is s as a sector's bytes.
func padded(s string) string { return s + strings.Repeat("\x00", api.Sector-len(s)) }

// writeTo writes to a disk what must be taken.
func writeTo(t *testing.T, d *disk.Disk, sector int, s string) {
	t.Helper()
	fine(t, "Write to the disk", d.Write(sector, s))
}

// fill gives each sector of a disk bytes of its own, durably.
func fill(t *testing.T, d *disk.Disk) {
	t.Helper()
	for sector := range d.Size() {
		writeTo(t, d, sector, strings.Repeat(string([]byte{byte(sector), byte(sector >> 8), 0xee, 0xff}), api.Sector/4))
	}
	fine(t, "Sync of the disk", d.Sync())
}

// all is the bytes of all sectors.
func all(t *testing.T, d *disk.Disk) []string {
	t.Helper()
	l := make([]string, d.Size())
	for sector := range l {
		s, err := d.Read(sector)
		fine(t, "Read of the disk", err)
		l[sector] = s
	}
	return l
}

// changed is the sectors at which a disk is no longer as it was.
func changed(t *testing.T, d *disk.Disk, was []string) []int {
	t.Helper()
	var l []int
	for sector, s := range all(t, d) {
		if s != was[sector] {
			l = append(l, sector)
		}
	}
	return l
}

// encoded is a root's bytes and its header.
func encoded(t *testing.T, total int, r api.Root) (b, head string) {
	t.Helper()
	b, err := root.Encode(total, r)
	fine(t, "Encode", err)
	head, err = root.Head(r.Seq, len(b))
	fine(t, "Head", err)
	return b, head
}

// lay writes a header and bytes into a slot, durably.
func lay(t *testing.T, d *disk.Disk, slot int, head, b string) {
	t.Helper()
	writeTo(t, d, slot*slotSize, head)
	for i := 1; b != ""; i++ {
		n := min(len(b), api.Sector)
		writeTo(t, d, slot*slotSize+i, b[:n])
		b = b[n:]
	}
	fine(t, "Sync of the disk", d.Sync())
}

// laid is a volume that was opened on a new disk with this root.
func laid(t *testing.T, total int, r api.Root) (*disk.Disk, *volume.Volume) {
	t.Helper()
	d := newDisk(t, total)
	b, head := encoded(t, total, r)
	lay(t, d, r.Seq%2, head, b)
	v := open(t, d)
	has(t, v, r)
	return d, v
}

// P7.1: what a new volume is, and what of it is on the disk, durably, byte by byte; all other sectors stay as they were.
func TestFormat(t *testing.T) {
	for _, total := range []int{18, 19, 30, api.MaxSectors} {
		d := newDisk(t, total)
		fill(t, d)
		was := all(t, d)
		writes := d.Writes()
		v := format(t, d)
		has(t, v, api.Root{Seq: 1, Next: 1})
		if d.Writes() != writes+4 {
			t.Errorf("%d writes; want 4", d.Writes()-writes)
		}
		d.Crash(nil, -1, 0)
		was[0] = padded("")
		was[9] = "PL\x00\x00\x00\x00\x00\x00\x01\x00\x06" + strings.Repeat("\x00", 45) + "\x00\x00\x00\x00\x00\x00\x01E"
		was[10] = padded("\x01\x01\x01\x01\x00\x00")
		if l := changed(t, d, was); l != nil {
			t.Errorf("Format on %d sectors: sectors %d are not as they should be", total, l)
		}
		has(t, open(t, d), api.Root{Seq: 1, Next: 1})
	}
}

// P7.1: a volume needs 18 sectors; a smaller disk is left alone, and is told ahead of a lack of power.
func TestSmallDisk(t *testing.T) {
	for total := 1; total < 18; total++ {
		d := newDisk(t, total)
		fill(t, d)
		was, writes := all(t, d), d.Writes()
		for range 2 {
			v, err := volume.Format(d)
			refuses(t, "Format on a small disk", err, api.ErrArg)
			w, err := volume.Open(d)
			refuses(t, "Open of a small disk", err, api.ErrArg)
			if v != nil || w != nil || d.Writes() != writes {
				t.Errorf("Format, Open on %d sectors: %v, %v, %d writes", total, v, w, d.Writes()-writes)
			}
			d.Fuse(0)
			d.Write(0, "")
		}
		d.Crash(nil, -1, 0)
		if l := changed(t, d, was); l != nil {
			t.Errorf("sectors %d have changed", l)
		}
	}
}

// P7.1: the slots are emptied and synced ahead of the root, whose header is written when its bytes are durable.
func TestFormatOrder(t *testing.T) {
	for fuse := range 5 {
		for _, keep := range []int{0, 1} {
			d := newDisk(t, 20)
			fill(t, d)
			was := all(t, d)
			d.Fuse(fuse)
			v, err := volume.Format(d)
			if fuse < 4 {
				wraps(t, "Format without power", err, api.ErrDown)
				if v != nil {
					t.Errorf("Format without power: %v", v)
				}
			}
			d.Crash([]int{keep, keep, keep, keep}, -1, 0)
			// By the fuse: which sectors have changed if the writes that are not synced are lost, and if they are kept.
			want := [][]string{{"", "", "0 9 ", "0 9 10 ", "0 9 10 "}, {"", "0 ", "0 9 ", "0 9 10 ", "0 9 10 "}}
			if got := listed(changed(t, d, was)); got != want[keep][fuse] {
				t.Errorf("Format, fuse %d, keep %d: sectors %s have changed; want %s", fuse, keep, got, want[keep][fuse])
			}
			if _, err := volume.Open(d); (err == nil) != (fuse == 4) {
				t.Errorf("Format, fuse %d, keep %d: Open: %v", fuse, keep, err)
			}
		}
	}
}

// listed is numbers as a text.
func listed(l []int) string {
	var s strings.Builder
	for _, n := range l {
		if n >= 10 {
			s.WriteByte(byte('0' + n/10))
		}
		s.WriteByte(byte('0' + n%10))
		s.WriteByte(' ')
	}
	return s.String()
}

// P7.1: without power there is neither formatting nor opening.
func TestNoPower(t *testing.T) {
	d := newDisk(t, 30)
	v := format(t, d)
	makes(t, v, 2, 1)
	want := v.Root()
	d.Fuse(0)
	d.Write(0, "x")
	for range 2 {
		v, err := volume.Format(d)
		wraps(t, "Format without power", err, api.ErrDown)
		w, err := volume.Open(d)
		wraps(t, "Open without power", err, api.ErrDown)
		if v != nil || w != nil {
			t.Errorf("Format, Open without power: %v, %v", v, w)
		}
	}
	d.Crash(nil, -1, 0)
	has(t, open(t, d), want)
}

// P7.1: a volume that is formatted anew has nothing of the old one, however many changes that had.
func TestFormatAnew(t *testing.T) {
	for changes := range 5 {
		d := newDisk(t, 40)
		v := format(t, d)
		for i := range changes {
			makes(t, v, 1, i+1)
		}
		v = format(t, d)
		keeps(t, v, d, api.Root{Seq: 1, Next: 1})
		makes(t, v, 3, 1)
		keeps(t, v, d, api.Root{Seq: 2, Next: 2, Files: files(1, 18, 3)})
	}
}

// P7.1: a disk that no volume was made on has none.
func TestOpenNone(t *testing.T) {
	none := func(d *disk.Disk) {
		t.Helper()
		was, writes := all(t, d), d.Writes()
		v, err := volume.Open(d)
		refuses(t, "Open", err, api.ErrNone)
		if v != nil || d.Writes() != writes || changed(t, d, was) != nil {
			t.Errorf("Open: %v, %d writes", v, d.Writes()-writes)
		}
	}
	for _, total := range []int{18, 30, api.MaxSectors} {
		d := newDisk(t, total)
		none(d)
		fill(t, d)
		none(d)
	}
	d := newDisk(t, 30)
	format(t, d)
	writeTo(t, d, 9, "")
	none(d)
}

// P7.1: Open takes the valid slot, or of two the one with the greater Seq, whichever of them that is.
func TestOpenGreater(t *testing.T) {
	for _, seqs := range [][2]int{
		{0, 1}, {0, 2}, {1, 0}, {2, 0}, {2, 1}, {1, 2}, {2, 3}, {4, 3}, {6, 1}, {1, 6}, {5, 300}, {300, 5}, {256, 255}, {255, 256}, {7, 9}, {9, 7},
		{api.MaxNumber, api.MaxNumber - 1}, {api.MaxNumber - 1, api.MaxNumber}, {api.MaxNumber, 1}, {1, api.MaxNumber}, {0, api.MaxNumber}, {api.MaxNumber, 0},
	} {
		d := newDisk(t, 30)
		var want api.Root
		for slot, seq := range seqs {
			if seq > 0 {
				r := api.Root{Seq: seq, Next: 5, Current: 2 + slot, Files: files(2+slot, 20-slot, 2, 4, 25, 4+slot)}
				b, head := encoded(t, 30, r)
				lay(t, d, slot, head, b)
				if seq > want.Seq {
					want = r
				}
			}
		}
		writes := d.Writes()
		v := open(t, d)
		has(t, v, want)
		if d.Writes() != writes {
			t.Errorf("Open made %d writes", d.Writes()-writes)
		}
	}
}

// P7.1: slots that are almost valid are not, and then the other one counts.
func TestOpenBroken(t *testing.T) {
	r := api.Root{Seq: 8, Next: 3, Current: 2, Files: files(1, 20, 4, 2, 18, 1)}
	b, head := encoded(t, 30, r)
	header := func(seq, size int) string {
		s, err := root.Head(seq, size)
		fine(t, "Head", err)
		return s
	}
	wide, wideHead := encoded(t, 31, api.Root{Seq: 8, Next: 2, Files: files(1, 30, 1)})
	for name, c := range map[string][2]string{
		"no header":             {"", b},
		"a torn header":         {head[:56], b},
		"another letter":        {"Q" + head[1:], b},
		"a greater header":      {header(9, len(b)), b},
		"a lesser header":       {header(7, len(b)), b},
		"a byte less":           {header(8, len(b)-1), b},
		"a byte more":           {header(8, len(b)+1), b},
		"a sector more":         {header(8, len(b)+64), b},
		"no bytes":              {header(8, 0), b},
		"all bytes":             {header(8, 512), b},
		"another Seq":           {head, "\x01\x09" + b[2:]},
		"a bad number":          {head, "\x08" + b[1:]},
		"zero bytes":            {head, strings.Repeat("\x00", len(b))},
		"a file of no disk":     {wideHead, wide},
		"a file in the slots":   {head, strings.Replace(b, "\x01\x12\x01\x01", "\x01\x11\x01\x01", 1)},
		"Current without files": {header(8, 8), "\x01\x08\x01\x03\x01\x02\x00"},
	} {
		for slot := range 2 {
			d := newDisk(t, 30)
			lay(t, d, slot, c[0], c[1])
			_, err := volume.Open(d)
			refuses(t, name, err, api.ErrNone)
			other := api.Root{Seq: 1, Next: 7}
			ob, ohead := encoded(t, 30, other)
			lay(t, d, 1-slot, ohead, ob)
			has(t, open(t, d), other)
			lay(t, d, slot, head, b)
			has(t, open(t, d), r)
		}
	}
	// The longest bytes that a header tells of end with the smallest disk.
	d := newDisk(t, 18)
	lay(t, d, 1, header(7, 512), "\x01\x07\x01\x01\x00\x00")
	_, err := volume.Open(d)
	refuses(t, "all bytes up to the end of the disk", err, api.ErrNone)
	d = newDisk(t, 31)
	lay(t, d, 0, wideHead, wide)
	if l := open(t, d).Root().Files; !slices.Equal(l, files(1, 30, 1)) {
		t.Errorf("on 31 sectors: %v", l)
	}
}

// many is a root of so many files of a sector each, with numbers as long as they may be.
func many(n int) api.Root {
	r := api.Root{Seq: 1 << 52, Next: api.MaxNumber - 1}
	for i := range n {
		r.Files = append(r.Files, api.File{ID: 1<<52 + i, At: 300 + 2*i, Many: 1})
	}
	return r
}

// P7.1, P7.2: roots of all lengths, up to the longest, are stored in as few sectors as they need, and read from them; the sectors behind stay.
func TestLongRoots(t *testing.T) {
	most := 0
	for n := range api.MaxFiles {
		d, v := laid(t, 400, many(n))
		want := v.Root()
		for turn := range 4 { // both slots twice
			was := all(t, d)
			want.Seq++
			var err error
			if turn == 0 {
				want.Files = append(want.Files, api.File{ID: want.Next, At: 18, Many: 281})
				want.Next++
				_, err = v.Make(281)
			} else {
				want.Current = want.Files[turn%len(want.Files)].ID
				err = v.Point(want.Current)
			}
			fine(t, "Make or Point", err)
			b, head := encoded(t, 400, want)
			most = max(most, len(b))
			slot := want.Seq % 2 * slotSize
			was[slot] = head
			for i := 0; i < len(b); i += api.Sector {
				was[slot+1+i/api.Sector] = padded(b[i:min(i+api.Sector, len(b))])
			}
			d.Crash(nil, -1, 0)
			if l := changed(t, d, was); l != nil {
				t.Errorf("%d files: sectors %d are not as they should be", n, l)
			}
			has(t, v, want)
			has(t, open(t, d), want)
		}
	}
	if most <= 5*api.Sector {
		t.Errorf("the longest root has %d bytes: too few", most)
	}
}

// P7.2: each change of the root is stored in the slot of its Seq, the bytes synced ahead of the header, which is synced, too; so many writes are made, and no more.
func TestStoreOrder(t *testing.T) {
	for n := 1; n < api.MaxFiles; n += 2 {
		r := many(n)
		for _, call := range []func(v *volume.Volume) error{
			func(v *volume.Volume) error { _, err := v.Make(1); return err },
			func(v *volume.Volume) error { return v.Drop([]int{r.Files[0].ID}) },
			func(v *volume.Volume) error { return v.Point(r.Files[0].ID) },
		} {
			for odd := range 2 {
				r.Seq = 1<<52 + odd
				d, v := laid(t, 400, r)
				writes := d.Writes()
				fine(t, "the call", call(v))
				b, head := encoded(t, 400, v.Root())
				size := (len(b) + api.Sector - 1) / api.Sector
				if d.Writes()-writes != size+1 || v.Root().Seq != r.Seq+1 {
					t.Fatalf("%d writes; want %d", d.Writes()-writes, size+1)
				}
				for fuse := range size + 1 {
					storeFails(t, r, call, fuse, size, []string{head, b})
				}
			}
		}
	}
}

// storeFails lets the power fail at a write of a call, and checks what has come to the disk.
func storeFails(t *testing.T, r api.Root, call func(v *volume.Volume) error, fuse, size int, want []string) {
	t.Helper()
	for _, keep := range []int{0, 1} {
		d, v := laid(t, 400, r)
		slot := (r.Seq + 1) % 2 * slotSize
		for i := range slotSize {
			writeTo(t, d, slot+i, strings.Repeat("z", api.Sector))
		}
		fine(t, "Sync of the disk", d.Sync())
		was := all(t, d)
		d.Fuse(fuse)
		wraps(t, "the call without power", call(v), api.ErrDown)
		d.Crash(slices.Repeat([]int{keep}, size+1), -1, 0)
		if keep == 1 || fuse == size {
			for i := range fuse {
				was[slot+1+i] = padded(want[1][i*api.Sector : min((i+1)*api.Sector, len(want[1]))])
			}
		}
		if l := changed(t, d, was); l != nil {
			t.Errorf("fuse %d of %d, keep %d: sectors %d are not as they should be", fuse, size, keep, l)
		}
		has(t, open(t, d), r)
	}
}

// P7.1: Open leaves the cache alone.
func TestOpenKeepsCache(t *testing.T) {
	d := newDisk(t, 30)
	format(t, d)
	writeTo(t, d, 20, "x")
	open(t, d)
	d.Crash(nil, -1, 0)
	if s, _ := d.Read(20); s != padded("") {
		t.Errorf("Open synced a write: %q", s)
	}
}

// P7.2: files are made, one by one, where they fit first.
func TestMake(t *testing.T) {
	d := newDisk(t, 30)
	v := format(t, d)
	makes(t, v, 5, 1)
	_, err := v.Make(8)
	refuses(t, "Make of 8 of 7 sectors", err, api.ErrFull)
	makes(t, v, 3, 2)
	fine(t, "Drop", v.Drop([]int{1}))
	makes(t, v, 4, 3)
	keeps(t, v, d, api.Root{Seq: 5, Next: 4, Files: files(2, 23, 3, 3, 18, 4)})
	makes(t, v, 2, 4)
	makes(t, v, 1, 5)
	makes(t, v, 2, 6)
	keeps(t, v, d, api.Root{Seq: 8, Next: 7, Files: files(2, 23, 3, 3, 18, 4, 4, 26, 2, 5, 22, 1, 6, 28, 2)})
	_, err = v.Make(1)
	refuses(t, "Make on a full disk", err, api.ErrFull)
	fine(t, "Drop", v.Drop([]int{5, 2}))
	makes(t, v, 4, 7)
	keeps(t, v, d, api.Root{Seq: 10, Next: 8, Files: files(3, 18, 4, 4, 26, 2, 6, 28, 2, 7, 22, 4)})
}

// P7.2: what Make refuses, and that nothing has changed then; a file may have all sectors behind the slots.
func TestMakeRefuses(t *testing.T) {
	for _, total := range []int{18, 19, 30, api.MaxSectors} {
		d := newDisk(t, total)
		v := format(t, d)
		was, writes := all(t, d), d.Writes()
		for _, many := range append(beyond, 0, total-17, total) {
			want := api.ErrFull
			if many < 1 {
				want = api.ErrArg
			}
			id, err := v.Make(many)
			refuses(t, "Make", err, want)
			if id != 0 || d.Writes() != writes {
				t.Errorf("Make(%d) = %d, %d writes", many, id, d.Writes()-writes)
			}
		}
		if l := changed(t, d, was); l != nil {
			t.Errorf("sectors %d have changed", l)
		}
		want := api.Root{Seq: 1, Next: 1}
		keeps(t, v, d, want)
		if total > 18 {
			makes(t, v, total-18, 1)
			want = api.Root{Seq: 2, Next: 2, Files: files(1, 18, total-18)}
		}
		_, err := v.Make(1)
		refuses(t, "Make without room", err, api.ErrFull)
		_, err = v.Make(0)
		refuses(t, "Make of nothing without room", err, api.ErrArg)
		keeps(t, v, d, want)
	}
}

// P7.2: there are at most MaxFiles files, whatever room there is.
func TestMakeMaxFiles(t *testing.T) {
	d := newDisk(t, 100)
	v := format(t, d)
	want := api.Root{Seq: 1, Next: 1}
	for i := range api.MaxFiles {
		makes(t, v, 1+i%2, i+1)
		want.Seq++
		want.Next++
		want.Files = append(want.Files, api.File{ID: i + 1, At: 18 + i/2*3 + i%2, Many: 1 + i%2})
	}
	for _, many := range []int{1, 2, 30, 1000, math.MaxInt} {
		_, err := v.Make(many)
		refuses(t, "Make of a file too many", err, api.ErrFull)
	}
	for _, many := range []int{0, -1, math.MinInt} {
		_, err := v.Make(many)
		refuses(t, "Make of nothing", err, api.ErrArg)
	}
	keeps(t, v, d, want)
	fine(t, "Drop", v.Drop([]int{7}))
	makes(t, v, 2, 25)
	_, err := v.Make(1)
	refuses(t, "Make of a file too many", err, api.ErrFull)
	want = api.Root{Seq: 27, Next: 26, Files: append(slices.Delete(want.Files, 6, 7), api.File{ID: 25, At: 54, Many: 2})}
	keeps(t, v, d, want)
}

// P7.2: files are dropped together or not at all; the IDs that are none are told ahead of the current one.
func TestDrop(t *testing.T) {
	r := api.Root{Seq: 9, Next: 9, Current: 4, Files: files(2, 24, 1, 4, 18, 5, 5, 30, 2, 8, 25, 5)}
	d, v := laid(t, 40, r)
	was, writes := all(t, d), d.Writes()
	for _, ids := range [][]int{
		{0}, {1}, {3}, {6}, {7}, {9}, {10}, {-2}, {2, 0}, {2, 3}, {3, 2}, {2, 5, 8, 9}, {2, 2}, {2, 5, 2}, {8, 2, 5, 5}, {4, 4}, {4, 3}, {3, 4}, {4, 2, 2}, {2, 5, 4, 8, 1},
		{2 + 1<<32}, slices.Repeat([]int{2}, 1000), slices.Repeat([]int{4}, 1000),
	} {
		before := slices.Clone(ids)
		refuses(t, "Drop of what is not there", v.Drop(ids), api.ErrNone)
		if !slices.Equal(ids, before) {
			t.Errorf("%d became %d", before, ids)
		}
	}
	for _, id := range beyond {
		refuses(t, "Drop of no file", v.Drop([]int{id}), api.ErrNone)
		refuses(t, "Drop of a file and none", v.Drop([]int{2, id}), api.ErrNone)
		refuses(t, "Drop of none and the current file", v.Drop([]int{id, 4}), api.ErrNone)
	}
	for _, ids := range [][]int{{4}, {2, 4}, {4, 2}, {8, 4, 5}, {2, 4, 5, 8}} {
		refuses(t, "Drop of the current file", v.Drop(ids), api.ErrArg)
	}
	fine(t, "Drop of nothing", v.Drop(nil))
	fine(t, "Drop of nothing", v.Drop([]int{}))
	if l := changed(t, d, was); l != nil || d.Writes() != writes {
		t.Errorf("sectors %d have changed, %d writes", l, d.Writes()-writes)
	}
	keeps(t, v, d, r)
	fine(t, "Drop", v.Drop([]int{8, 2}))
	keeps(t, v, d, api.Root{Seq: 10, Next: 9, Current: 4, Files: files(4, 18, 5, 5, 30, 2)})
	refuses(t, "Drop of a dropped file", v.Drop([]int{2}), api.ErrNone)
	fine(t, "Drop", v.Drop([]int{5}))
	keeps(t, v, d, api.Root{Seq: 11, Next: 9, Current: 4, Files: files(4, 18, 5)})
}

// P7.2: every order in which some of the files are dropped leaves the others.
func TestDropEvery(t *testing.T) {
	r := api.Root{Seq: 4, Next: 30, Files: files(1, 40, 1, 7, 20, 3, 12, 18, 2, 29, 30, 10)}
	for _, ids := range [][]int{{1}, {7}, {12}, {29}, {1, 29}, {29, 1}, {12, 7}, {7, 12, 1}, {12, 29, 1, 7}, {29, 12, 7, 1}, {1, 7, 12, 29}} {
		want := api.Root{Seq: 5, Next: 30}
		for _, f := range r.Files {
			if !slices.Contains(ids, f.ID) {
				want.Files = append(want.Files, f)
			}
		}
		d, v := laid(t, 50, r)
		before := slices.Clone(ids)
		fine(t, "Drop", v.Drop(ids))
		keeps(t, v, d, want)
		if !slices.Equal(ids, before) {
			t.Errorf("%d became %d", before, ids)
		}
	}
}

// P7.2: the current file is any of the files, the same one again, too.
func TestPoint(t *testing.T) {
	d := newDisk(t, 30)
	v := format(t, d)
	for _, id := range append(beyond, 0, 1, 2) {
		refuses(t, "Point to no file", v.Point(id), api.ErrNone)
	}
	makes(t, v, 2, 1)
	makes(t, v, 2, 2)
	makes(t, v, 2, 3)
	fine(t, "Drop", v.Drop([]int{2}))
	want := v.Root()
	for _, id := range []int{3, 3, 1, 1, 3} {
		fine(t, "Point", v.Point(id))
		want.Seq++
		want.Current = id
		keeps(t, v, d, want)
		writes := d.Writes()
		for _, none := range append(beyond, 0, 2, 4, 18) {
			refuses(t, "Point to no file", v.Point(none), api.ErrNone)
		}
		if d.Writes() != writes {
			t.Errorf("%d writes", d.Writes()-writes)
		}
		keeps(t, v, d, want)
	}
	refuses(t, "Drop of the current file", v.Drop([]int{3}), api.ErrArg)
	fine(t, "Drop of another one", v.Drop([]int{1}))
}

// P7.2: when Seq is MaxNumber the root does not change any more; the other errors are told ahead of that.
func TestLastSeq(t *testing.T) {
	r := api.Root{Seq: api.MaxNumber - 1, Next: 7, Current: 2, Files: files(2, 20, 1, 6, 25, 5)}
	for _, call := range []func(v *volume.Volume) error{
		func(v *volume.Volume) error { _, err := v.Make(4); return err },
		func(v *volume.Volume) error { return v.Drop([]int{6}) },
		func(v *volume.Volume) error { return v.Point(6) },
	} {
		d, v := laid(t, 30, r)
		fine(t, "the last call", call(v))
		keeps(t, v, d, v.Root())
		if v.Root().Seq != api.MaxNumber {
			t.Errorf("Seq %d", v.Root().Seq)
		}
	}
	r.Seq++
	d, v := laid(t, 30, r)
	was, writes := all(t, d), d.Writes()
	id, err := v.Make(4)
	refuses(t, "Make", err, api.ErrLong)
	if id != 0 {
		t.Errorf("Make = %d", id)
	}
	_, err = v.Make(0)
	refuses(t, "Make of nothing", err, api.ErrArg)
	_, err = v.Make(5)
	refuses(t, "Make without room", err, api.ErrFull)
	refuses(t, "Drop", v.Drop([]int{6}), api.ErrLong)
	refuses(t, "Drop of no file", v.Drop([]int{3}), api.ErrNone)
	refuses(t, "Drop of the current file", v.Drop([]int{6, 2}), api.ErrArg)
	fine(t, "Drop of nothing", v.Drop(nil))
	refuses(t, "Point", v.Point(6), api.ErrLong)
	refuses(t, "Point to the current file", v.Point(2), api.ErrLong)
	refuses(t, "Point to no file", v.Point(3), api.ErrNone)
	if l := changed(t, d, was); l != nil || d.Writes() != writes {
		t.Errorf("sectors %d have changed, %d writes", l, d.Writes()-writes)
	}
	keeps(t, v, d, r)
	fine(t, "Write", v.Write(6, 0, "x"))
	fine(t, "Sync", v.Sync())
	keeps(t, v, d, r)
}

// P7.2: when Next is MaxNumber no file is made any more, but files are dropped and pointed to.
func TestLastID(t *testing.T) {
	d, v := laid(t, 60, api.Root{Seq: 5, Next: api.MaxNumber - 1, Files: files(2, 20, 1)})
	makes(t, v, 1, api.MaxNumber-1)
	want := api.Root{Seq: 6, Next: api.MaxNumber, Files: files(2, 20, 1, api.MaxNumber-1, 18, 1)}
	keeps(t, v, d, want)
	writes := d.Writes()
	id, err := v.Make(1)
	refuses(t, "Make", err, api.ErrLong)
	if id != 0 || d.Writes() != writes {
		t.Errorf("Make = %d, %d writes", id, d.Writes()-writes)
	}
	_, err = v.Make(0)
	refuses(t, "Make of nothing", err, api.ErrArg)
	_, err = v.Make(40)
	refuses(t, "Make without room", err, api.ErrFull)
	keeps(t, v, d, want)
	fine(t, "Point", v.Point(api.MaxNumber-1))
	fine(t, "Drop", v.Drop([]int{2}))
	keeps(t, v, d, api.Root{Seq: 8, Next: api.MaxNumber, Current: api.MaxNumber - 1, Files: files(api.MaxNumber-1, 18, 1)})

	full := many(api.MaxFiles)
	full.Next = api.MaxNumber
	_, v = laid(t, 400, full)
	_, err = v.Make(1)
	refuses(t, "Make of a file too many", err, api.ErrFull)
}

// P7.3: what is written to a file's sectors is read from them, and lies on the disk where the file does, and nowhere else.
func TestReadAndWrite(t *testing.T) {
	d, v := laid(t, 30, api.Root{Seq: 3, Next: 9, Files: files(2, 24, 6, 4, 18, 1, 8, 20, 4)})
	long := strings.Repeat("0123456789abcdef", api.Sector/16)
	for _, f := range v.Root().Files {
		for at := range f.Many {
			if s, err := v.Read(f.ID, at); s != padded("") || err != nil {
				t.Fatalf("Read(%d, %d) = %q, %v", f.ID, at, s, err)
			}
			for size := range api.Sector + 1 {
				was, writes := all(t, d), d.Writes()
				fine(t, "Write", v.Write(f.ID, at, long[:size]))
				was[f.At+at] = padded(long[:size])
				if s, err := v.Read(f.ID, at); s != was[f.At+at] || err != nil {
					t.Fatalf("Read(%d, %d) = %q, %v; want %q", f.ID, at, s, err, long[:size])
				}
				if l := changed(t, d, was); l != nil || d.Writes() != writes+1 {
					t.Fatalf("Write(%d, %d): sectors %d are not as they should be, %d writes", f.ID, at, l, d.Writes()-writes)
				}
			}
		}
	}
}

// P7.3: the errors of Read and Write, in their order, and that nothing has changed then.
func TestReadAndWriteRefuse(t *testing.T) {
	r := api.Root{Seq: 3, Next: 9, Current: 4, Files: files(2, 24, 6, 4, 18, 1, 8, 20, 4)}
	d, v := laid(t, 30, r)
	fill(t, d)
	was, writes := all(t, d), d.Writes()
	long := strings.Repeat("x", api.Sector+1)
	try := func(id, at int, want api.Errno) {
		t.Helper()
		s, err := v.Read(id, at)
		refuses(t, "Read", err, want)
		if s != "" {
			t.Errorf("Read(%d, %d) = %q", id, at, s)
		}
		refuses(t, "Write", v.Write(id, at, "x"), want)
		refuses(t, "Write of a long string", v.Write(id, at, long), want)
	}
	for _, id := range append(beyond, 0, 1, 3, 5, 7, 9, 18) {
		for _, at := range append(beyond, 0, 1, 3) {
			try(id, at, api.ErrNone)
		}
	}
	for _, f := range r.Files {
		for _, at := range append(beyond, f.Many, f.Many+1, -f.At, 30-f.At, math.MaxInt-f.At, math.MaxInt-f.At+1) {
			try(f.ID, at, api.ErrArg)
		}
		wraps(t, "Write of a long string", v.Write(f.ID, f.Many-1, long), api.ErrLong)
		wraps(t, "Write of a longer string", v.Write(f.ID, 0, strings.Repeat(long, 1000)), api.ErrLong)
	}
	if l := changed(t, d, was); l != nil || d.Writes() != writes {
		t.Errorf("sectors %d have changed, %d writes", l, d.Writes()-writes)
	}
	has(t, v, r)
}

// P7.3: a write outlasts a crash once it is synced, and is in the disk's cache until then.
func TestSync(t *testing.T) {
	d := newDisk(t, 30)
	v := format(t, d)
	makes(t, v, 3, 1)
	fine(t, "Sync of nothing", v.Sync())
	fine(t, "Write", v.Write(1, 0, "a"))
	fine(t, "Sync", v.Sync())
	fine(t, "Write", v.Write(1, 0, "b"))
	fine(t, "Write", v.Write(1, 1, "c"))
	fine(t, "Write", v.Write(1, 2, "d"))
	writes := d.Writes()
	d.Crash([]int{0, 0, 1}, -1, 0)
	for at, want := range []string{"a", "", "d"} {
		if s, err := v.Read(1, at); s != padded(want) || err != nil {
			t.Errorf("Read(1, %d) = %q, %v; want %q", at, s, err, want)
		}
	}
	fine(t, "Sync", v.Sync())
	if d.Writes() != writes {
		t.Errorf("Sync made %d writes", d.Writes()-writes)
	}
	has(t, v, api.Root{Seq: 2, Next: 2, Files: files(1, 18, 3)})
}

// P7.3: files keep their bytes when others come and go, and a new file has what was left on its sectors.
func TestFilesKeepBytes(t *testing.T) {
	d := newDisk(t, 40)
	v := format(t, d)
	makes(t, v, 4, 1)
	makes(t, v, 4, 2)
	makes(t, v, 4, 3)
	for id := 1; id <= 3; id++ {
		for at := range 4 {
			fine(t, "Write", v.Write(id, at, string([]byte{'a' + byte(id), 'a' + byte(at)})))
		}
	}
	fine(t, "Drop", v.Drop([]int{2}))
	makes(t, v, 6, 4)
	makes(t, v, 3, 5)
	d.Crash(nil, -1, 0)
	v = open(t, d)
	for at := range 4 {
		for id, letter := range map[int]byte{1: 'b', 3: 'd', 5: 'c'} {
			if s, _ := v.Read(id, at); s != padded(string([]byte{letter, 'a' + byte(at)})) && (id != 5 || at != 3) {
				t.Errorf("Read(%d, %d) = %q", id, at, s)
			}
		}
	}
	_, err := v.Read(2, 0)
	refuses(t, "Read of a dropped file", err, api.ErrNone)
	refuses(t, "Write of a dropped file", v.Write(2, 0, "x"), api.ErrNone)
}

// P3: a root that was handed out shares nothing with the volume, or with another one, up to its capacity.
func TestMemory(t *testing.T) {
	d, v := laid(t, 60, api.Root{Seq: 3, Next: 9, Current: 4, Files: files(2, 24, 6, 4, 18, 1, 8, 20, 4)})
	want := v.Root()
	scribble := func() {
		r := v.Root()
		r.Files = r.Files[:cap(r.Files)]
		for i := range r.Files {
			r.Files[i] = api.File{ID: -7, At: -7, Many: -7}
		}
	}
	check := func(change func() error) {
		t.Helper()
		scribble()
		before := v.Root()
		kept := slices.Clone(before.Files)
		has(t, v, want)
		fine(t, "the call", change())
		scribble()
		if !slices.Equal(before.Files, kept) {
			t.Errorf("%v became %v", kept, before.Files)
		}
		has(t, open(t, d), v.Root())
		want.Seq++
	}
	check(func() error { _, err := v.Make(3); return err })
	want.Next, want.Files = 10, append(want.Files, api.File{ID: 9, At: 30, Many: 3})
	check(func() error { _, err := v.Make(1); return err })
	want.Next, want.Files = 11, append(want.Files, api.File{ID: 10, At: 19, Many: 1})
	check(func() error { return v.Point(8) })
	want.Current = 8
	check(func() error { return v.Drop([]int{4, 2}) })
	want.Files = want.Files[2:]
	check(func() error { return v.Point(9) })
	want.Current = 9
	check(func() error { return v.Drop([]int{10, 8}) })
	want.Files = files(9, 30, 3)
	has(t, v, want)
	refuses(t, "Drop of a file and none", v.Drop([]int{9, 8}), api.ErrNone)
	has(t, v, want)
}

// P2: errors are values of their own.
func TestErrorsApart(t *testing.T) {
	d := newDisk(t, 30)
	v := format(t, d)
	for _, call := range []func() error{
		func() error { return v.Point(1) },
		func() error { _, err := v.Make(0); return err },
		func() error { _, err := volume.Open(newDisk(t, 20)); return err },
	} {
		one, two := call(), call()
		before := *one.(*api.Fault)
		*two.(*api.Fault) = api.Fault{}
		if three := call(); !reflect.DeepEqual(*one.(*api.Fault), before) || !reflect.DeepEqual(*three.(*api.Fault), before) {
			t.Errorf("%v became %v, %v", before, one, three)
		}
	}
}
