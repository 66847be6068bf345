package wal_test

import (
	"errors"
	"math"
	"reflect"
	"slices"
	"strings"
	"testing"

	"palinode/api"
	"palinode/disk"
	"palinode/volume"
	"palinode/wal"
)

// beyond are numbers that are no file.
var beyond = []int{math.MinInt, math.MinInt + 1, -1 << 32, -2, -1, 0, 1 << 32, 1<<32 + 1, api.MaxNumber, api.MaxNumber + 1, 1<<56 + 1, math.MaxInt - 1, math.MaxInt}

// fine checks that a call had no error.
func fine(t *testing.T, name string, err error) {
	t.Helper()
	if err != nil {
		t.Fatalf("%s: %v", name, err)
	}
}

// newVolume is a new volume with files of so many sectors, whose IDs are 1, 2 and so on, on a disk on which each sector of a file has bytes of its own, durably.
func newVolume(t *testing.T, sectors ...int) (*disk.Disk, *volume.Volume) {
	t.Helper()
	total := 18
	for _, many := range sectors {
		total += many
	}
	d, err := disk.New(total)
	fine(t, "New", err)
	v, err := volume.Format(d)
	fine(t, "Format", err)
	for i, many := range sectors {
		id, err := v.Make(many)
		fine(t, "Make", err)
		if id != i+1 {
			t.Fatalf("Make = %d", id)
		}
	}
	for sector := 18; sector < total; sector++ {
		fine(t, "Write to the disk", d.Write(sector, strings.Repeat(string([]byte{byte(sector), byte(sector >> 8), 0xee, 0xff}), api.Sector/4)))
	}
	fine(t, "Sync of the disk", d.Sync())
	return d, v
}

// lay is an empty log that must be had.
func lay(t *testing.T, v *volume.Volume, id int) *wal.Log {
	t.Helper()
	l, err := wal.Lay(v, id)
	if err != nil || l == nil {
		t.Fatalf("Lay: %v, %v", l, err)
	}
	return l
}

// reopen opens the volume on a disk.
func reopen(t *testing.T, d *disk.Disk) *volume.Volume {
	t.Helper()
	v, err := volume.Open(d)
	fine(t, "Open of the volume", err)
	return v
}

// open is the log in a file, which must be there and have these records.
func open(t *testing.T, v *volume.Volume, id int, want ...string) *wal.Log {
	t.Helper()
	s, l, err := wal.Open(v, id)
	if err != nil || l == nil || !slices.Equal(s, want) {
		t.Fatalf("Open: %q, %v, %v; want %q", s, l, err, want)
	}
	return l
}

// appends appends records that must be taken.
func appends(t *testing.T, l *wal.Log, records ...string) {
	t.Helper()
	for _, s := range records {
		fine(t, "Append", l.Append(s))
	}
}

// has checks how many records a log has, and how long the next one may be.
func has(t *testing.T, l *wal.Log, records, room int) {
	t.Helper()
	if l.Len() != records || l.Room() != room {
		t.Fatalf("Len() = %d, Room() = %d; want %d, %d", l.Len(), l.Room(), records, room)
	}
}

// fault is a call's error as the log's own, which must be one.
func fault(t *testing.T, name string, err error, code api.Errno) *api.Fault {
	t.Helper()
	f, ok := err.(*api.Fault)
	if !ok || f.Layer != 8 || f.Code != code || !errors.Is(err, code) {
		t.Fatalf("%s: %v; want error %d of layer 8", name, err, code)
	}
	return f
}

// full checks the error that comes from nothing below.
func full(t *testing.T, name string, err error) {
	t.Helper()
	if f := fault(t, name, err, api.ErrFull); f.Inner != nil {
		t.Fatalf("%s: %v; want nothing within", name, err)
	}
}

// wraps checks an error that comes from the volume; disk tells whether the volume has it from the disk.
func wraps(t *testing.T, name string, err error, code api.Errno, disk bool) {
	t.Helper()
	f := fault(t, name, err, code)
	inner, ok := f.Inner.(*api.Fault)
	if !ok || inner.Layer != 7 || inner.Code != code {
		t.Fatalf("%s: %v; want the volume's error %d within", name, err, code)
	}
	if disk != (inner.Inner == code) || !disk && inner.Inner != nil {
		t.Fatalf("%s: %v; the disk's error within: want %t", name, err, disk)
	}
}

// powerOff lets a disk's power fail without a volume.
func powerOff(t *testing.T, d *disk.Disk) {
	t.Helper()
	d.Fuse(0)
	if d.Write(0, "x") != api.ErrDown || !d.Down() {
		t.Fatal("the power is still on")
	}
}

// padded is s as a sector's bytes.
func padded(s string) string { return s + strings.Repeat("\x00", api.Sector-len(s)) }

// all is the bytes of all sectors.
func all(t *testing.T, d *disk.Disk) []string {
	t.Helper()
	l := make([]string, d.Size())
	for sector := range l {
		s, err := d.Read(sector)
		fine(t, "Read of the disk", err)
		l[sector] = s
	}
	return l
}

// same checks that a disk is as it should be, and how many writes were made.
func same(t *testing.T, name string, d *disk.Disk, want []string, writes int) {
	t.Helper()
	for sector, s := range all(t, d) {
		if s != want[sector] {
			t.Fatalf("%s: sector %d is %q; want %q", name, sector, s, want[sector])
		}
	}
	if d.Writes() != writes {
		t.Fatalf("%s: %d writes; want %d", name, d.Writes(), writes)
	}
}

// image is the sectors of records, one after the other, from the record with an index on.
func image(t *testing.T, id, index int, records ...string) []string {
	t.Helper()
	var l []string
	for _, s := range records {
		mark, err := wal.Mark(id, index, len(s))
		fine(t, "Mark", err)
		l = append(l, mark)
		for len(s) > api.Sector {
			l = append(l, s[:api.Sector])
			s = s[api.Sector:]
		}
		if s != "" {
			l = append(l, padded(s))
		}
		index++
	}
	return l
}

// text is a string of so many bytes that are not all the same.
func text(size int) string {
	b := make([]byte, size)
	for i := range b {
		b[i] = byte(i*7 + size)
	}
	return string(b)
}

// P8.2: an empty log is zero bytes, in all sectors of its file and in no others, durably.
func TestLay(t *testing.T) {
	for _, many := range []int{1, 2, 3, 17, 900} {
		d, v := newVolume(t, 2, many, 3)
		want, writes := all(t, d), d.Writes()
		l := lay(t, v, 2)
		has(t, l, 0, (many-1)*api.Sector)
		for i := range many {
			want[20+i] = padded("")
		}
		d.Crash(nil, -1, 0)
		same(t, "Lay", d, want, writes+many)
		has(t, open(t, reopen(t, d), 2), 0, (many-1)*api.Sector)
	}
}

// P8.2: Lay makes an empty log of one that has records, too.
func TestLayAnew(t *testing.T) {
	_, v := newVolume(t, 7)
	l := lay(t, v, 1)
	appends(t, l, "a", "", text(100))
	has(t, open(t, v, 1, "a", "", text(100)), 3, 0)
	l = lay(t, v, 1)
	has(t, l, 0, 6*api.Sector)
	has(t, open(t, v, 1), 0, 6*api.Sector)
	appends(t, l, "b")
	has(t, open(t, v, 1, "b"), 1, 4*api.Sector)
}

// kept is a disk's keeps: so many, all of them odd, or none.
func kept(keep bool, many int) []int {
	if !keep {
		return nil
	}
	return slices.Repeat([]int{1}, many)
}

// P8.2: Lay writes the sectors from the first one on, and syncs behind the last one only.
func TestLayOrder(t *testing.T) {
	const many = 5
	for fuse := range many + 1 {
		for _, keep := range []bool{false, true} {
			d, v := newVolume(t, many)
			want, writes := all(t, d), d.Writes()
			d.Fuse(fuse)
			l, err := wal.Lay(v, 1)
			if fuse < many {
				wraps(t, "Lay without power", err, api.ErrDown, true)
				if l != nil {
					t.Errorf("Lay without power: %v", l)
				}
			} else {
				fine(t, "Lay", err)
			}
			d.Crash(kept(keep, many), -1, 0)
			if keep || fuse == many {
				for i := range fuse {
					want[18+i] = padded("")
				}
			}
			same(t, "Lay", d, want, writes+fuse)
		}
	}
}

// P8.2: a record is a sector with its mark and as many with its bytes as these need, durably; all other sectors stay as they were, and no more writes are made than that takes.
func TestAppend(t *testing.T) {
	for size := range 200 {
		d, v := newVolume(t, 1, 9, 2)
		l := lay(t, v, 2)
		appends(t, l, "first")
		want, writes := all(t, d), d.Writes()
		appends(t, l, text(size))
		sectors := image(t, 2, 1, text(size))
		copy(want[19+2:], sectors)
		d.Crash(nil, -1, 0)
		same(t, "Append", d, want, writes+len(sectors))
		has(t, l, 2, (6-len(sectors))*api.Sector)
		open(t, reopen(t, d), 2, "first", text(size))
	}
}

// P8.2: the sectors of a record's bytes are written one after the other and synced ahead of its mark, which is synced, too. Those of an empty record are not there, and nothing is synced ahead of its mark.
func TestAppendOrder(t *testing.T) {
	for _, size := range []int{0, 1, 64, 65, 128, 300} {
		records := image(t, 1, 1, text(size))
		writes := len(records)
		for fuse := range writes + 1 {
			for _, keep := range []bool{false, true} {
				d, v := newVolume(t, 10)
				l := lay(t, v, 1)
				appends(t, l, "first")
				was := all(t, d)
				fine(t, "Write to the disk", d.Write(0, "unsynced"))
				d.Fuse(fuse)
				err := l.Append(text(size))
				if fuse < writes {
					wraps(t, "Append without power", err, api.ErrDown, true)
					has(t, l, 1, 7*api.Sector)
				} else {
					fine(t, "Append", err)
				}
				made := d.Writes()
				d.Crash(kept(keep, writes+1), -1, 0)
				// Which sectors of the record, in the order in which they are written, are there.
				for i := range fuse {
					if keep || fuse == writes || fuse == writes-1 {
						at := (i + 1) % writes
						was[18+2+at] = records[at]
					}
				}
				if keep || fuse == writes || fuse == writes-1 && size > 0 {
					was[0] = padded("unsynced")
				}
				same(t, "Append", d, was, made)
			}
		}
	}
}

// P8.2: a record that needs more sectors than are left is refused, and nothing changes; the longest one that fits is taken.
func TestAppendFull(t *testing.T) {
	for many := 1; many < 6; many++ {
		for used := range many {
			d, v := newVolume(t, many)
			l := lay(t, v, 1)
			appends(t, l, make([]string, used)...)
			room := (many - used - 1) * api.Sector
			has(t, l, used, room)
			want, writes := all(t, d), d.Writes()
			for _, size := range []int{room + 1, room + 2, room + 63, room + 64, room + 65, 1 << 20} {
				full(t, "Append of too much", l.Append(text(size)))
			}
			same(t, "Append of too much", d, want, writes)
			has(t, l, used, room)
			appends(t, l, text(room))
			has(t, l, used+1, -1)
			want, writes = all(t, d), d.Writes()
			for _, size := range []int{0, 1, 64, 65} {
				full(t, "Append to a full log", l.Append(text(size)))
			}
			same(t, "Append to a full log", d, want, writes)
			records := append(make([]string, used), text(room))
			has(t, open(t, v, 1, records...), used+1, -1)
		}
	}
}

// P8.2, P8.3: the chapter's examples.
func TestExamples(t *testing.T) {
	_, v := newVolume(t, 4)
	l := lay(t, v, 1)
	has(t, l, 0, 192)
	appends(t, l, "ab")
	full(t, "Append of 65 bytes", l.Append(text(65)))
	has(t, l, 1, 64)
	has(t, open(t, v, 1, "ab"), 1, 64)

	_, v = newVolume(t, 2)
	l = lay(t, v, 1)
	appends(t, l, "", "")
	full(t, "a third empty record", l.Append(""))
	has(t, open(t, v, 1, "", ""), 2, -1)
}

// P8.3: what was appended is read, whatever bytes it is of, and the log goes on behind it.
func TestOpen(t *testing.T) {
	mark, _ := wal.Mark(1, 1, 0)
	records := []string{"", "a", text(63), text(64), text(65), padded(""), padded("") + "\x00", text(500), "LG", mark, mark + mark, "x" + mark, "", "\xff\xfe"}
	_, v := newVolume(t, 60)
	l := lay(t, v, 1)
	room := 59 * api.Sector
	for i := range records {
		has(t, l, i, room)
		has(t, open(t, v, 1, records[:i]...), i, room)
		if i%2 == 1 {
			l = open(t, v, 1, records[:i]...)
		}
		appends(t, l, records[i])
		room -= len(image(t, 1, i, records[i])) * api.Sector
	}
	has(t, open(t, v, 1, records...), len(records), room)
}

// P8.3: a log with as many records as a disk can hold.
func TestManyRecords(t *testing.T) {
	const many = api.MaxSectors - 18
	_, v := newVolume(t, many)
	l := lay(t, v, 1)
	appends(t, l, make([]string, many-1)...)
	has(t, l, many-1, 0)
	full(t, "Append", l.Append("a"))
	l = open(t, v, 1, make([]string, many-1)...)
	has(t, l, many-1, 0)
	appends(t, l, "")
	has(t, open(t, v, 1, make([]string, many)...), many, -1)

	l = lay(t, v, 1)
	appends(t, l, text((many-1)*api.Sector))
	has(t, open(t, v, 1, text((many-1)*api.Sector)), 1, -1)
}

// P8.3: all sectors behind the records become zero bytes, durably, and no others; of a full file none, without a sync.
func TestOpenWipes(t *testing.T) {
	for many := 1; many < 7; many++ {
		for records := range many + 1 {
			d, v := newVolume(t, 2, many, 2)
			for i, s := range image(t, 2, 0, make([]string, records)...) {
				fine(t, "Write", v.Write(2, i, s))
			}
			fine(t, "Sync", v.Sync())
			want, writes := all(t, d), d.Writes()
			fine(t, "Write", v.Write(1, 1, "unsynced"))
			open(t, v, 2, make([]string, records)...)
			for i := records; i < many; i++ {
				want[20+i] = padded("")
			}
			if records < many {
				want[19] = padded("unsynced")
			}
			d.Crash(nil, -1, 0)
			same(t, "Open", d, want, writes+1+many-records)
		}
	}
}

// P8.3: Open writes the sectors behind the records from the first one on, and syncs behind the last one only.
func TestOpenOrder(t *testing.T) {
	const many, records = 6, 2
	for fuse := range many - records + 1 {
		for _, keep := range []bool{false, true} {
			d, v := newVolume(t, many)
			for i, s := range image(t, 1, 0, make([]string, records)...) {
				fine(t, "Write", v.Write(1, i, s))
			}
			fine(t, "Sync", v.Sync())
			want, writes := all(t, d), d.Writes()
			d.Fuse(fuse)
			s, l, err := wal.Open(v, 1)
			if fuse < many-records {
				wraps(t, "Open without power", err, api.ErrDown, true)
				if len(s) != 0 || l != nil {
					t.Errorf("Open without power: %q, %v", s, l)
				}
			} else {
				fine(t, "Open", err)
			}
			d.Crash(kept(keep, many), -1, 0)
			if keep || fuse == many-records {
				for i := range fuse {
					want[18+records+i] = padded("")
				}
			}
			same(t, "Open", d, want, writes+fuse)
		}
	}
}

// P8.3: the records end with the first sector that is not the mark of the next one, or whose size is not in the file.
func TestOpenEnds(t *testing.T) {
	mark := func(id, index, size int) string {
		s, err := wal.Mark(id, index, size)
		fine(t, "Mark", err)
		return s
	}
	const many = 8
	for name, c := range map[string]struct {
		sectors []string
		want    []string
	}{
		"nothing":              {[]string{"", mark(1, 0, 0)}, nil},
		"another file":         {[]string{mark(2, 0, 0), mark(1, 1, 0)}, nil},
		"another index":        {[]string{mark(1, 1, 0), mark(1, 1, 0)}, nil},
		"the same index":       {[]string{mark(1, 0, 0), mark(1, 0, 0)}, []string{""}},
		"a step too far":       {[]string{mark(1, 0, 0), mark(1, 2, 0), mark(1, 2, 0)}, []string{""}},
		"a sector between":     {[]string{mark(1, 0, 0), mark(1, 1, 1), "a", "b", mark(1, 2, 0)}, []string{"", "a"}},
		"a gap":                {[]string{mark(1, 0, 0), mark(1, 1, 1), "a", "", mark(1, 2, 0)}, []string{"", "a"}},
		"marks as bytes":       {[]string{mark(1, 0, 128), mark(1, 1, 0), mark(1, 1, 0), mark(1, 1, 1), "c"}, []string{mark(1, 1, 0) + mark(1, 1, 0), "c"}},
		"marks behind":         {[]string{mark(1, 0, 65), text(64), "a", mark(1, 1, 0), mark(1, 3, 0)}, []string{text(64) + "a", ""}},
		"more bytes in sector": {[]string{mark(1, 0, 1), text(64), mark(1, 1, 63), text(64)}, []string{text(64)[:1], text(64)[:63]}},
		"all sectors":          {[]string{mark(1, 0, 448), "a", "", "", "", "", "", text(64)}, []string{padded("a") + strings.Repeat("\x00", 320) + text(64)}},
		"a byte too many":      {[]string{mark(1, 0, 449), "a"}, nil},
		"far too many":         {[]string{mark(1, 0, math.MaxInt32), "a"}, nil},
		"too many behind":      {[]string{mark(1, 0, 64), "a", mark(1, 1, 321), "b", mark(1, 2, 0)}, []string{padded("a")}},
		"all behind":           {[]string{mark(1, 0, 64), "a", mark(1, 1, 320), "b"}, []string{padded("a"), padded("b") + strings.Repeat("\x00", 256)}},
		"a byte in the last":   {[]string{mark(1, 0, 384), "a", "", "", "", "", "", mark(1, 1, 1)}, []string{padded("a") + strings.Repeat("\x00", 320)}},
		"a mark in the last":   {[]string{mark(1, 0, 384), "a", "", "", "", "", "", mark(1, 1, 0)}, []string{padded("a") + strings.Repeat("\x00", 320), ""}},
		"no mark":              {[]string{"LG", mark(1, 0, 0)}, nil},
		"a torn mark":          {[]string{mark(1, 0, 0), mark(1, 1, 0)[:63], mark(1, 1, 0)}, []string{""}},
	} {
		d, v := newVolume(t, many, 1)
		used := 0
		for at := range many {
			s := ""
			if at < len(c.sectors) {
				s = c.sectors[at]
			}
			fine(t, "Write", v.Write(1, at, s))
		}
		fine(t, "Sync", v.Sync())
		writes, want := d.Writes(), all(t, d)
		for _, s := range c.want {
			used += 1 + (len(s)+63)/64
		}
		for at := used; at < many; at++ {
			want[18+at] = padded("")
		}
		l := open(t, v, 1, c.want...)
		same(t, name, d, want, writes+many-used)
		room := (many-used)*64 - 64
		if used == many {
			room = -1
		}
		has(t, l, len(c.want), room)
		has(t, open(t, v, 1, c.want...), len(c.want), room)
		if room > 0 {
			appends(t, l, "next")
			open(t, v, 1, append(c.want, "next")...)
		}
	}
}

// P8.3: a file that is not there has no log, whatever its number.
func TestNoFile(t *testing.T) {
	d, v := newVolume(t, 3, 4)
	fine(t, "Drop", v.Drop([]int{1}))
	want, writes := all(t, d), d.Writes()
	fine(t, "Write", v.Write(2, 0, "unsynced"))
	for _, id := range append(beyond, 1, 3, 18) {
		l, err := wal.Lay(v, id)
		wraps(t, "Lay in no file", err, api.ErrNone, false)
		s, m, err := wal.Open(v, id)
		wraps(t, "Open of no file", err, api.ErrNone, false)
		if l != nil || m != nil || len(s) != 0 {
			t.Errorf("Lay(%d) = %v, Open(%d) = %q, %v", id, l, id, s, m)
		}
	}
	d.Crash(nil, -1, 0)
	same(t, "Lay, Open", d, want, writes+1)
}

// P8.2: an error of the volume that leaves it alive leaves the log as it is.
func TestDroppedFile(t *testing.T) {
	for _, size := range []int{0, 1, 64, 65} {
		d, v := newVolume(t, 6)
		l := lay(t, v, 1)
		appends(t, l, "a")
		fine(t, "Drop", v.Drop([]int{1}))
		writes := d.Writes()
		for range 2 {
			wraps(t, "Append to a dropped file", l.Append(text(size)), api.ErrNone, false)
			has(t, l, 1, 3*api.Sector)
		}
		full(t, "Append of too much to a dropped file", l.Append(text(193)))
		if d.Writes() != writes || v.Dead() {
			t.Errorf("%d writes, dead %t", d.Writes()-writes, v.Dead())
		}
	}
}

// P8.2, P8.3: without power there is no log, and the volume's error tells of the disk's; when the volume is dead there is none within that.
func TestNoPower(t *testing.T) {
	for name, call := range map[string]func(v *volume.Volume, l *wal.Log) error{
		"Lay":  func(v *volume.Volume, l *wal.Log) error { _, err := wal.Lay(v, 1); return err },
		"Open": func(v *volume.Volume, l *wal.Log) error { _, _, err := wal.Open(v, 1); return err },
		"Append of the empty string": func(v *volume.Volume, l *wal.Log) error {
			return l.Append("")
		},
		"Append of as much as fits": func(v *volume.Volume, l *wal.Log) error { return l.Append(text(192)) },
	} {
		d, v := newVolume(t, 6)
		l := lay(t, v, 1)
		appends(t, l, "a")
		was := all(t, d)
		powerOff(t, d)
		full(t, "Append of too much", l.Append(text(193)))
		wraps(t, name, call(v, l), api.ErrDown, true)
		has(t, l, 1, 192)
		if !v.Dead() {
			t.Fatalf("%s: the volume is alive", name)
		}
		writes := d.Writes()
		for range 2 {
			full(t, "Append of too much", l.Append(text(193)))
			wraps(t, name, call(v, l), api.ErrDown, false)
			has(t, l, 1, 192)
			for _, id := range append(beyond, 2) {
				_, err := wal.Lay(v, id)
				wraps(t, "Lay in no file of a dead volume", err, api.ErrDown, false)
				_, _, err = wal.Open(v, id)
				wraps(t, "Open of no file of a dead volume", err, api.ErrDown, false)
			}
			d.Crash(nil, -1, 0)
		}
		same(t, name, d, was, writes)
		l = open(t, reopen(t, d), 1, "a")
		appends(t, l, "b")
	}
}

// P8.1 to P8.3: logs in several files of a volume do not touch each other, nor what else is done there.
func TestLogsApart(t *testing.T) {
	d, v := newVolume(t, 5, 9, 4)
	logs := []*wal.Log{lay(t, v, 3), lay(t, v, 1)}
	appends(t, logs[0], "three")
	appends(t, logs[1], "one")
	id, err := v.Make(1)
	if id != 0 || !errors.Is(err, api.ErrFull) {
		t.Fatalf("Make = %d, %v", id, err)
	}
	fine(t, "Drop", v.Drop([]int{2}))
	fine(t, "Point", v.Point(3))
	for i := range 3 {
		id, err := v.Make(3)
		if id != 4+i {
			t.Fatalf("Make = %d, %v", id, err)
		}
		logs = append(logs, lay(t, v, id))
	}
	appends(t, logs[3], "five", "")
	appends(t, logs[0], "")
	appends(t, logs[1], "", "more")
	full(t, "Append", logs[1].Append(""))
	d.Crash(nil, -1, 0)
	v = reopen(t, d)
	has(t, open(t, v, 1, "one", "", "more"), 3, -1)
	has(t, open(t, v, 3, "three", ""), 2, 0)
	has(t, open(t, v, 4), 0, 128)
	has(t, open(t, v, 5, "five", ""), 2, -1)
	has(t, open(t, v, 6), 0, 128)
}

// P8.3: a log whose bytes lie in another file is none there.
func TestCopiedLog(t *testing.T) {
	_, v := newVolume(t, 6, 6)
	l := lay(t, v, 1)
	appends(t, l, "a", "b")
	for at := range 6 {
		s, err := v.Read(1, at)
		fine(t, "Read", err)
		fine(t, "Write", v.Write(2, at, s))
	}
	has(t, open(t, v, 2), 0, 320)
	has(t, open(t, v, 1, "a", "b"), 2, 64)
}

// P3: a list of records that was handed out shares nothing with another one, up to its capacity.
func TestMemory(t *testing.T) {
	_, v := newVolume(t, 20)
	l := lay(t, v, 1)
	appends(t, l, "a", "b", "c", "d", "e")
	one, _, err := wal.Open(v, 1)
	fine(t, "Open", err)
	two, _, err := wal.Open(v, 1)
	fine(t, "Open", err)
	one = one[:cap(one)]
	for i := range one {
		one[i] = "z"
	}
	if !slices.Equal(two, []string{"a", "b", "c", "d", "e"}) {
		t.Errorf("%q", two)
	}
	open(t, v, 1, "a", "b", "c", "d", "e")
}

// P2: errors are values of their own.
func TestErrorsApart(t *testing.T) {
	_, v := newVolume(t, 1)
	l := lay(t, v, 1)
	for _, call := range []func() error{
		func() error { return l.Append("a") },
		func() error { _, err := wal.Lay(v, 2); return err },
		func() error { _, _, err := wal.Open(v, 2); return err },
	} {
		one, two := call(), call()
		before := *one.(*api.Fault)
		*two.(*api.Fault) = api.Fault{}
		if three := call(); !reflect.DeepEqual(*one.(*api.Fault), before) || !reflect.DeepEqual(*three.(*api.Fault), before) {
			t.Errorf("%v became %v, %v", before, one, three)
		}
	}
}
