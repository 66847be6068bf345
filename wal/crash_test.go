package wal_test

import (
	"math/rand"
	"slices"
	"strings"
	"testing"

	"palinode/api"
	"palinode/disk"
	"palinode/volume"
	"palinode/wal"
)

// failure is how the power fails: at which write, which of the unsynced ones are kept (by the bits), which one is torn, behind how many bytes.
type failure struct{ fuse, kept, torn, bytes int }

// crash lets the power go and come back.
func (f failure) crash(d *disk.Disk) {
	keeps := make([]int, 12)
	for i := range keeps {
		keeps[i] = f.kept >> i & 1
	}
	d.Crash(keeps, f.torn, f.bytes)
}

// failures goes through each failure with a fuse of less than so many writes, each choice of the unsynced writes, each one of them torn behind some bytes.
func failures(writes int, yield func(f failure)) {
	for fuse := range writes {
		for kept := range 1 << fuse {
			yield(failure{fuse, kept, -1, 0})
			for torn := range fuse {
				for _, bytes := range []int{0, 1, 2, 8, 9, 10, 12, 13, 15, 17, 18, 53, 59, 60, 61, 63, 64} {
					yield(failure{fuse, kept, torn, bytes})
				}
			}
		}
	}
}

// copyOf is another disk with the same bytes, all of them durable.
func copyOf(t *testing.T, sectors []string) *disk.Disk {
	t.Helper()
	d, err := disk.New(len(sectors))
	fine(t, "New", err)
	for sector, s := range sectors {
		fine(t, "Write to the disk", d.Write(sector, s))
	}
	fine(t, "Sync of the disk", d.Sync())
	return d
}

// recovered is the log on a disk after a crash, which must have either these records or these and one more; may tells whether it may lack that.
func recovered(t *testing.T, d *disk.Disk, f failure, before []string, next string, may bool) ([]string, *wal.Log) {
	t.Helper()
	s, l, err := wal.Open(reopen(t, d), 1)
	fine(t, "Open", err)
	after := append(slices.Clone(before), next)
	if !slices.Equal(s, after) && !(may && slices.Equal(s, before)) {
		t.Fatalf("%v: %q; want %q and then %q, which may lack: %t", f, s, before, next, may)
	}
	return s, l
}

// goesOn checks that a log takes a record, which is read with the others.
func goesOn(t *testing.T, d *disk.Disk, l *wal.Log, records []string) {
	t.Helper()
	records = append(slices.Clone(records), "on")
	appends(t, l, "on")
	d.Crash(nil, -1, 0)
	open(t, reopen(t, d), 1, records...)
}

// beginnings are the records that a log has when the power fails.
func beginnings(t *testing.T) [][]string {
	mark, err := wal.Mark(1, 2, 0)
	fine(t, "Mark", err)
	return [][]string{nil, {"a"}, {"", text(65)}, {mark + mark, ""}, make([]string, 11)}
}

// P8.4: every failure of the power in every Append: at each write, with each choice of the unsynced writes, each one torn behind some bytes. The record is there as a whole, or not at all.
func TestEveryFailureOfAppend(t *testing.T) {
	next, err := wal.Mark(1, 1, 0)
	fine(t, "Mark", err)
	for _, before := range beginnings(t) {
		d, v := newVolume(t, 18)
		appends(t, lay(t, v, 1), before...)
		sectors := all(t, d)
		for _, s := range []string{"", "b", text(64), next, text(65), next + next, strings.Repeat("LG", 96)} {
			writes := 1 + (len(s)+63)/64
			failures(writes+2, func(f failure) {
				d := copyOf(t, sectors)
				l := open(t, reopen(t, d), 1, before...)
				d.Fuse(f.fuse)
				err := l.Append(s)
				if (err == nil) != (f.fuse >= writes) {
					t.Fatalf("%v: %v", f, err)
				}
				f.crash(d)
				records, l := recovered(t, d, f, before, s, err != nil)
				goesOn(t, d, l, records)
			})
		}
	}
}

// P8.4: a mark that is torn in whichever of its bytes, when those of its record are durable. (No fuse burns down between the mark's write and its sync, so both are made here.)
func TestEveryTornMark(t *testing.T) {
	for _, before := range beginnings(t) {
		for _, s := range []string{"", "b"} {
			d, v := newVolume(t, 18)
			appends(t, lay(t, v, 1), before...)
			sectors := all(t, d)
			at := 18 + len(image(t, 1, 0, before...))
			record := image(t, 1, len(before), s)
			copy(sectors[at+1:], record[1:])
			for bytes := range 65 {
				d := copyOf(t, sectors)
				fine(t, "Write to the disk", d.Write(at, record[0]))
				f := failure{torn: 0, bytes: bytes}
				f.crash(d)
				records, l := recovered(t, d, f, before, s, bytes < 64)
				goesOn(t, d, l, records)
			}
		}
	}
}

// P8.4: the power fails in Append, and then in the Open that comes after it, in every way that leaves something behind the records.
func TestEveryFailureOfOpen(t *testing.T) {
	mark := func(index int) string {
		s, err := wal.Mark(1, index, 0)
		fine(t, "Mark", err)
		return s
	}
	before := []string{"a", ""}
	d, v := newVolume(t, 8)
	appends(t, lay(t, v, 1), before...)
	sectors := all(t, d)
	// The bytes of this record are the marks of those that could come behind it, or in its place.
	next := mark(2) + mark(3) + mark(2) + text(1)
	for _, left := range []failure{{4, 15, -1, 0}, {4, 14, -1, 0}, {3, 7, 1, 30}, {4, 0, -1, 0}, {2, 3, 0, 63}} {
		failures(6, func(f failure) {
			d := copyOf(t, sectors)
			l := open(t, reopen(t, d), 1, before...)
			d.Fuse(left.fuse)
			wraps(t, "Append without power", l.Append(next), api.ErrDown, true)
			left.crash(d)
			d.Fuse(f.fuse)
			s, l, err := wal.Open(reopen(t, d), 1)
			if f.fuse < 5 {
				wraps(t, "Open without power", err, api.ErrDown, true)
				if len(s) != 0 || l != nil {
					t.Fatalf("Open without power: %q, %v", s, l)
				}
			} else {
				fine(t, "Open", err)
			}
			f.crash(d)
			goesOn(t, d, open(t, reopen(t, d), 1, before...), before)
		})
	}
}

// P8.4: a Lay in which the power fails leaves no records, whatever was on the file's sectors when it was made, be it the log of a file that is gone.
func TestEveryFailureOfLay(t *testing.T) {
	for _, junk := range [][]string{nil, {"", "", ""}, {"a", "b"}} {
		d, v := newVolume(t, 2, 5)
		appends(t, lay(t, v, 2), junk...)
		fine(t, "Drop", v.Drop([]int{1, 2}))
		id, err := v.Make(7)
		if id != 3 || err != nil {
			t.Fatalf("Make = %d, %v", id, err)
		}
		sectors := all(t, d)
		failures(8, func(f failure) {
			if f.bytes > 2 && f.bytes < 59 {
				return
			}
			d := copyOf(t, sectors)
			d.Fuse(f.fuse)
			_, err := wal.Lay(reopen(t, d), 3)
			if (err == nil) != (f.fuse == 7) {
				t.Fatalf("%v: %v", f, err)
			}
			f.crash(d)
			l := open(t, reopen(t, d), 3)
			appends(t, l, "on")
			d.Crash(nil, -1, 0)
			open(t, reopen(t, d), 3, "on")
		})
	}
}

// life is a log on which the power fails again and again.
type life struct {
	d       *disk.Disk
	v       *volume.Volume
	l       *wal.Log
	records []string
}

// P8.4: long lives with a failure in every few calls, each one on what the ones before it have left on the disk.
func TestManyFailures(t *testing.T) {
	source := rand.New(rand.NewSource(84))
	for range 60 {
		p := &life{}
		p.d, p.v = newVolume(t, 40, 3)
		p.l = lay(t, p.v, 1)
		lived, failed, whole := 0, 0, 0
		for range 120 {
			if p.l.Room() < 0 {
				p.l = lay(t, p.v, 1)
				p.records = nil
			}
			s := anyRecord(t, source, p)
			if source.Intn(2) > 0 {
				appends(t, p.l, s)
				p.records = append(p.records, s)
				lived++
				continue
			}
			was := len(p.records)
			p.fail(t, source, s)
			failed++
			whole += len(p.records) - was
		}
		if lived < 30 || failed < 30 || whole < 5 || failed-whole < 5 {
			t.Errorf("%d calls lived, %d failed, %d of them left a record: too few", lived, failed, whole)
		}
	}
}

// anyRecord is a record that fits, at times of the marks of records that could come.
func anyRecord(t *testing.T, source *rand.Rand, p *life) string {
	t.Helper()
	size := min(p.l.Room(), source.Intn(4)*source.Intn(90))
	if source.Intn(3) > 0 {
		return text(size)
	}
	var b strings.Builder
	for b.Len() < size {
		mark, err := wal.Mark(1, p.l.Len()+source.Intn(3), source.Intn(65))
		fine(t, "Mark", err)
		b.WriteString(mark)
	}
	return b.String()[:size]
}

// fail lets the power fail in an Append, and then in some of the Opens.
func (p *life) fail(t *testing.T, source *rand.Rand, s string) {
	t.Helper()
	any := func(writes int) failure {
		return failure{source.Intn(writes), source.Intn(1 << 12), source.Intn(8) - 1, source.Intn(65)}
	}
	f := any(3 + len(s)/64)
	fine(t, "Write", p.v.Write(2, 1, "unsynced"))
	p.d.Fuse(f.fuse)
	err := p.l.Append(s)
	f.crash(p.d)
	for source.Intn(3) == 0 {
		f := any(40)
		p.d.Fuse(f.fuse)
		if records, _, err := wal.Open(reopen(t, p.d), 1); err != nil {
			wraps(t, "Open without power", err, api.ErrDown, true)
			if len(records) > 0 {
				t.Fatalf("Open without power: %q", records)
			}
		}
		f.crash(p.d)
	}
	p.records, _ = recovered(t, p.d, f, p.records, s, err != nil)
	p.v = reopen(t, p.d)
	p.l = open(t, p.v, 1, p.records...)
}
