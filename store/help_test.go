package store_test

import (
	"errors"
	"slices"
	"strings"
	"testing"

	"palinode/api"
	"palinode/disk"
	"palinode/store"
	"palinode/table"
	"palinode/version"
	"palinode/volume"
	"palinode/wal"
)

// fine checks that a call had no error.
func fine(t *testing.T, name string, err error) {
	t.Helper()
	if err != nil {
		t.Fatalf("%s: %v", name, err)
	}
}

// fault is a call's error as the store's own, which must be one.
func fault(t *testing.T, name string, err error, code api.Errno) *api.Fault {
	t.Helper()
	f, ok := err.(*api.Fault)
	if !ok || f.Layer != 17 || f.Code != code || !errors.Is(err, code) {
		t.Fatalf("%s: %v; want error %d of layer 17", name, err, code)
	}
	return f
}

// refuses checks an error that comes from nothing below.
func refuses(t *testing.T, name string, err error, code api.Errno) {
	t.Helper()
	if f := fault(t, name, err, code); f.Inner != nil {
		t.Fatalf("%s: %v; want nothing within", name, err)
	}
}

// wraps checks an error that comes from a layer on the disk.
func wraps(t *testing.T, name string, err error, code api.Errno, below int) {
	t.Helper()
	inner, ok := fault(t, name, err, code).Inner.(*api.Fault)
	if !ok || inner.Layer != below || inner.Code != code {
		t.Fatalf("%s: %v; want an error of layer %d within", name, err, below)
	}
}

// down checks the error of a call in which the power failed: the disk's is within.
func down(t *testing.T, name string, err error) {
	t.Helper()
	var lowest api.Errno
	if f := fault(t, name, err, api.ErrDown); f.Inner == nil || !errors.As(err, &lowest) || lowest != api.ErrDown {
		t.Fatalf("%s: %v; want the disk's error within", name, err)
	}
}

// newDisk is a new disk that must be had.
func newDisk(t *testing.T, sectors int) *disk.Disk {
	t.Helper()
	d, err := disk.New(sectors)
	fine(t, "New", err)
	return d
}

// all is the bytes of each sector of a disk.
func all(t *testing.T, d *disk.Disk) []string {
	t.Helper()
	l := make([]string, d.Size())
	for sector := range l {
		s, err := d.Read(sector)
		if err != nil {
			t.Fatalf("Read(%d) of the disk: %v", sector, err)
		}
		l[sector] = s
	}
	return l
}

// diskOf is another disk with these bytes, all of them durable.
func diskOf(t *testing.T, sectors []string) *disk.Disk {
	t.Helper()
	d := newDisk(t, len(sectors))
	zeros := strings.Repeat("\x00", 64)
	for sector, s := range sectors {
		if s == zeros {
			continue
		}
		if err := d.Write(sector, s); err != nil {
			t.Fatalf("Write(%d) to the disk: %v", sector, err)
		}
	}
	fine(t, "Sync of the disk", d.Sync())
	return d
}

// puts is changes that give keys a value.
func puts(value string, keys ...string) []api.Change {
	var l []api.Change
	for _, key := range keys {
		l = append(l, api.Change{Key: key, Value: value})
	}
	return l
}

// level is the tables of a level.
func level(s *store.Store, n int) []api.Meta { return version.Level(s.Version(), n) }

// countLevel is how many tables a level has.
func countLevel(v api.Version, n int) int { return len(version.Level(v, n)) }

// sameVersion tells whether two versions are the same, be an empty list nil or not.
func sameVersion(a, b api.Version) bool {
	return slices.Equal(a.Tables, b.Tables) && slices.Equal(a.Logs, b.Logs) && a.Seq == b.Seq
}

// reads is the volume on a disk, to be read.
func reads(t *testing.T, d *disk.Disk) *volume.Volume {
	t.Helper()
	v, err := volume.Open(d)
	fine(t, "Open of the volume", err)
	return v
}

// bytesOf is so many bytes of a file, from a sector on.
func bytesOf(t *testing.T, v *volume.Volume, id, at, size int) string {
	t.Helper()
	var b strings.Builder
	for ; b.Len() < size; at++ {
		s, err := v.Read(id, at)
		if err != nil {
			t.Fatalf("Read(%d, %d) of the volume: %v", id, at, err)
		}
		b.WriteString(s)
	}
	return b.String()[:size]
}

// entriesOf is the entries of the tables of a store, from the disk.
func entriesOf(t *testing.T, d *disk.Disk, s *store.Store) map[int][]api.Entry {
	t.Helper()
	v := reads(t, d)
	out := map[int][]api.Entry{}
	for _, m := range s.Version().Tables {
		b, err := table.Open(bytesOf(t, v, m.ID, 0, m.Bytes))
		fine(t, "Open of a table", err)
		if b.Min() != m.Min || b.Max() != m.Max {
			t.Fatalf("table %v is from %q to %q", m, b.Min(), b.Max())
		}
		out[m.ID] = b.All()
	}
	return out
}

// manifest is the version that the manifest on a disk tells, and the manifest's file.
func manifest(t *testing.T, d *disk.Disk) (api.Version, api.File) {
	t.Helper()
	v := reads(t, d)
	current := v.Root().Current
	var out api.Version
	for at, index := 0, 0; at < 80; index++ {
		size, err := wal.ReadMark(bytesOf(t, v, current, at, 64), current, index)
		if err != nil {
			break
		}
		e, err := version.Decode(bytesOf(t, v, current, at+1, size))
		fine(t, "Decode", err)
		out, err = version.Apply(out, e)
		fine(t, "Apply", err)
		at += 1 + (size+63)/64
	}
	return out, files(t, d)[current]
}

// files is the files of a volume, by their IDs.
func files(t *testing.T, d *disk.Disk) map[int]api.File {
	t.Helper()
	out := map[int]api.File{}
	for _, f := range reads(t, d).Root().Files {
		out[f.ID] = f
	}
	return out
}

// onDisk checks that the disk has what the chapter says; it may have other files, too, while a compaction is in progress.
func onDisk(t *testing.T, d *disk.Disk, s *store.Store) {
	t.Helper()
	told, current := manifest(t, d)
	v := s.Version()
	if !sameVersion(told, v) || !version.Right(v) || v.Seq > s.Seq() || len(v.Logs) == 0 {
		t.Fatalf("Version() = %v at %d; the manifest says %v", v, s.Seq(), told)
	}
	if current.Many != 80 {
		t.Fatalf("the manifest is %v", current)
	}
	entriesOf(t, d, s)
	has := files(t, d)
	for _, id := range v.Logs {
		if has[id].Many != 60 {
			t.Fatalf("log %d is %v", id, has[id])
		}
	}
	for _, m := range v.Tables {
		if has[m.ID].Many != (m.Bytes+63)/64 {
			t.Fatalf("table %v is %v", m, has[m.ID])
		}
	}
}

// clean checks that there are no files but those of the version and the manifest.
func clean(t *testing.T, d *disk.Disk, s *store.Store) {
	t.Helper()
	r := reads(t, d).Root()
	want := append(version.Live(s.Version()), r.Current)
	slices.Sort(want)
	var has []int
	for _, f := range r.Files {
		has = append(has, f.ID)
	}
	if !slices.Equal(has, want) {
		t.Fatalf("files %v; want %v", r, want)
	}
}
