package volume_test

import (
	"math/rand"
	"slices"
	"strings"
	"testing"

	"palinode/api"
	"palinode/disk"
	"palinode/volume"
)

// small is the root that the volumes here begin with, on a disk of 30 sectors.
func small(seq int) api.Root {
	return api.Root{Seq: seq, Next: 9, Current: 4, Files: files(2, 24, 2, 4, 18, 2, 8, 20, 4)}
}

// touches are the calls that come to the disk.
var touches = []struct {
	name string
	call func(v *volume.Volume) error
}{
	{"Make", func(v *volume.Volume) error { _, err := v.Make(3); return err }},
	{"Drop", func(v *volume.Volume) error { return v.Drop([]int{8, 2}) }},
	{"Point", func(v *volume.Volume) error { return v.Point(8) }},
	{"Write", func(v *volume.Volume) error { return v.Write(2, 1, "w") }},
	{"Write of a long string", func(v *volume.Volume) error { return v.Write(2, 1, strings.Repeat("w", 65)) }},
	{"Read", func(v *volume.Volume) error { _, err := v.Read(2, 1); return err }},
	{"Sync", func(v *volume.Volume) error { return v.Sync() }},
}

// powerOff lets a disk's power fail, without a volume.
func powerOff(t *testing.T, d *disk.Disk) {
	t.Helper()
	d.Fuse(0)
	if d.Write(0, "x") != api.ErrDown || !d.Down() {
		t.Fatal("the power is still on")
	}
}

// dead checks that a volume is dead: it knows nothing, and does nothing, whatever it is asked.
func dead(t *testing.T, v *volume.Volume, d *disk.Disk) {
	t.Helper()
	writes := d.Writes()
	for _, c := range touches {
		refuses(t, c.name+" of a dead volume", c.call(v), api.ErrDown)
	}
	for _, n := range append(beyond, 0, 1, 2, 4, 8) {
		id, err := v.Make(n)
		refuses(t, "Make of a dead volume", err, api.ErrDown)
		s, err := v.Read(n, 0)
		refuses(t, "Read of a dead volume", err, api.ErrDown)
		_, err = v.Read(2, n)
		refuses(t, "Read of a dead volume", err, api.ErrDown)
		if id != 0 || s != "" {
			t.Errorf("Make = %d, Read = %q", id, s)
		}
		refuses(t, "Write of a dead volume", v.Write(n, 0, "x"), api.ErrDown)
		refuses(t, "Write of a dead volume", v.Write(2, n, "x"), api.ErrDown)
		refuses(t, "Point of a dead volume", v.Point(n), api.ErrDown)
		refuses(t, "Drop of a dead volume", v.Drop([]int{n}), api.ErrDown)
		refuses(t, "Drop of a dead volume", v.Drop([]int{n, n}), api.ErrDown)
	}
	refuses(t, "Drop of nothing of a dead volume", v.Drop(nil), api.ErrDown)
	if r := v.Root(); !v.Dead() || r.Seq != 0 || r.Next != 0 || r.Current != 0 || len(r.Files) != 0 {
		t.Errorf("dead %t, root %v", v.Dead(), r)
	}
	if d.Writes() != writes {
		t.Errorf("a dead volume made %d writes", d.Writes()-writes)
	}
}

// P7.4: whichever call finds out that the power is off, the volume is dead from then on, also when the power is back and another volume is at work.
func TestDead(t *testing.T) {
	for _, c := range touches {
		d, v := laid(t, 30, small(6))
		powerOff(t, d)
		has(t, v, small(6))
		wraps(t, c.name+" without power", c.call(v), api.ErrDown)
		dead(t, v, d)
		d.Crash(nil, -1, 0)
		was := all(t, d)
		dead(t, v, d)
		if l := changed(t, d, was); l != nil {
			t.Errorf("a dead volume changed sectors %d", l)
		}
		w := open(t, d)
		has(t, w, small(6))
		makes(t, w, 3, 9)
		fine(t, "Write", w.Write(9, 0, "x"))
		dead(t, v, d)
		// What the dead volume was asked to sync has not been synced.
		keeps(t, w, d, w.Root())
		if s, err := w.Read(9, 0); s != padded("") || err != nil {
			t.Errorf("Read(9, 0) = %q, %v", s, err)
		}
	}
}

// P7.4: a volume dies of the write at which the fuse has burnt down, whichever it is of a call's.
func TestDeadAtFuse(t *testing.T) {
	for _, c := range touches[:4] {
		for fuse := range 3 {
			d, v := laid(t, 30, small(6))
			d.Fuse(fuse)
			err := c.call(v)
			if err == nil {
				has(t, v, v.Root())
				continue
			}
			wraps(t, c.name+" without power", err, api.ErrDown)
			dead(t, v, d)
			d.Crash(nil, -1, 0)
			dead(t, v, d)
			has(t, open(t, d), small(6))
		}
	}
}

// P7.4: what does not come to the disk does not find out that the power is off, and leaves the volume alive; so does a failure that it has not noticed.
func TestUnnoticed(t *testing.T) {
	d, v := laid(t, 30, small(6))
	powerOff(t, d)
	check := func() {
		t.Helper()
		_, err := v.Make(0)
		refuses(t, "Make of nothing", err, api.ErrArg)
		_, err = v.Make(20)
		refuses(t, "Make without room", err, api.ErrFull)
		fine(t, "Drop of nothing", v.Drop(nil))
		refuses(t, "Drop of no file", v.Drop([]int{3}), api.ErrNone)
		refuses(t, "Drop of the current file", v.Drop([]int{4}), api.ErrArg)
		refuses(t, "Point to no file", v.Point(3), api.ErrNone)
		_, err = v.Read(3, 0)
		refuses(t, "Read of no file", err, api.ErrNone)
		refuses(t, "Write to no sector", v.Write(2, 2, "x"), api.ErrArg)
		has(t, v, small(6))
	}
	check()
	d.Crash(nil, -1, 0)
	check()
	makes(t, v, 3, 9)
	fine(t, "Sync", v.Sync())
	keeps(t, v, d, v.Root())
}

// P7.4: no other error kills a volume.
func TestAliveAfterErrors(t *testing.T) {
	d, v := laid(t, 30, small(6))
	wraps(t, "Write of a long string", v.Write(2, 0, strings.Repeat("x", 65)), api.ErrLong)
	refuses(t, "Point to no file", v.Point(3), api.ErrNone)
	has(t, v, small(6))
	fine(t, "Write", v.Write(2, 0, "x"))
	fine(t, "Point", v.Point(8))
	keeps(t, v, d, v.Root())
}

// copyOf is another disk with the same bytes, all of them durable.
func copyOf(t *testing.T, sectors []string) *disk.Disk {
	t.Helper()
	d := newDisk(t, len(sectors))
	for sector, s := range sectors {
		writeTo(t, d, sector, s)
	}
	fine(t, "Sync of the disk", d.Sync())
	return d
}

// failure is how the power fails: at which write, which of the unsynced ones are kept (by the bits), which one is torn, behind how many bytes.
type failure struct{ fuse, kept, torn, bytes int }

// strike lets the power fail so in a call, and gives the volume that is opened afterwards; its root must be the one from before the call, or the one from after it.
func strike(t *testing.T, d *disk.Disk, v *volume.Volume, call func(v *volume.Volume) error, f failure, after api.Root) *volume.Volume {
	t.Helper()
	before := v.Root()
	d.Fuse(f.fuse)
	err := call(v)
	keeps := make([]int, 12)
	for i := range keeps {
		keeps[i] = f.kept >> i & 1
	}
	d.Crash(keeps, f.torn, f.bytes)
	w := open(t, d)
	got := w.Root()
	if !same(got, after) && (err == nil || !same(got, before)) {
		t.Fatalf("%v, %v: %v became %v; want %v", f, err, before, got, after)
	}
	return w
}

// P7.5: every failure of the power in every call: at each write, with each choice of the unsynced writes, each one torn behind each of some bytes. The volume that is opened goes on as if nothing had been; what was synced is there.
func TestEveryFailure(t *testing.T) {
	for _, seq := range []int{6, 7} {
		d := newDisk(t, 30)
		for turn := range 3 { // so that both slots have roots
			b, head := encoded(t, 30, small(seq-2+turn))
			lay(t, d, (seq-2+turn)%2, head, b)
		}
		v := open(t, d)
		has(t, v, small(seq))
		fine(t, "Write", v.Write(4, 1, "synced"))
		fine(t, "Sync", v.Sync())
		sectors := all(t, d)
		for i, c := range touches {
			if c.name != "Write of a long string" {
				everyFailure(t, sectors, c.call, i)
			}
		}
	}
}

// unsynced writes to files, ahead of the call that the power fails in.
func unsynced(t *testing.T, v *volume.Volume) {
	t.Helper()
	fine(t, "Write", v.Write(2, 0, "unsynced"))
	fine(t, "Write", v.Write(8, 3, strings.Repeat("unsynced", 8)))
}

// everyFailure is every failure of the power in a call.
func everyFailure(t *testing.T, sectors []string, call func(v *volume.Volume) error, which int) {
	t.Helper()
	d := copyOf(t, sectors)
	v := open(t, d)
	unsynced(t, v)
	fine(t, "the call", call(v))
	after := v.Root()
	for fuse := range 4 {
		for kept := range 1 << 4 {
			for torn := -1; torn < 4; torn++ {
				for _, size := range []int{0, 1, 2, 8, 9, 10, 11, 30, 56, 57, 62, 63, 64} {
					if torn == -1 && size > 0 {
						break
					}
					d := copyOf(t, sectors)
					v := open(t, d)
					unsynced(t, v)
					w := strike(t, d, v, call, failure{fuse, kept, torn, size}, after)
					goesOn(t, d, w, which)
				}
			}
		}
	}
}

// goesOn checks that a volume works.
func goesOn(t *testing.T, d *disk.Disk, v *volume.Volume, which int) {
	t.Helper()
	if s, err := v.Read(4, 1); s != padded("synced") || err != nil {
		t.Fatalf("Read(4, 1) = %q, %v", s, err)
	}
	want := v.Root()
	want.Seq++
	if which%2 == 0 {
		want.Current = 4
		fine(t, "Point", v.Point(4))
	} else {
		makes(t, v, 1, want.Next)
		want.Files = append(want.Files, v.Root().Files[len(want.Files)])
		want.Next++
	}
	keeps(t, v, d, want)
}

// P7.5: failures in roots of many sectors, whose bytes are kept in part, in each choice of them.
func TestFailuresOfLongRoots(t *testing.T) {
	source := rand.New(rand.NewSource(7))
	for _, n := range []int{5, 11, 17, 23} {
		d, v := laid(t, 400, many(n))
		fine(t, "Point", v.Point(many(n).Files[0].ID))
		fine(t, "Point", v.Point(many(n).Files[1].ID))
		sectors, before := all(t, d), v.Root()
		for _, call := range []func(v *volume.Volume) error{
			func(v *volume.Volume) error { _, err := v.Make(9); return err },
			func(v *volume.Volume) error { return v.Drop([]int{before.Files[3].ID, before.Files[0].ID}) },
			func(v *volume.Volume) error { return v.Point(before.Files[2].ID) },
		} {
			v := open(t, copyOf(t, sectors))
			fine(t, "the call", call(v))
			after := v.Root()
			for fuse := range 9 {
				for range 40 {
					d := copyOf(t, sectors)
					f := failure{fuse, source.Intn(1 << 8), source.Intn(9) - 1, source.Intn(65)}
					w := strike(t, d, open(t, d), call, f, after)
					keeps(t, w, d, w.Root())
				}
			}
		}
	}
}

// P7.5: a long life with a failure in every few calls, each one on what the ones before it have left on the disk.
func TestManyFailures(t *testing.T) {
	source := rand.New(rand.NewSource(75))
	for range 40 {
		d := newDisk(t, 40)
		v := format(t, d)
		lives, failures := 0, 0
		for range 150 {
			call := anyCall(source, v.Root())
			// The same call on a copy tells what the root is if nothing fails.
			w := open(t, copyOf(t, all(t, d)))
			errAlone := call(w)
			after := w.Root()
			if source.Intn(3) > 0 {
				if err := call(v); (err == nil) != (errAlone == nil) {
					t.Fatalf("%v; want %v", err, errAlone)
				}
				has(t, v, after)
				lives++
				continue
			}
			f := failure{source.Intn(4), source.Intn(1 << 12), source.Intn(8) - 1, source.Intn(65)}
			v = strike(t, d, v, call, f, after)
			failures++
		}
		if lives < 50 || failures < 25 || v.Root().Seq < 20 {
			t.Errorf("%d calls that lived, %d failures, %v: too few", lives, failures, v.Root())
		}
	}
}

// anyCall is a call, more often than not one that can be done.
func anyCall(source *rand.Rand, r api.Root) func(v *volume.Volume) error {
	id, n := 0, source.Intn(6)
	if len(r.Files) > 0 {
		id = r.Files[source.Intn(len(r.Files))].ID
	}
	switch source.Intn(6) {
	case 0:
		return func(v *volume.Volume) error { return v.Drop([]int{id}) }
	case 1:
		return func(v *volume.Volume) error { return v.Point(id) }
	case 2:
		return func(v *volume.Volume) error { return v.Write(id, n, "text") }
	case 3:
		return func(v *volume.Volume) error { return v.Sync() }
	case 4:
		ids := []int{id, id + 1}
		slices.Reverse(ids[:n%3])
		return func(v *volume.Volume) error { return v.Drop(ids) }
	default:
		return func(v *volume.Volume) error { _, err := v.Make(n); return err }
	}
}
