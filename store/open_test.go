package store_test

import (
	"slices"
	"strings"
	"testing"

	"palinode/api"
	"palinode/block"
	"palinode/disk"
	"palinode/store"
	"palinode/table"
	"palinode/version"
	"palinode/volume"
	"palinode/wal"
)

// craft is a volume that is made by hand into a store, or into something like it.
type craft struct {
	t *testing.T
	d *disk.Disk
	v *volume.Volume
}

// newCraft is a new volume.
func newCraft(t *testing.T) *craft {
	t.Helper()
	d := newDisk(t, 1500)
	v, err := volume.Format(d)
	fine(t, "Format of the volume", err)
	return &craft{t, d, v}
}

// file makes a file.
func (c *craft) file(sectors int) int {
	c.t.Helper()
	id, err := c.v.Make(sectors)
	fine(c.t, "Make", err)
	return id
}

// log makes a log with these records.
func (c *craft) log(sectors int, records ...string) int {
	c.t.Helper()
	id := c.file(sectors)
	l, err := wal.Lay(c.v, id)
	fine(c.t, "Lay", err)
	for _, s := range records {
		fine(c.t, "Append", l.Append(s))
	}
	return id
}

// bytes makes a file of some bytes.
func (c *craft) bytes(b string) int {
	c.t.Helper()
	id := c.file(max(1, (len(b)+63)/64))
	for at := 0; at*64 < len(b); at++ {
		fine(c.t, "Write", c.v.Write(id, at, b[at*64:min(at*64+64, len(b))]))
	}
	fine(c.t, "Sync", c.v.Sync())
	return id
}

// table makes a table, and tells what a version says of it.
func (c *craft) table(level int, l ...api.Entry) api.Meta {
	c.t.Helper()
	b, err := table.Build(l, 1+level, 7)
	fine(c.t, "Build", err)
	return api.Meta{ID: c.bytes(b), Level: level, Min: l[0].Key, Max: l[len(l)-1].Key, Bytes: len(b)}
}

// manifest makes a manifest of 80 sectors with these edits.
func (c *craft) manifest(edits ...api.Edit) int {
	c.t.Helper()
	var records []string
	for _, e := range edits {
		records = append(records, edit(c.t, e))
	}
	return c.log(80, records...)
}

// point makes a file the current one.
func (c *craft) point(id int) {
	c.t.Helper()
	fine(c.t, "Point", c.v.Point(id))
}

// edit is an edit as bytes.
func edit(t *testing.T, e api.Edit) string {
	t.Helper()
	b, err := version.Encode(e)
	fine(t, "Encode", err)
	return b
}

// batch is the record of a batch.
func batch(t *testing.T, l ...api.Entry) string {
	t.Helper()
	b, err := block.Encode(l)
	fine(t, "Encode", err)
	return b
}

// of is an entry with the value v.
func of(key string, seq int) api.Entry { return api.Entry{Key: key, Seq: seq, Value: "v"} }

// dropped is an entry of a key that is gone.
func dropped(key string, seq int) api.Entry { return api.Entry{Key: key, Seq: seq, Drop: true} }

// opens checks that the disk has a store, which tells this.
func (c *craft) opens(seq int, want ...api.Entry) *store.Store {
	c.t.Helper()
	s, err := store.Open(c.d)
	fine(c.t, "Open", err)
	l, err := s.Scan("", "", api.MaxNumber, 1000)
	if !slices.Equal(l, want) || err != nil || s.Seq() != seq || s.Dead() {
		c.t.Fatalf("Scan = %v, %v at %d; want %v at %d", l, err, s.Seq(), want, seq)
	}
	for _, e := range want {
		if v, ok, err := s.Get(e.Key, seq); v != e.Value || !ok || err != nil {
			c.t.Fatalf("Get(%q) = %q, %t, %v", e.Key, v, ok, err)
		}
	}
	clean(c.t, c.d, s)
	return s
}

// What an error of Open has within: nothing, or the bare number of a layer that has no faults; otherwise, the layer whose fault it is.
const (
	nothing = 0
	bare    = -1
)

// noStore checks that a disk has no store, and that Open changes nothing there.
func noStore(t *testing.T, name string, d *disk.Disk, code api.Errno, within int) {
	t.Helper()
	was, writes := all(t, d), d.Writes()
	s, err := store.Open(d)
	if s != nil {
		t.Fatalf("%s: Open = %v, %v", name, s, err)
	}
	switch within {
	case nothing:
		refuses(t, name, err, code)
	case bare:
		if f := fault(t, name, err, code); f.Inner != code {
			t.Fatalf("%s: %v; want error %d within", name, err, code)
		}
	default:
		wraps(t, name, err, code, within)
	}
	if d.Writes() != writes || !slices.Equal(all(t, d), was) {
		t.Fatalf("%s: the disk is another one", name)
	}
}

// P17.1: a store with tables on all levels, in the blocks of another hand, and with several logs.
func TestOpenOfManyParts(t *testing.T) {
	c := newCraft(t)
	edits := []api.Edit{
		{Add: []api.Meta{c.table(3, of("a", 1), of("c", 1), of("e", 1)), c.table(3, of("x", 1))}, Seq: 1},
		{Add: []api.Meta{c.table(2, of("a", 2), dropped("c", 3))}, Seq: 3},
		{Add: []api.Meta{c.table(1, dropped("a", 4)), c.table(1, of("b", 4))}, Seq: 4},
		{Add: []api.Meta{c.table(0, of("c", 6), of("d", 5)), c.table(0, of("a", 8), of("a", 7), dropped("d", 8))}, Seq: 8},
		{AddLogs: []int{c.log(60, batch(t, of("b", 9)), batch(t, of("b", 10), of("f", 10))), c.log(60), c.log(60, batch(t, dropped("x", 11)), batch(t, of("x", 12)), batch(t, dropped("f", 13)))}},
	}
	orphans := []int{c.file(1), c.log(60, batch(t, of("z", 14))), c.log(80, edit(t, edits[0]))}
	current := c.manifest(edits...)
	c.point(current)
	s := c.opens(13, of("a", 8), of("b", 10), of("c", 6), of("e", 1), of("x", 12))
	for _, id := range orphans {
		if _, ok := files(t, c.d)[id]; ok {
			t.Errorf("file %d is still there", id)
		}
	}
	// It goes on in the last log, and a flush loses all three.
	n, err := s.Write(puts("w", "g"))
	if n != 14 || err != nil {
		t.Fatalf("Write = %d, %v", n, err)
	}
	g := api.Entry{Key: "g", Seq: 14, Value: "w"}
	s = c.opens(14, of("a", 8), of("b", 10), of("c", 6), of("e", 1), g, of("x", 12))
	if len(s.Version().Logs) != 3 {
		t.Fatalf("Version() = %v", s.Version())
	}
	s.Want()
	for more := true; more; {
		more, err = s.Step()
		fine(t, "Step", err)
		clean(t, c.d, s)
	}
	if v := s.Version(); len(v.Logs) != 1 || v.Seq != 14 || countLevel(v, 0) != 0 {
		t.Fatalf("Version() = %v", v)
	}
	c.opens(14, of("a", 8), of("b", 10), of("c", 6), of("e", 1), g, of("x", 12))
}

// P17.1, P17.2: the tables may go up to the greatest number, and then no batch may follow.
func TestTheLastNumber(t *testing.T) {
	c := newCraft(t)
	c.point(c.manifest(api.Edit{Add: []api.Meta{c.table(1, of("a", api.MaxNumber-2))}, AddLogs: []int{c.log(60)}, Seq: api.MaxNumber - 1}))
	s := c.opens(api.MaxNumber-1, of("a", api.MaxNumber-2))
	if n, err := s.Write(puts("v", "b")); n != api.MaxNumber || err != nil {
		t.Fatalf("Write = %d, %v", n, err)
	}
	for range 2 {
		for _, l := range [][]api.Change{puts("w", "b"), {{Key: "a", Drop: true}}, forty(strings.Repeat("v", 300), 40)} {
			n, err := s.Write(l)
			refuses(t, "Write", err, api.ErrLong)
			if n != 0 {
				t.Fatalf("Write = %d", n)
			}
		}
		for _, l := range [][]api.Change{nil, {{}}, puts("v", "a", "a"), {{Key: "a", Drop: true, Value: "v"}}} {
			_, err := s.Write(l)
			fault(t, "Write", err, api.ErrArg)
		}
		s = c.opens(api.MaxNumber, of("a", api.MaxNumber-2), of("b", api.MaxNumber))
		s.Want()
		_, err := s.Step()
		fine(t, "Step", err)
	}
}

// P17.1: a version that goes farther than its log, whose batches stay what they were.
func TestOpenOfOldBatches(t *testing.T) {
	p := born(t, 400)
	p.put("v", "a", "b")
	p.write(api.Change{Key: "b", Drop: true}, api.Change{Key: "c", Value: "v"})
	v := reads(t, p.d)
	_, l, err := wal.Open(v, v.Root().Current)
	fine(t, "Open of the manifest", err)
	fine(t, "Append", l.Append(edit(t, api.Edit{Seq: 9})))
	c := &craft{t, p.d, v}
	for i := range 3 {
		s := c.opens(9+i, append([]api.Entry{of("a", 1), of("c", 2)}, []api.Entry{of("d", 10), of("e", 11)}[:i]...)...)
		n, err := s.Write(puts("v", string([]byte{'d' + byte(i)})))
		if n != 10+i || err != nil {
			t.Fatalf("Write = %d, %v", n, err)
		}
	}
	s := c.opens(12, of("a", 1), of("c", 2), of("d", 10), of("e", 11), of("f", 12))
	s.Want()
	_, err = s.Step()
	fine(t, "Step", err)
	c.opens(12, of("a", 1), of("c", 2), of("d", 10), of("e", 11), of("f", 12))
	if v := s.Version(); v.Seq != 12 {
		t.Errorf("the version is %v", v)
	}
}

// P17.1: what a version may be short of, and still be that of a store.
func TestOpenOfLittle(t *testing.T) {
	c := newCraft(t)
	c.point(c.manifest(api.Edit{AddLogs: []int{c.log(60)}}))
	c.opens(0)
	// All that was written is gone again.
	c = newCraft(t)
	c.point(c.manifest(api.Edit{Seq: 7}, api.Edit{AddLogs: []int{c.log(60, batch(t, of("a", 8)), batch(t, dropped("a", 9)))}}))
	c.opens(9)
}

// P17.1: volumes that have no manifest, or one that is none.
func TestOpenWithoutManifest(t *testing.T) {
	noStore(t, "an empty disk", newDisk(t, 700), api.ErrNone, 7)
	noStore(t, "a small disk", newDisk(t, 18), api.ErrNone, 7)
	c := newCraft(t)
	noStore(t, "an empty volume", c.d, api.ErrNone, nothing)
	log := c.log(60)
	whole := edit(t, api.Edit{AddLogs: []int{log}})
	good := c.log(80, whole)
	noStore(t, "no current file", c.d, api.ErrNone, nothing)
	meta := func(id int) api.Meta { return api.Meta{ID: id, Level: 1, Min: "a", Max: "b", Bytes: 9} }
	for _, x := range []struct {
		name   string
		id     int
		code   api.Errno
		within int
	}{
		{"an empty manifest", c.log(80), api.ErrForm, nothing},
		{"a manifest of 79", c.log(79, whole), api.ErrNone, nothing},
		{"a manifest of 81", c.log(81, whole), api.ErrNone, nothing},
		{"no version", c.log(80, "no version"), api.ErrForm, bare},
		{"an empty record", c.log(80, whole, ""), api.ErrForm, bare},
		{"a byte too many", c.log(80, whole+"\x00"), api.ErrForm, bare},
		{"no logs", c.log(80, edit(t, api.Edit{Seq: 3})), api.ErrForm, nothing},
		{"no logs anymore", c.log(80, whole, edit(t, api.Edit{DropLogs: []int{log}})), api.ErrForm, nothing},
		{"a log twice", c.log(80, whole, whole), api.ErrForm, nothing},
		{"no log of that number", c.log(80, whole, edit(t, api.Edit{DropLogs: []int{good}})), api.ErrNone, bare},
		{"no table of that number", c.log(80, whole, edit(t, api.Edit{Drop: []int{good}})), api.ErrNone, bare},
		{"tables that share keys", c.log(80, whole, edit(t, api.Edit{Add: []api.Meta{meta(51), meta(52)}})), api.ErrForm, nothing},
		{"zero bytes", c.file(80), api.ErrForm, nothing},
		{"other bytes", c.bytes(strings.Repeat("palinode", 640)), api.ErrForm, nothing},
		{"a log as the manifest", log, api.ErrNone, nothing},
		{"no log file", c.log(80, edit(t, api.Edit{AddLogs: []int{500}})), api.ErrNone, nothing},
	} {
		// Whatever stands behind the records stays there.
		fine(t, "Write", c.v.Write(x.id, 59, "behind"))
		fine(t, "Sync", c.v.Sync())
		c.point(x.id)
		noStore(t, x.name, c.d, x.code, x.within)
	}
	c.point(good)
	c.opens(0)
}

// wrong is a store that is made wrong: its table or its log are, or what the version says of them.
type wrong struct {
	*craft
	m    api.Meta
	logs []int
	seq  int
}

// batches makes a log with these batches the only one.
func (w *wrong) batches(l ...[]api.Entry) {
	w.t.Helper()
	var records []string
	for _, b := range l {
		records = append(records, batch(w.t, b...))
	}
	w.logs = []int{w.log(60, records...)}
}

// harm changes a byte of the table.
func (w *wrong) harm() {
	w.t.Helper()
	s, err := w.v.Read(w.m.ID, 0)
	fine(w.t, "Read", err)
	fine(w.t, "Write", w.v.Write(w.m.ID, 0, s[:20]+"?"+s[21:]))
	fine(w.t, "Sync", w.v.Sync())
}

// P17.1: a version whose files are not there, or are not what it says.
func TestOpenWithWrongFiles(t *testing.T) {
	a8, a9 := []api.Entry{of("a", 8)}, []api.Entry{of("a", 9)}
	for _, x := range []struct {
		name   string
		change func(w *wrong)
		code   api.Errno
		within int
	}{
		{"", func(w *wrong) {}, 0, 0},
		{"no table file", func(w *wrong) { w.m.ID = 99 }, api.ErrNone, 7},
		{"less than the least", func(w *wrong) { w.m.Min = "a" }, api.ErrForm, nothing},
		{"more than the least", func(w *wrong) { w.m.Min = "b\x00" }, api.ErrForm, nothing},
		{"less than the greatest", func(w *wrong) { w.m.Max = "e" }, api.ErrForm, nothing},
		{"more than the greatest", func(w *wrong) { w.m.Max = "f\x00" }, api.ErrForm, nothing},
		{"too few bytes", func(w *wrong) { w.m.Bytes-- }, api.ErrForm, bare},
		{"too many bytes", func(w *wrong) { w.m.Bytes++ }, api.ErrForm, bare},
		{"a sector too many", func(w *wrong) { w.m.Bytes += 64 }, api.ErrForm, nothing},
		{"very many bytes", func(w *wrong) { w.m.Bytes = api.MaxText }, api.ErrForm, nothing},
		{"another file", func(w *wrong) { w.m.ID = w.bytes(strings.Repeat("b", w.m.Bytes)) }, api.ErrForm, bare},
		{"a log as a table", func(w *wrong) { w.m.ID = w.log(60) }, api.ErrForm, bare},
		{"a harmed table", (*wrong).harm, api.ErrForm, bare},
		{"newer than the version", func(w *wrong) { w.seq = 6; w.batches() }, api.ErrForm, nothing},
		{"no log file", func(w *wrong) { w.logs = []int{98} }, api.ErrNone, nothing},
		{"a log of 59", func(w *wrong) { w.logs = []int{w.log(59)} }, api.ErrNone, nothing},
		{"a log of 61", func(w *wrong) { w.logs = []int{w.log(61)} }, api.ErrNone, nothing},
		{"one log of two", func(w *wrong) { w.logs = append(w.logs, w.log(61)) }, api.ErrNone, nothing},
		{"an empty record", func(w *wrong) { w.logs = []int{w.log(60, "")} }, api.ErrForm, bare},
		{"no batch at all", func(w *wrong) { w.logs = []int{w.log(60, "palinode")} }, api.ErrForm, bare},
		{"no entry", func(w *wrong) { w.batches(nil) }, api.ErrForm, nothing},
		{"a batch left out", func(w *wrong) { w.batches(a9) }, api.ErrForm, nothing},
		{"a second batch left out", func(w *wrong) { w.batches(a8, []api.Entry{of("a", 10)}) }, api.ErrForm, nothing},
		{"a batch of two numbers", func(w *wrong) { w.batches([]api.Entry{of("a", 8), of("b", 9)}) }, api.ErrForm, nothing},
		{"a batch of two versions", func(w *wrong) { w.batches([]api.Entry{of("a", 9), of("a", 8)}) }, api.ErrForm, nothing},
		{"logs the other way round", func(w *wrong) { w.batches(a9); w.logs = append(w.logs, w.log(60, batch(w.t, a8...))) }, api.ErrForm, nothing},
	} {
		c := newCraft(t)
		w := &wrong{c, c.table(0, of("b", 5), of("d", 7), of("d", 4), dropped("f", 6)), nil, 7}
		w.batches(a8)
		x.change(w)
		c.point(c.manifest(api.Edit{Add: []api.Meta{w.m}, AddLogs: w.logs, Seq: w.seq}))
		if x.name != "" {
			noStore(t, x.name, c.d, x.code, x.within)
			continue
		}
		c.opens(8, of("a", 8), of("b", 5), of("d", 7))
	}
}

// P17.1: a version that has its own manifest among its files is none of a store.
func TestOpenWithManifestInVersion(t *testing.T) {
	c := newCraft(t)
	log := c.log(60)
	// The next file is the manifest.
	c.point(c.manifest(api.Edit{AddLogs: []int{log, log + 1}}))
	noStore(t, "the manifest as a log", c.d, api.ErrNone, nothing)
	c = newCraft(t)
	log = c.log(60)
	c.point(c.manifest(api.Edit{AddLogs: []int{log}, Add: []api.Meta{{ID: log + 1, Level: 1, Min: "a", Max: "a", Bytes: 9}}}))
	noStore(t, "the manifest as a table", c.d, api.ErrForm, bare)
}

// P17.1: the mark of a record that would end behind the log's end is the mark of none; that of one that ends there is.
func TestOpenAtTheEndOfALog(t *testing.T) {
	for _, size := range []int{0, 2, 64, 57 * 64, 57*64 + 1, 58 * 64, 59 * 64, 60 * 64, 1<<31 - 1} {
		c := newCraft(t)
		id := c.log(60, batch(t, of("a", 1)))
		mark, err := wal.Mark(id, 1, size)
		fine(t, "Mark", err)
		fine(t, "Write", c.v.Write(id, 2, mark))
		c.point(c.manifest(api.Edit{AddLogs: []int{id}}))
		// Of the 60 sectors, 57 are left behind this mark, and what stands there is no batch.
		if size <= 57*64 {
			noStore(t, "a record of zero bytes", c.d, api.ErrForm, bare)
			continue
		}
		s := c.opens(1, of("a", 1))
		_, err = s.Write(puts("v", "b"))
		fine(t, "Write", err)
		c.opens(2, of("a", 1), of("b", 2))
	}
}

// P17.1: a log that is full.
func TestOpenOfAFullLog(t *testing.T) {
	c := newCraft(t)
	var records []string
	var want []api.Entry
	for i := range 30 {
		want = append(want, of(string([]byte{'a' + byte(i)}), i+1))
		records = append(records, batch(t, want[i]))
	}
	c.point(c.manifest(api.Edit{AddLogs: []int{c.log(60, records...)}}))
	s := c.opens(30, want...)
	_, err := s.Write(puts("v", "b"))
	refuses(t, "Write", err, api.ErrStall)
	_, err = s.Step()
	fine(t, "Step", err)
	c.opens(30, want...)
}

// P17.1: any sector of a store that is harmed makes it another one, or none, and never ends the program.
func TestOpenOfHarmedDisks(t *testing.T) {
	p := born(t, 400)
	for i := range 9 {
		p.put(strings.Repeat("v", i*20), "a", "b", string([]byte{'c' + byte(i)}))
		if i%2 == 0 {
			p.flush()
		}
	}
	sectors := all(t, p.d)
	opened := 0
	for at := range sectors {
		for _, junk := range []string{"", strings.Repeat("\xff", 64), sectors[at][:33], "\x00" + sectors[at][1:], sectors[at][:63] + "\x01"} {
			d := diskOf(t, sectors)
			fine(t, "Write to the disk", d.Write(at, junk))
			fine(t, "Sync of the disk", d.Sync())
			s, err := store.Open(d)
			if err == nil {
				opened++
				_, err = s.Scan("", "", 9, 99)
				fine(t, "Scan", err)
				s.Want()
				for range 9 {
					_, err = s.Step()
					fine(t, "Step", err)
				}
				clean(t, d, s)
				continue
			}
			if code := err.(*api.Fault).Code; s != nil || code != api.ErrForm && code != api.ErrNone {
				t.Fatalf("sector %d: Open = %v, %v", at, s, err)
			}
		}
	}
	if opened < 300 || opened > 5*len(sectors)-50 {
		t.Errorf("%d of %d harmed disks have a store", opened, 5*len(sectors))
	}
}

// P17.1: Open has the errors of the volume.
func TestOpenOfNoVolume(t *testing.T) {
	s, err := store.Open(newDisk(t, 17))
	wraps(t, "Open of a disk of 17 sectors", err, api.ErrArg, 7)
	if s != nil {
		t.Errorf("Open = %v", s)
	}
	s, err = store.Open(newDisk(t, 18))
	wraps(t, "Open of an empty disk", err, api.ErrNone, 7)
	if s != nil {
		t.Errorf("Open = %v", s)
	}
	p := born(t, 300)
	p.d.Fuse(0)
	p.d.Write(0, "x")
	s, err = store.Open(p.d)
	wraps(t, "Open without power", err, api.ErrDown, 7)
	if s != nil {
		t.Errorf("Open = %v", s)
	}
}
