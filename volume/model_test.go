package volume_test

import (
	"math/rand"
	"slices"
	"strings"
	"testing"

	"palinode/api"
	"palinode/disk"
	"palinode/root"
	"palinode/volume"
)

// answer is what a call answers, as the chapter's words say: its result, its error's number (0: none), whether that comes from the disk.
type answer struct {
	id     int
	s      string
	code   api.Errno
	within bool
}

// model is a volume as the chapter's words say, with nothing done quickly, on a disk of its own. Its files are by their IDs.
type model struct {
	d                  *disk.Disk
	seq, next, current int
	files              map[int]api.Run
	dead               bool
}

// own is an answer that is an error of the volume's own.
func own(code api.Errno) answer { return answer{code: code} }

// of is what is answered to an error of the disk, or to none.
func (m *model) of(err error) answer {
	code, _ := err.(api.Errno)
	if code == api.ErrDown {
		*m = model{d: m.d, dead: true}
	}
	return answer{code: code, within: code != 0}
}

// root is the model's root: the files in ascending order of their IDs.
func (m *model) root() api.Root {
	r := api.Root{Seq: m.seq, Next: m.next, Current: m.current}
	for id, run := range m.files {
		r.Files = append(r.Files, api.File{ID: id, At: run.At, Many: run.Many})
	}
	slices.SortFunc(r.Files, func(a, b api.File) int { return a.ID - b.ID })
	return r
}

// set makes r the model's root.
func (m *model) set(r api.Root) {
	m.seq, m.next, m.current, m.files = r.Seq, r.Next, r.Current, map[int]api.Run{}
	for _, f := range r.Files {
		m.files[f.ID] = api.Run{At: f.At, Many: f.Many}
	}
}

// store makes r the root on the disk, and then the model's.
func (m *model) store(r api.Root) answer {
	b, _ := root.Encode(m.d.Size(), r)
	head, _ := root.Head(r.Seq, len(b))
	first := 0
	if r.Seq%2 == 1 {
		first = 9
	}
	for sector := first + 1; b != ""; sector++ {
		piece := b
		if len(piece) > 64 {
			piece = piece[:64]
		}
		b = b[len(piece):]
		if err := m.d.Write(sector, piece); err != nil {
			return m.of(err)
		}
	}
	if err := m.d.Sync(); err != nil {
		return m.of(err)
	}
	if err := m.d.Write(first, head); err != nil {
		return m.of(err)
	}
	if err := m.d.Sync(); err != nil {
		return m.of(err)
	}
	m.set(r)
	return answer{}
}

func modelFormat(d *disk.Disk) (*model, answer) {
	m := &model{d: d}
	if d.Size() < 18 {
		return nil, own(api.ErrArg)
	}
	for _, err := range []error{d.Write(0, ""), d.Write(9, ""), d.Sync()} {
		if err != nil {
			return nil, m.of(err)
		}
	}
	a := m.store(api.Root{Seq: 1, Next: 1})
	if a.code != 0 {
		return nil, a
	}
	return m, a
}

func modelOpen(d *disk.Disk) (*model, answer) {
	if d.Size() < 18 {
		return nil, own(api.ErrArg)
	}
	if d.Down() {
		return nil, (&model{}).of(api.ErrDown)
	}
	var valid []api.Root
	for _, first := range []int{0, 9} {
		head, _ := d.Read(first)
		seq, size, err := root.ReadHead(head)
		if err != nil {
			continue
		}
		bytes := ""
		for sector := first + 1; sector < first+9; sector++ {
			s, _ := d.Read(sector)
			bytes += s
		}
		if r, err := root.Decode(d.Size(), bytes[:size]); err == nil && r.Seq == seq {
			valid = append(valid, r)
		}
	}
	m := &model{d: d}
	switch {
	case len(valid) == 0:
		return nil, own(api.ErrNone)
	case len(valid) == 2 && valid[1].Seq > valid[0].Seq:
		m.set(valid[1])
	default:
		m.set(valid[0])
	}
	return m, answer{}
}

// fit is the first sector with so many free ones from it on; -1 if there is none.
func (m *model) fit(many int) int {
	taken := make([]bool, m.d.Size())
	for sector := range 18 {
		taken[sector] = true
	}
	for _, run := range m.files {
		for i := range run.Many {
			taken[run.At+i] = true
		}
	}
	for at := range taken {
		if many <= len(taken)-at && !slices.Contains(taken[at:at+many], true) {
			return at
		}
	}
	return -1
}

func (m *model) make(many int) answer {
	switch {
	case m.dead:
		return own(api.ErrDown)
	case many < 1:
		return own(api.ErrArg)
	case len(m.files) == 24 || m.fit(many) == -1:
		return own(api.ErrFull)
	case m.seq == 1<<53-1 || m.next == 1<<53-1:
		return own(api.ErrLong)
	}
	r := m.root()
	r.Files = append(r.Files, api.File{ID: r.Next, At: m.fit(many), Many: many})
	r.Seq++
	r.Next++
	a := m.store(r)
	if a.code == 0 {
		a.id = r.Next - 1
	}
	return a
}

func (m *model) drop(ids []int) answer {
	if m.dead {
		return own(api.ErrDown)
	}
	times := map[int]int{}
	for _, id := range ids {
		times[id]++
		if _, ok := m.files[id]; !ok || times[id] > 1 {
			return own(api.ErrNone)
		}
	}
	switch {
	case times[m.current] > 0:
		return own(api.ErrArg)
	case len(ids) == 0:
		return answer{}
	case m.seq == 1<<53-1:
		return own(api.ErrLong)
	}
	r := m.root()
	r.Seq++
	r.Files = slices.DeleteFunc(r.Files, func(f api.File) bool { return times[f.ID] > 0 })
	return m.store(r)
}

func (m *model) point(id int) answer {
	if m.dead {
		return own(api.ErrDown)
	}
	if _, ok := m.files[id]; !ok {
		return own(api.ErrNone)
	}
	if m.seq == 1<<53-1 {
		return own(api.ErrLong)
	}
	r := m.root()
	r.Seq++
	r.Current = id
	return m.store(r)
}

// inFile is what is answered to a call about a sector of a file that can't be had.
func (m *model) inFile(id, at int) answer {
	run, ok := m.files[id]
	switch {
	case m.dead:
		return own(api.ErrDown)
	case !ok:
		return own(api.ErrNone)
	case at < 0 || at >= run.Many:
		return own(api.ErrArg)
	}
	return answer{}
}

func (m *model) read(id, at int) answer {
	if a := m.inFile(id, at); a.code != 0 {
		return a
	}
	s, err := m.d.Read(m.files[id].At + at)
	a := m.of(err)
	a.s = s
	return a
}

func (m *model) write(id, at int, s string) answer {
	if a := m.inFile(id, at); a.code != 0 {
		return a
	}
	return m.of(m.d.Write(m.files[id].At+at, s))
}

func (m *model) sync() answer {
	if m.dead {
		return own(api.ErrDown)
	}
	return m.of(m.d.Sync())
}

// pair is a volume and the model, each on its own disk; a pair may have no volume.
type pair struct {
	d, md *disk.Disk
	v     *volume.Volume
	m     *model
}

// agrees holds a call's answer against the model's.
func agrees(t *testing.T, name string, id int, s string, err error, want answer) {
	t.Helper()
	switch {
	case want.code == 0:
		fine(t, name, err)
	case want.within:
		wraps(t, name, err, want.code)
	default:
		refuses(t, name, err, want.code)
	}
	if id != want.id || s != want.s {
		t.Fatalf("%s = %d, %q; want %d, %q", name, id, s, want.id, want.s)
	}
}

// same holds all that is to be seen of a volume and its disk against the model and its own.
func (p *pair) same(t *testing.T) {
	t.Helper()
	if p.v != nil && (p.v.Dead() != p.m.dead || !same(p.v.Root(), p.m.root())) {
		t.Fatalf("dead %t, %v; want %t, %v", p.v.Dead(), p.v.Root(), p.m.dead, p.m.root())
	}
	if p.d.Down() != p.md.Down() || p.d.Writes() != p.md.Writes() {
		t.Fatalf("down %t, %d writes; want %t, %d", p.d.Down(), p.d.Writes(), p.md.Down(), p.md.Writes())
	}
	if p.d.Down() {
		return
	}
	if l := changed(t, p.d, all(t, p.md)); l != nil {
		t.Fatalf("sectors %d are not as they should be", l)
	}
}

// script reads bytes as calls; with no bytes left it gives zeros.
type script struct{ b []byte }

func (s *script) next() int {
	if len(s.b) == 0 {
		return 0
	}
	c := s.b[0]
	s.b = s.b[1:]
	return int(c)
}

// id is a number that is mostly a file's, if there are any.
func (s *script) id(m *model) int {
	l := m.root().Files
	n := s.next()
	if len(l) == 0 || n%8 == 0 {
		return n / 8
	}
	return l[n/8%len(l)].ID
}

// text is a string of one byte, seldom too long for a sector.
func (s *script) text() string {
	size := s.next() % 70
	return strings.Repeat(string([]byte{byte(s.next())}), size)
}

// play makes the script's calls on a volume and on the model, and holds what they answer, and what is then on the disk, against each other (P7.1 to P7.5).
func play(t *testing.T, b []byte) {
	s := &script{b}
	total := s.next()%40 + 15
	p := &pair{d: newDisk(t, total), md: newDisk(t, total)}
	p.arrange(t, s)
	for len(s.b) > 0 {
		if p.v == nil || s.next()%6 == 0 {
			p.below(t, s)
		} else {
			p.call(t, s)
		}
		p.same(t)
	}
}

// arrange lays a root into the slots, or makes a new volume.
func (p *pair) arrange(t *testing.T, s *script) {
	t.Helper()
	switch kind := s.next() % 6; kind {
	case 0, 1:
		r := api.Root{Seq: api.MaxNumber - s.next()%6, Next: api.MaxNumber - s.next()%6}
		if kind == 1 {
			r = api.Root{Seq: 1 + s.next(), Next: 9}
		}
		if b, err := root.Encode(p.d.Size(), r); err == nil && p.d.Size() > 18 {
			head, _ := root.Head(r.Seq, len(b))
			slot := s.next() % 2
			lay(t, p.d, slot, head, b)
			lay(t, p.md, slot, head, b)
		}
		p.open(t)
	case 2:
		p.open(t)
	default:
		p.format(t)
	}
	p.same(t)
}

func (p *pair) open(t *testing.T) {
	t.Helper()
	v, err := volume.Open(p.d)
	m, want := modelOpen(p.md)
	agrees(t, "Open", 0, "", err, want)
	p.take(t, v, m)
}

func (p *pair) format(t *testing.T) {
	t.Helper()
	v, err := volume.Format(p.d)
	m, want := modelFormat(p.md)
	agrees(t, "Format", 0, "", err, want)
	p.take(t, v, m)
}

// take makes a volume the pair's, if there is one.
func (p *pair) take(t *testing.T, v *volume.Volume, m *model) {
	t.Helper()
	if (v == nil) != (m == nil) {
		t.Fatalf("a volume: %t; want %t", v != nil, m != nil)
	}
	if v != nil {
		p.v, p.m = v, m
	}
}

// below does something to the disk, or makes another volume on it.
func (p *pair) below(t *testing.T, s *script) {
	t.Helper()
	kind := s.next() % 10
	switch kind {
	case 0:
		p.format(t)
	case 1, 2:
		p.open(t)
	case 3, 4:
		n := s.next()%12 - 1
		p.d.Fuse(n)
		p.md.Fuse(n)
	case 5: // what some slot is, or is made to be
		sector, text := s.next()%18, s.text()
		if s.next()%2 == 0 {
			sector = sector / 9 * 9
			text, _ = root.Head(s.next()%8, s.next()%30)
		}
		p.d.Write(sector, text)
		p.md.Write(sector, text)
	default:
		keeps := make([]int, s.next()%8)
		for i := range keeps {
			keeps[i] = s.next()
		}
		torn, size := s.next()%8-1, s.next()%65
		p.d.Crash(keeps, torn, size)
		p.md.Crash(keeps, torn, size)
		if kind > 6 {
			p.open(t)
		}
	}
}

// call makes a call of the volume.
func (p *pair) call(t *testing.T, s *script) {
	t.Helper()
	switch s.next() % 8 {
	case 0, 1, 2:
		many := s.next()%12 - 1
		id, err := p.v.Make(many)
		agrees(t, "Make", id, "", err, p.m.make(many))
	case 3:
		ids := make([]int, s.next()%4)
		for i := range ids {
			ids[i] = s.id(p.m)
		}
		agrees(t, "Drop", 0, "", p.v.Drop(ids), p.m.drop(ids))
	case 4:
		id := s.id(p.m)
		agrees(t, "Point", 0, "", p.v.Point(id), p.m.point(id))
	case 5:
		id, at := s.id(p.m), s.next()%12-1
		text, err := p.v.Read(id, at)
		agrees(t, "Read", 0, text, err, p.m.read(id, at))
	case 6:
		id, at, text := s.id(p.m), s.next()%12-1, s.text()
		agrees(t, "Write", 0, "", p.v.Write(id, at, text), p.m.write(id, at, text))
	case 7:
		agrees(t, "Sync", 0, "", p.v.Sync(), p.m.sync())
	}
}

// P7.1 to P7.5: long scripts of calls in no order, the same ones each time.
func TestScripts(t *testing.T) {
	source := rand.New(rand.NewSource(71))
	for range 1500 {
		b := make([]byte, source.Intn(500))
		source.Read(b)
		play(t, b)
	}
}

// P7.1 to P7.5: whatever the fuzzer finds (without it, the seeds).
func FuzzScript(f *testing.F) {
	f.Add([]byte{})
	f.Add([]byte("\x0f\x05\x01\x00\x06\x01\x00\x09\x01\x00\x04\x01\x03\x01\x01\x01\x00\x05"))
	f.Add([]byte("\x1f\x00\x01\x02\x00\x01\x01\x04\x01\x04\x09\x01\x03\x01\x09"))
	f.Add([]byte("\x1f\x05\x01\x00\x03\x00\x03\x02\x01\x00\x03\x00\x08\x03\x01\x00\x01\x01\x20\x01\x00\x04"))
	f.Fuzz(play)
}
