package wal_test

import (
	"math/rand"
	"slices"
	"strings"
	"testing"

	"palinode/api"
	"palinode/disk"
	"palinode/volume"
	"palinode/wal"
)

// answer is what a call answers, as the chapter's words say: its records, its error's number (0: none), whether that comes from the volume.
type answer struct {
	records []string
	code    api.Errno
	within  bool
}

// model is a log as the chapter's words say, with nothing done quickly, in a volume on a disk of its own.
type model struct {
	v       *volume.Volume
	id      int
	records []string
	total   int // sectors of the file
}

// of is what is answered to an error of the volume, or to none.
func of(err error) answer {
	f, ok := err.(*api.Fault)
	if !ok {
		return answer{}
	}
	return answer{code: f.Code, within: true}
}

// sectors is how many sectors the model's records have.
func (m *model) sectors() int {
	n := 0
	for _, s := range m.records {
		for n++; s != ""; n++ {
			s = s[min(64, len(s)):]
		}
	}
	return n
}

// room is how long the next record may be.
func (m *model) room() int {
	left := m.total - m.sectors()
	if left == 0 {
		return -1
	}
	return 64*left - 64
}

// wipe writes the empty string to the sectors from one on, and syncs.
func (m *model) wipe(from int) answer {
	for at := from; at < m.total; at++ {
		if err := m.v.Write(m.id, at, ""); err != nil {
			return of(err)
		}
	}
	return of(m.v.Sync())
}

// modelOf is a model without records in a file; if that is not there it has no sectors.
func modelOf(v *volume.Volume, id int) *model {
	m := &model{v: v, id: id}
	for _, f := range v.Root().Files {
		if f.ID == id {
			m.total = f.Many
		}
	}
	return m
}

func modelLay(v *volume.Volume, id int) (*model, answer) {
	m := modelOf(v, id)
	if m.total == 0 {
		return nil, of(v.Write(id, 0, ""))
	}
	if a := m.wipe(0); a.code != 0 {
		return nil, a
	}
	return m, answer{}
}

func modelOpen(v *volume.Volume, id int) (*model, answer) {
	m := modelOf(v, id)
	if _, err := v.Read(id, 0); err != nil {
		return nil, of(err)
	}
	var all []string
	for at := range m.total {
		s, err := v.Read(id, at)
		if err != nil {
			return nil, of(err)
		}
		all = append(all, s)
	}
	at := 0
	for at < m.total {
		size := 0
		for _, c := range []byte(all[at][13:17]) {
			size = size*256 + int(c)
		}
		bytes := strings.Join(all[at+1:], "")
		if all[at] != raw(id, len(m.records), size) || size >= 1<<31 || size > len(bytes) {
			break
		}
		m.records = append(m.records, bytes[:size])
		at = m.sectors()
	}
	if at < m.total {
		if a := m.wipe(at); a.code != 0 {
			return nil, a
		}
	}
	return m, answer{records: m.records}
}

func (m *model) append(s string) answer {
	if len(s) > m.room() {
		return answer{code: api.ErrFull}
	}
	first := m.sectors()
	for at, rest := first+1, s; rest != ""; at++ {
		n := min(64, len(rest))
		if err := m.v.Write(m.id, at, rest[:n]); err != nil {
			return of(err)
		}
		rest = rest[n:]
		if rest == "" {
			if err := m.v.Sync(); err != nil {
				return of(err)
			}
		}
	}
	if err := m.v.Write(m.id, first, raw(m.id, len(m.records), len(s))); err != nil {
		return of(err)
	}
	if err := m.v.Sync(); err != nil {
		return of(err)
	}
	m.records = append(m.records, s)
	return answer{}
}

// pair is logs and the models, on two disks; each log is in a file of its own, or in that of another one.
type pair struct {
	d, md  *disk.Disk
	v, mv  *volume.Volume
	logs   []*wal.Log
	models []*model
}

// agrees holds a call's answer against the model's.
func agrees(t *testing.T, name string, records []string, err error, want answer) {
	t.Helper()
	switch {
	case want.code == 0:
		fine(t, name, err)
	case want.within:
		f := fault(t, name, err, want.code)
		if inner, ok := f.Inner.(*api.Fault); !ok || inner.Layer != 7 || inner.Code != want.code {
			t.Fatalf("%s: %v; want the volume's error within", name, err)
		}
	default:
		full(t, name, err)
	}
	if !slices.Equal(records, want.records) {
		t.Fatalf("%s: %q; want %q", name, records, want.records)
	}
}

// same holds all that is to be seen of the logs and the disk against the models and theirs.
func (p *pair) same(t *testing.T) {
	t.Helper()
	for i, l := range p.logs {
		has(t, l, len(p.models[i].records), p.models[i].room())
	}
	if p.v.Dead() != p.mv.Dead() || p.d.Down() != p.md.Down() {
		t.Fatalf("dead %t, down %t; want %t, %t", p.v.Dead(), p.d.Down(), p.mv.Dead(), p.md.Down())
	}
	if p.d.Down() {
		if p.d.Writes() != p.md.Writes() {
			t.Fatalf("%d writes; want %d", p.d.Writes(), p.md.Writes())
		}
		return
	}
	same(t, "script", p.d, all(t, p.md), p.md.Writes())
}

// take makes a log one of the pair's, if there is one; of many only the last ones are kept.
func (p *pair) take(t *testing.T, l *wal.Log, m *model) {
	t.Helper()
	if (l == nil) != (m == nil) {
		t.Fatalf("a log: %t; want %t", l != nil, m != nil)
	}
	if l == nil {
		return
	}
	p.logs, p.models = append(p.logs, l), append(p.models, m)
	if n := len(p.logs) - 4; n > 0 {
		p.logs, p.models = p.logs[n:], p.models[n:]
	}
}

// script reads bytes as calls; with no bytes left it gives zeros.
type script struct{ b []byte }

func (s *script) next() int {
	if len(s.b) == 0 {
		return 0
	}
	c := s.b[0]
	s.b = s.b[1:]
	return int(c)
}

// text is a string, at times of marks.
func (s *script) text(id int) string {
	size, kind := s.next(), s.next()
	if kind%4 > 0 {
		return strings.Repeat(string([]byte{byte(kind)}), size*(1+kind%2))
	}
	return strings.Repeat(raw(id, kind/4%8, size%100), 1+size%3)
}

// play makes the script's calls on logs and on the models, and holds what they answer, and what is then on the disk, against each other (P8.1 to P8.4).
func play(t *testing.T, b []byte) {
	s := &script{b}
	one, two := 1+s.next()%12, 1+s.next()%5
	p := &pair{}
	p.d, p.v = newVolume(t, one, two)
	p.md, p.mv = newVolume(t, one, two)
	for len(s.b) > 0 {
		id := 1 + s.next()%5%3
		switch kind := s.next() % 12; {
		case kind == 0:
			l, err := wal.Lay(p.v, id)
			m, want := modelLay(p.mv, id)
			agrees(t, "Lay", nil, err, want)
			p.take(t, l, m)
		case kind < 3:
			records, l, err := wal.Open(p.v, id)
			m, want := modelOpen(p.mv, id)
			agrees(t, "Open", records, err, want)
			p.take(t, l, m)
		case kind < 5:
			p.below(t, s, id)
		case len(p.logs) > 0:
			i, text := s.next()%len(p.logs), s.text(id)
			agrees(t, "Append", nil, p.logs[i].Append(text), p.models[i].append(text))
		}
		p.same(t)
	}
}

// below does something to the disk or the volume.
func (p *pair) below(t *testing.T, s *script, id int) {
	t.Helper()
	switch kind := s.next() % 8; kind {
	case 0, 1:
		n := s.next()%12 - 1
		p.d.Fuse(n)
		p.md.Fuse(n)
	case 2, 3:
		at, text := s.next()%8, s.text(id)
		text = text[:min(64, len(text))]
		one, two := p.v.Write(id, at, text), p.mv.Write(id, at, text)
		if (one == nil) != (two == nil) {
			t.Fatalf("Write: %v; want %v", one, two)
		}
	case 4:
		p.v.Drop([]int{id})
		p.mv.Drop([]int{id})
	case 5:
		many := s.next() % 6
		p.v.Make(many)
		p.mv.Make(many)
	default:
		p.strike(t, s)
	}
}

// strike lets the power fail, and opens the volumes anew.
func (p *pair) strike(t *testing.T, s *script) {
	t.Helper()
	f := failure{kept: s.next() | s.next()<<8, torn: s.next()%8 - 1, bytes: s.next() % 65}
	f.crash(p.d)
	f.crash(p.md)
	if s.next()%4 > 0 { // without that the logs go on, if the volume has not noticed
		p.v, p.mv = reopen(t, p.d), reopen(t, p.md)
	}
}

// P8.1 to P8.4: long scripts of calls in no order, the same ones each time.
func TestScripts(t *testing.T) {
	source := rand.New(rand.NewSource(81))
	for range 3000 {
		b := make([]byte, source.Intn(400))
		source.Read(b)
		play(t, b)
	}
}

// P8.1 to P8.4: whatever the fuzzer finds (without it, the seeds).
func FuzzScript(f *testing.F) {
	f.Add([]byte{})
	f.Add([]byte("\x08\x02\x00\x00\x00\x05\x00\x02\x01\x00\x05\x00\x41\x01\x00\x01"))
	f.Add([]byte("\x08\x02\x00\x00\x00\x05\x00\x02\x04\x00\x03\x00\x01\x00\x05\x00\x41\x01\x00\x03\x06\x03\x00\x00\x09\x01\x00\x01"))
	f.Add([]byte("\x08\x02\x01\x00\x01\x03\x02\x00\x00\x00\x01\x01"))
	f.Fuzz(play)
}
