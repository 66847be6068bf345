package mem_test

import (
	"bytes"
	"math/rand"
	"slices"
	"testing"

	"palinode/api"
	"palinode/mem"
)

// model is a table as the chapter's words say, with nothing done quickly: the entries, in the order in which they came.
type model struct{ entries []api.Entry }

// valid tells whether an entry may be put, limit by limit.
func valid(e api.Entry) bool {
	key := len(e.Key) >= 1 && len(e.Key) <= 80
	value := len(e.Value) <= 300
	seq := e.Seq >= 1 && e.Seq <= 9007199254740991
	return key && value && seq && !(e.Drop && e.Value != "")
}

// compare is less than 0 if a comes before b, byte by byte of their keys, then the greater number first.
func compare(a, b api.Entry) int {
	switch c := bytes.Compare([]byte(a.Key), []byte(b.Key)); {
	case c != 0:
		return c
	case a.Seq > b.Seq:
		return -1
	case a.Seq < b.Seq:
		return 1
	}
	return 0
}

func (m *model) put(e api.Entry) error {
	if !valid(e) {
		return api.ErrArg
	}
	for _, old := range m.entries {
		if old.Key == e.Key && old.Seq == e.Seq {
			return api.ErrExists
		}
	}
	m.entries = append(m.entries, e)
	return nil
}

func (m *model) get(key string, seq int) (api.Entry, bool) {
	var best api.Entry
	found := false
	for _, e := range m.entries {
		if e.Key == key && e.Seq <= seq && e.Seq > best.Seq {
			best, found = e, true
		}
	}
	return best, found
}

func (m *model) all() []api.Entry {
	out := slices.Clone(m.entries)
	slices.SortFunc(out, compare)
	return out
}

func (m *model) size() int {
	size := 0
	for _, e := range m.entries {
		size += len(e.Key) + len(e.Value) + 16
	}
	return size
}

// script reads bytes as calls; with no bytes left it gives zeros.
type script struct{ b []byte }

func (s *script) next() int {
	if len(s.b) == 0 {
		return 0
	}
	c := s.b[0]
	s.b = s.b[1:]
	return int(c)
}

// text is a short string of few different bytes, so that the keys meet again; at times a long one, near the limit or one beyond it.
func (s *script) text(limit int) string {
	alphabet := []byte{0, 1, 2, 'v', 0xff}
	size := s.next() % 16
	if size >= 12 {
		return string(bytes.Repeat([]byte{alphabet[s.next()%len(alphabet)]}, limit-14+size))
	}
	out := make([]byte, size%4)
	for i := range out {
		out[i] = alphabet[s.next()%len(alphabet)]
	}
	return string(out)
}

// seq is a number, mostly a small one, at times one near the limits.
func (s *script) seq() int {
	c := s.next()
	switch c >> 5 {
	case 7:
		return api.MaxNumber - 16 + c&31
	case 6:
		return c&31 - 16
	case 5:
		return 1 << (c & 31 * 2)
	}
	return c & 7
}

// entry is an entry, at times one that is not valid.
func (s *script) entry() api.Entry {
	e := api.Entry{Key: s.text(api.MaxKey), Seq: s.seq()}
	switch s.next() % 8 {
	case 0, 1:
		e.Drop = true
	case 2:
		e.Drop = true
		fallthrough
	default:
		e.Value = s.text(api.MaxValue)
	}
	return e
}

// same holds what the table tells of a key up to a number against the model.
func same(t *testing.T, m *mem.Table, p *model, key string, seq int) {
	t.Helper()
	got, ok := m.Get(key, seq)
	if want, has := p.get(key, seq); got != want || ok != has {
		t.Fatalf("Get(%q, %d) = %v, %t; want %v, %t", key, seq, got, ok, want, has)
	}
}

// sameWhole holds what the table tells of itself against the model.
func sameWhole(t *testing.T, m *mem.Table, p *model) {
	t.Helper()
	if got, want := m.All(), p.all(); !slices.Equal(got, want) {
		t.Fatalf("All() = %v; want %v", got, want)
	}
	if m.Size() != p.size() || m.Len() != len(p.entries) {
		t.Fatalf("Size() = %d, Len() = %d; want %d, %d", m.Size(), m.Len(), p.size(), len(p.entries))
	}
}

// play makes the script's calls on a table and on the model, and holds what they answer against each other (P10.1, P10.2).
func play(t *testing.T, b []byte) {
	s := &script{b}
	heights := make([]int, s.next()%8)
	for i := range heights {
		heights[i] = s.next()%17 - 2
	}
	m, p := mem.New(heights), &model{}
	last := api.Entry{}
	for len(s.b) > 0 {
		e := s.entry()
		if got := mem.Right(e); got != valid(e) {
			t.Fatalf("Right(%v) = %t", e, got)
		}
		if got := mem.Before(e, last); got != (compare(e, last) < 0) {
			t.Fatalf("Before(%v, %v) = %t", e, last, got)
		}
		if got, want := m.Put(e), p.put(e); got != want {
			t.Fatalf("Put(%v) = %v; want %v", e, got, want)
		}
		for _, near := range []int{-1, 0, 1} {
			same(t, m, p, e.Key, e.Seq+near)
		}
		same(t, m, p, s.text(api.MaxKey), s.seq())
		sameWhole(t, m, p)
		last = e
	}
	for _, e := range p.entries {
		same(t, m, p, e.Key, e.Seq)
		same(t, m, p, e.Key, e.Seq-1)
	}
}

// P10.1, P10.2: long scripts of calls in no order, the same ones each time.
func TestScripts(t *testing.T) {
	source := rand.New(rand.NewSource(10))
	for range 1500 {
		b := make([]byte, source.Intn(400))
		source.Read(b)
		play(t, b)
	}
}

// P10.1, P10.2: whatever the fuzzer finds (without it, the seeds).
func FuzzScript(f *testing.F) {
	f.Add([]byte{})
	f.Add([]byte("\x02\x04\x03\x01\x03\x01\x03\x01\x03\x00\x01\x03\x02\x01\x03\x03\x00\x01\x03\x00"))
	f.Add([]byte("\x00\x01\x00\x01\x03\x00\x00\x00\x02\x00\x00\x01\x00\x00\x00\x02\x00\x01\x01\x00\x00\x00\x0f\x00\xf0\x03\x0e\x00\x00\xef"))
	f.Fuzz(play)
}

// P10.1, P10.2: every order in which six entries of three keys may come.
func TestEveryOrder(t *testing.T) {
	entries := []api.Entry{kept("\x00", 1, "p"), gone("\x00", 2), kept("\x00\x00", 1, ""), gone("\x00\x00", 256), kept("\x01", 1, "v"), kept("\x01", api.MaxNumber, "q")}
	orders(len(entries), func(order []int) {
		for _, heights := range [][]int{nil, {2, 1}, {1, 1, 3}} {
			m, p := mem.New(heights), &model{}
			for _, i := range order {
				if got, want := m.Put(entries[i]), p.put(entries[i]); got != want {
					t.Fatalf("%v: Put(%v) = %v; want %v", order, entries[i], got, want)
				}
				sameWhole(t, m, p)
			}
			for _, key := range []string{"", "\x00", "\x00\x00", "\x00\x01", "\x01", "\x01\x00", "\x02"} {
				for _, seq := range []int{0, 1, 2, 255, 256, api.MaxNumber} {
					same(t, m, p, key, seq)
				}
			}
		}
	})
}

// orders gives each order of the numbers below many.
func orders(many int, yield func(order []int)) {
	order := make([]int, many)
	for i := range order {
		order[i] = i
	}
	var walk func(from int)
	walk = func(from int) {
		if from == many {
			yield(order)
			return
		}
		for i := from; i < many; i++ {
			order[from], order[i] = order[i], order[from]
			walk(from + 1)
			order[from], order[i] = order[i], order[from]
		}
	}
	walk(0)
}
