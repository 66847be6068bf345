package skip_test

import (
	"bytes"
	"math/rand"
	"slices"
	"testing"

	"palinode/api"
	"palinode/skip"
)

// held is a key as the model keeps it.
type held struct {
	key, value string
	height     int
}

// model is a list as the chapter's words say, with nothing done quickly: the keys, in the order in which they came.
type model struct{ held []held }

// less tells whether a comes before b.
func less(a, b string) bool { return bytes.Compare([]byte(a), []byte(b)) < 0 }

func (m *model) find(key string) *held {
	for i := range m.held {
		if m.held[i].key == key {
			return &m.held[i]
		}
	}
	return nil
}

func (m *model) put(key, value string, height int) bool {
	if e := m.find(key); e != nil {
		e.value = value
		return false
	}
	m.held = append(m.held, held{key, value, clamped(height)})
	return true
}

func (m *model) seek(key string) *held {
	var best *held
	for i := range m.held {
		e := &m.held[i]
		if !less(e.key, key) && (best == nil || less(e.key, best.key)) {
			best = e
		}
	}
	return best
}

func (m *model) lane(h int) []string {
	var keys []string
	for _, e := range m.held {
		if e.height > h {
			keys = append(keys, e.key)
		}
	}
	slices.SortFunc(keys, func(a, b string) int { return bytes.Compare([]byte(a), []byte(b)) })
	return keys
}

// same holds what the list tells against the model, about all lanes and about these keys.
func same(t *testing.T, l *skip.List, m *model, keys []string) {
	t.Helper()
	if l.Len() != len(m.held) {
		t.Fatalf("Len() = %d; want %d", l.Len(), len(m.held))
	}
	for h := -2; h <= api.MaxHeight+1; h++ {
		if got, want := l.Lane(h), m.lane(h); !slices.Equal(got, want) {
			t.Fatalf("Lane(%d) = %q; want %q", h, got, want)
		}
	}
	for _, key := range keys {
		sameKey(t, l, m, key)
	}
}

// sameKey holds what the list tells about a key against the model.
func sameKey(t *testing.T, l *skip.List, m *model, key string) {
	t.Helper()
	var e held
	there := m.find(key)
	if there != nil {
		e = *there
	}
	if got, ok := l.Get(key); got != e.value || ok != (there != nil) {
		t.Fatalf("Get(%q) = %q, %t; want %q, %t", key, got, ok, e.value, there != nil)
	}
	if got := l.Height(key); got != e.height {
		t.Fatalf("Height(%q) = %d; want %d", key, got, e.height)
	}
	e = held{}
	next := m.seek(key)
	if next != nil {
		e = *next
	}
	if k, v, ok := l.Seek(key); k != e.key || v != e.value || ok != (next != nil) {
		t.Fatalf("Seek(%q) = %q, %q, %t; want %q, %q, %t", key, k, v, ok, e.key, e.value, next != nil)
	}
}

// script reads bytes as calls; with no bytes left it gives zeros.
type script struct{ b []byte }

func (s *script) next() int {
	if len(s.b) == 0 {
		return 0
	}
	c := s.b[0]
	s.b = s.b[1:]
	return int(c)
}

// text is a short string of few different bytes, so that the keys meet again.
func (s *script) text() string {
	alphabet := []byte{0, 'a', 'b', 0xff}
	out := make([]byte, s.next()%4)
	for i := range out {
		out[i] = alphabet[s.next()%len(alphabet)]
	}
	return string(out)
}

// play makes the script's calls on a list and on the model, and holds what they answer against each other (P9.1, P9.2).
func play(t *testing.T, b []byte) {
	s := &script{b}
	l, m := skip.New(), &model{}
	var keys []string
	for len(s.b) > 0 {
		key, value, height := s.text(), s.text(), s.next()%17-2
		if got, want := l.Put(key, value, height), m.put(key, value, height); got != want {
			t.Fatalf("Put(%q, %q, %d) = %t; want %t", key, value, height, got, want)
		}
		keys = append(keys, key)
		same(t, l, m, []string{key, key + "\x00", s.text()})
	}
	same(t, l, m, keys)
}

// P9.1, P9.2: long scripts of calls in no order, the same ones each time.
func TestScripts(t *testing.T) {
	source := rand.New(rand.NewSource(9))
	for range 1500 {
		b := make([]byte, source.Intn(400))
		source.Read(b)
		play(t, b)
	}
}

// P9.1, P9.2: whatever the fuzzer finds (without it, the seeds).
func FuzzScript(f *testing.F) {
	f.Add([]byte{})
	f.Add([]byte("\x01\x02\x01\x01\x05\x00\x01\x01\x01\x02\x03\x00\x01\x02\x01\x03\x0b\x00"))
	f.Add([]byte("\x00\x00\x10\x00\x01\x00\x00\x00\x02\x00\x00\x00\x02\x00\x00\x00\x00\x03\x03\x03\x0e\x01\x02"))
	f.Fuzz(play)
}

// P9.1, P9.2: every order in which four keys may come, each with a tower of 1 to 4.
func TestEveryList(t *testing.T) {
	keys := []string{"", "a", "a\x00", "b"}
	probes := append([]string{"\x00", "A", "aa", "a\x00\x00", "b\x00", "c"}, keys...)
	for order := range 256 {
		at := []int{order & 3, order >> 2 & 3, order >> 4 & 3, order >> 6}
		for towers := range 256 {
			l, m := skip.New(), &model{}
			for i, k := range at {
				height := towers>>(2*i)&3 + 1
				value := string([]byte{byte('0' + i)})
				if got, want := l.Put(keys[k], value, height), m.put(keys[k], value, height); got != want {
					t.Fatalf("order %d, towers %x: Put %d = %t; want %t", at, towers, i, got, want)
				}
			}
			same(t, l, m, probes)
		}
	}
}
