package table_test

import (
	"math"
	"math/rand"
	"slices"
	"strings"
	"testing"

	"palinode/api"
	"palinode/block"
	"palinode/bloom"
	"palinode/frame"
	"palinode/pack"
	"palinode/table"
)

// modelKeys is the keys of a list, each of them once, in ascending order.
func modelKeys(l []api.Entry) []string {
	seen := map[string]int{}
	var keys []string
	for _, e := range l {
		if seen[e.Key]++; seen[e.Key] == 1 {
			keys = append(keys, e.Key)
		}
	}
	slices.Sort(keys)
	return keys
}

// modelGroups is the groups of many consecutive entries, the last one perhaps smaller.
func modelGroups(l []api.Entry, many int) [][]api.Entry {
	var groups [][]api.Entry
	for i, e := range l {
		if i%many == 0 {
			groups = append(groups, nil)
		}
		groups[len(groups)-1] = append(groups[len(groups)-1], e)
	}
	return groups
}

// modelBuild is Build as the chapter's words say.
func modelBuild(l []api.Entry, many, bits int) (string, error) {
	if many < 1 || many > 50 {
		return "", api.ErrArg
	}
	if bits < 1 || bits > 20 {
		return "", api.ErrArg
	}
	if len(l) == 0 || !block.Sorted(l) {
		return "", api.ErrArg
	}
	groups := modelGroups(l, many)
	if len(l) > 1500 || len(groups) > 1000 {
		return "", api.ErrLong
	}
	b := ""
	var firsts []string
	for _, group := range groups {
		b += seal(must(block.Encode(group)))
		firsts = append(firsts, group[0].Key)
	}
	b += seal(must(pack.Row(firsts)))
	b += seal(must(bloom.Make(modelKeys(l), bits)))
	return b + seal(string([]byte{byte(many), byte(bits), 84})), nil
}

// must is s, which a call has told without an error.
func must(s string, err error) string {
	if err != nil {
		panic(err)
	}
	return s
}

// seal is the frame of s.
func seal(s string) string { return must(frame.Put(s)) }

// sealed is the frames of some strings.
func sealed(texts []string) string {
	b := ""
	for _, s := range texts {
		b += seal(s)
	}
	return b
}

// unsealed is what stands in the frames of b.
func unsealed(b string) []string {
	texts, _, err := frame.All(b)
	if err != nil {
		panic(err)
	}
	return texts
}

// model is what is known of an open table: its entries, the entries of each block, the filter.
type model struct {
	l      []api.Entry
	groups [][]api.Entry
	filter string
}

// modelOpen is Open as the chapter's words say. It looks at each frame by itself, and at the arguments that they must come from.
func modelOpen(b string) (*model, error) {
	texts, _, err := frame.All(b)
	if len(b) > 1<<20 || err != nil || len(texts) < 4 {
		return nil, api.ErrForm
	}
	groups, rest := texts[:len(texts)-3], texts[len(texts)-3:]
	index, filter, end := rest[0], rest[1], rest[2]
	if len(end) != 3 || end[0] < 1 || end[0] > 50 || end[1] < 1 || end[1] > 20 || end[2] != 84 {
		return nil, api.ErrForm
	}
	m := &model{filter: filter}
	var firsts []string
	for i, s := range groups {
		group, err := block.Decode(s)
		whole, last := len(group) == int(end[0]), i == len(groups)-1
		if err != nil || len(group) == 0 || len(group) > int(end[0]) || !whole && !last {
			return nil, api.ErrForm
		}
		m.groups, m.l, firsts = append(m.groups, group), append(m.l, group...), append(firsts, group[0].Key)
	}
	if len(m.l) > 1500 || len(m.groups) > 1000 || !block.Sorted(m.l) {
		return nil, api.ErrForm
	}
	if index != must(pack.Row(firsts)) || filter != must(bloom.Make(modelKeys(m.l), int(end[1]))) {
		return nil, api.ErrForm
	}
	return m, nil
}

// get is Get as the chapter's words say: the first entry, from the front on.
func (m *model) get(key string, seq int) (api.Entry, bool) {
	for _, e := range m.l {
		if e.Key == key && !(e.Seq > seq) {
			return e, true
		}
	}
	return api.Entry{}, false
}

// sameBuild holds Build against the model, and the table that is opened then.
func sameBuild(t *testing.T, l []api.Entry, many, bits int) {
	t.Helper()
	want, wantErr := modelBuild(l, many, bits)
	b, err := table.Build(l, many, bits)
	if b != want || err != wantErr {
		t.Fatalf("Build(%.200v, %d, %d) = %.200x, %v; want %.200x, %v", l, many, bits, b, err, want, wantErr)
	}
	if err != nil {
		return
	}
	u := sameOpen(t, b)
	if u == nil || !slices.Equal(u.All(), l) {
		t.Fatalf("Open(Build(%v, %d, %d)) is not what was built", l, many, bits)
	}
}

// sameOpen holds Open of b against the model, and, if b is a table, all that it tells of itself.
func sameOpen(t *testing.T, b string) *table.Table {
	t.Helper()
	m, wantErr := modelOpen(b)
	u, err := table.Open(b)
	if err != wantErr || (u == nil) != (m == nil) {
		t.Fatalf("Open(%.200x) = %v, %v; want %v", b, u, err, wantErr)
	}
	if u == nil {
		return nil
	}
	if all := u.All(); !slices.Equal(all, m.l) {
		t.Fatalf("All = %v; want %v", all, m.l)
	}
	if least, greatest := u.Min(), u.Max(); least != m.l[0].Key || greatest != m.l[len(m.l)-1].Key {
		t.Fatalf("Min, Max = %q, %q; want %q, %q", least, greatest, m.l[0].Key, m.l[len(m.l)-1].Key)
	}
	if got, want := u.Blocks(), len(m.groups); got != want {
		t.Fatalf("Blocks = %d; want %d", got, want)
	}
	for i, e := range m.l {
		// Of a long table not all entries are asked for.
		if len(m.l) > 100 && i%29 > 0 && i < len(m.l)-1 {
			continue
		}
		for _, key := range []string{e.Key, e.Key + "\x00", e.Key[1:], e.Key[:len(e.Key)-1]} {
			sameKey(t, u, m, key, e.Seq-1, e.Seq, e.Seq+1)
		}
	}
	sameKey(t, u, m, "", math.MinInt, 0, 1, math.MaxInt)
	return u
}

// sameKey holds Get of a key up to some numbers, and May of it, against the model.
func sameKey(t *testing.T, u *table.Table, m *model, key string, seqs ...int) {
	t.Helper()
	may := u.May(key)
	if want := bloom.May(m.filter, key); may != want {
		t.Fatalf("May(%q) = %t; want %t", key, may, want)
	}
	for _, seq := range seqs {
		want, wantOK := m.get(key, seq)
		e, ok := u.Get(key, seq)
		if e != want || ok != wantOK {
			t.Fatalf("Get(%q, %d) = %v, %t; want %v, %t", key, seq, e, ok, want, wantOK)
		}
		if ok && !may {
			t.Fatalf("Get(%q, %d) finds what May denies", key, seq)
		}
	}
}

// script is bytes that say which entries there are; behind its end it says zeros.
type script struct{ b []byte }

func (s *script) next() int {
	if len(s.b) == 0 {
		return 0
	}
	c := s.b[0]
	s.b = s.b[1:]
	return int(c)
}

// key is a short key, of which many are the same, or one near the limit.
func (s *script) key() string {
	stems := []string{"", "a", "a", "a", "ab", "b", "\x00", "\xff", "é", strings.Repeat("k", 78)}
	key := stems[s.next()%len(stems)]
	for range s.next() % 3 {
		key += string([]byte{"ab\x00\xff"[s.next()%4]})
	}
	return key
}

// seq is a small number, mostly, or one at a limit.
func (s *script) seq() int {
	far := []int{api.MaxNumber, 0, api.MaxNumber - 1, -1, math.MinInt, 255, 256, math.MaxInt}
	if c := s.next(); c < len(far) {
		return far[c]
	}
	return 1 + s.next()%9
}

// entry is an entry, valid mostly.
func (s *script) entry() api.Entry {
	e := api.Entry{Key: s.key(), Seq: s.seq()}
	switch c := s.next(); {
	case c < 90:
		e.Drop = true
	case c < 92:
		e.Drop, e.Value = true, "x"
	case c < 96:
		e.Value = strings.Repeat("v", 297+c-92+s.next()%2)
	default:
		e.Value = strings.Repeat("v", s.next()%5)
	}
	return e
}

// list is some entries: nearly always they are sorted.
func (s *script) list() []api.Entry {
	var l []api.Entry
	kind := s.next()
	for len(s.b) > 0 {
		l = append(l, s.entry())
	}
	if kind%20 == 1 {
		return l
	}
	slices.SortStableFunc(l, func(a, b api.Entry) int {
		switch {
		case a.Key != b.Key:
			return strings.Compare(a.Key, b.Key)
		case a.Seq > b.Seq:
			return -1
		case a.Seq < b.Seq:
			return 1
		}
		return 0
	})
	if kind%20 != 2 {
		l = slices.CompactFunc(l, func(a, b api.Entry) bool { return a.Key == b.Key && a.Seq == b.Seq })
	}
	if kind%20 != 3 {
		l = slices.DeleteFunc(l, func(e api.Entry) bool { return !block.Sorted([]api.Entry{e}) })
	}
	return l
}

// play makes a list from b, and holds the table of it against the model.
func play(t *testing.T, b []byte, many, bits int) {
	s := script{b}
	sameBuild(t, s.list(), many, bits)
}

// bend changes what stands in the frames of a table: a byte of one of them, or one of them at all.
func bend(texts []string, source *rand.Rand) []string {
	texts = slices.Clone(texts)
	at := source.Intn(len(texts))
	other := source.Intn(len(texts))
	switch source.Intn(8) {
	case 0:
		return slices.Delete(texts, at, at+1)
	case 1:
		return slices.Insert(texts, other, texts[at])
	case 2:
		texts[at], texts[other] = texts[other], texts[at]
	case 3:
		texts[at] = texts[at][:source.Intn(len(texts[at])+1)]
	case 4:
		texts[at] += string([]byte{byte(source.Intn(3))})
	default:
		b := []byte(texts[at])
		if len(b) > 0 {
			b[source.Intn(len(b))] += byte(source.Intn(5)) - 2
		}
		texts[at] = string(b)
	}
	return texts
}

// P13.1, P13.2, P13.3: tables of all kinds, the same ones each time.
func TestTables(t *testing.T) {
	source := rand.New(rand.NewSource(13))
	for range 3000 {
		b := make([]byte, source.Intn(200))
		source.Read(b)
		play(t, b, source.Intn(12), source.Intn(22))
	}
}

// P13.2: tables whose frames are changed, though each of them has the right checksum, the same ones each time.
func TestBentTables(t *testing.T) {
	source := rand.New(rand.NewSource(131))
	for range 10000 {
		b := make([]byte, 20+source.Intn(80))
		source.Read(b)
		b[0] = 0
		made := script{b}
		s, err := table.Build(made.list(), 1+source.Intn(4), 1+source.Intn(20))
		if err != nil {
			continue
		}
		texts := unsealed(s)
		for range 1 + source.Intn(2) {
			if len(texts) > 0 {
				texts = bend(texts, source)
			}
			sameOpen(t, sealed(texts))
		}
	}
}

// P13.1, P13.2, P13.3: tables that the fuzzer finds (without it, the seeds).
func FuzzTable(f *testing.F) {
	f.Add([]byte{}, 1, 1)
	f.Add([]byte("\x00\x01\x00\xf0\x01\xf0\x01\x01\x00\xf0\x02\x00\x05\x01\xf0\x03\x10"), 1, 10)
	f.Add([]byte("\x00\x01\x00\xf0\x01\xf0\x01\x01\x00\xf0\x02\x00\x05\x01\xf0\x03\x10"), 50, 20)
	f.Add([]byte("\x00\x01\x00\xf0\x01\xf0\x01\x01\x00\xf0\x02\x00\x05\x01\xf0\x03\x10"), 51, 0)
	f.Add([]byte("\x01\x05\x00\x80\x01\x00\x01\x00\x80\x01\x00"), 2, 3)
	f.Fuzz(play)
}

// P13.2: bytes that the fuzzer finds (without it, the seeds), as they are, and with the checksums that frames of their strings have.
func FuzzOpen(f *testing.F) {
	one := must(table.Build([]api.Entry{{Key: "a", Seq: 1, Value: "x"}}, 1, 1))
	two := must(table.Build([]api.Entry{{Key: "a", Seq: 2, Value: "x"}, {Key: "a", Seq: 1, Drop: true}, {Key: "b", Seq: 1, Value: ""}}, 2, 10))
	for _, b := range []string{"", one, two, one + two} {
		f.Add(b)
	}
	f.Fuzz(func(t *testing.T, b string) {
		sameOpen(t, b)
		fixed, rest := "", b
		for rest != "" {
			s, behind, err := pack.ReadText(rest)
			if err != nil {
				break
			}
			fixed += seal(s)
			rest = behind[min(4, len(behind)):]
		}
		sameOpen(t, fixed)
	})
}
