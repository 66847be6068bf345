package block_test

import (
	"math"
	"math/rand"
	"slices"
	"strings"
	"testing"

	"palinode/api"
	"palinode/block"
)

// modelNum is a number's bytes as chapter 1 says.
func modelNum(n int) string {
	b := ""
	for ; n > 0; n /= 256 {
		b = string([]byte{byte(n % 256)}) + b
	}
	return string([]byte{byte(len(b))}) + b
}

// modelText is a string's bytes as chapter 1 says.
func modelText(s string) string { return modelNum(len(s)) + s }

// modelRight tells whether an entry is valid as chapter 10 says.
func modelRight(e api.Entry) bool {
	key := len(e.Key) >= 1 && len(e.Key) <= 80
	value := len(e.Value) <= 300 && !(e.Drop && e.Value != "")
	return key && value && e.Seq >= 1 && e.Seq <= 9007199254740991
}

// modelBefore tells whether a comes before b as chapter 10 says.
func modelBefore(a, b api.Entry) bool {
	if c := strings.Compare(a.Key, b.Key); c != 0 {
		return c < 0
	}
	return a.Seq > b.Seq
}

// modelSorted is Sorted as the chapter's words say.
func modelSorted(l []api.Entry) bool {
	for _, e := range l {
		if !modelRight(e) {
			return false
		}
	}
	for i := 1; i < len(l); i++ {
		if !modelBefore(l[i-1], l[i]) {
			return false
		}
	}
	return true
}

// modelEncode is Encode as the chapter's words say.
func modelEncode(l []api.Entry) (string, error) {
	if len(l) > 200 {
		return "", api.ErrLong
	}
	if !modelSorted(l) {
		return "", api.ErrArg
	}
	b := modelNum(len(l))
	for i, e := range l {
		// The longest beginning of the key that the key ahead of it begins with, too.
		prefix := e.Key
		for i%4 == 0 && prefix != "" || i%4 != 0 && !strings.HasPrefix(l[i-1].Key, prefix) {
			prefix = prefix[:len(prefix)-1]
		}
		b += modelNum(len(prefix)) + modelText(strings.TrimPrefix(e.Key, prefix)) + modelNum(e.Seq)
		if e.Drop {
			b += modelNum(1)
		} else {
			b += modelNum(0) + modelText(e.Value)
		}
	}
	return b, nil
}

// cutNum cuts a number off b, however it is written.
func cutNum(b *string) (int, bool) {
	s := *b
	if s == "" || s[0] > 7 || len(s) < 1+int(s[0]) {
		return 0, false
	}
	n, end := 0, 1+int(s[0])
	for _, c := range []byte(s[1:end]) {
		n = n*256 + int(c)
	}
	*b = s[end:]
	return n, true
}

// cutText cuts a string off b, however long it is.
func cutText(b *string) (string, bool) {
	n, ok := cutNum(b)
	if !ok || n > len(*b) {
		return "", false
	}
	s := (*b)[:n]
	*b = (*b)[n:]
	return s, true
}

// cutEntry cuts an entry off b, however its key is divided.
func cutEntry(b *string, last string) (e api.Entry, ok bool) {
	n, ok := cutNum(b)
	if !ok || n > len(last) {
		return e, false
	}
	rest, ok := cutText(b)
	if !ok {
		return e, false
	}
	e.Key = last[:n] + rest
	if e.Seq, ok = cutNum(b); !ok {
		return e, false
	}
	drop, ok := cutNum(b)
	if !ok || drop == 1 {
		e.Drop = true
		return e, ok
	}
	e.Value, ok = cutText(b)
	return e, ok
}

// modelDecode is Decode as the chapter's words say: b is the encoding of a list, or else it is none.
func modelDecode(b string) ([]api.Entry, error) {
	rest, last := b, ""
	many, ok := cutNum(&rest)
	if !ok || many > 200 {
		return nil, api.ErrForm
	}
	var l []api.Entry
	for range many {
		e, ok := cutEntry(&rest, last)
		if !ok {
			return nil, api.ErrForm
		}
		l, last = append(l, e), e.Key
	}
	if again, err := modelEncode(l); err != nil || again != b {
		return nil, api.ErrForm
	}
	return l, nil
}

// modelFind is Find as the chapter's words say.
func modelFind(l []api.Entry, key string, seq int) (api.Entry, bool) {
	i := slices.IndexFunc(l, func(e api.Entry) bool { return e.Key == key && !(e.Seq > seq) })
	if i < 0 {
		return api.Entry{}, false
	}
	return l[i], true
}

// sameDecode holds Decode of b against the model, and against Encode of what it tells.
func sameDecode(t *testing.T, b string) {
	t.Helper()
	want, wantErr := modelDecode(b)
	l, err := block.Decode(b)
	if !slices.Equal(l, want) || err != wantErr {
		t.Fatalf("Decode(%x) = %v, %v; want %v, %v", b, l, err, want, wantErr)
	}
	if err != nil {
		return
	}
	if again, err := block.Encode(l); again != b || err != nil {
		t.Fatalf("Encode(Decode(%x)) = %x, %v", b, again, err)
	}
}

// sameEncode holds Sorted and Encode of l against the model, and Decode of what Encode tells against l.
func sameEncode(t *testing.T, l []api.Entry) {
	t.Helper()
	if got, want := block.Sorted(l), modelSorted(l); got != want {
		t.Fatalf("Sorted(%v) = %t; want %t", l, got, want)
	}
	want, wantErr := modelEncode(l)
	b, err := block.Encode(l)
	if b != want || err != wantErr {
		t.Fatalf("Encode(%v) = %x, %v; want %x, %v", l, b, err, want, wantErr)
	}
	if err != nil {
		return
	}
	if back, err := block.Decode(b); !slices.Equal(back, l) || err != nil {
		t.Fatalf("Decode(Encode(%v)) = %v, %v", l, back, err)
	}
}

// sameFind holds Find against the model.
func sameFind(t *testing.T, l []api.Entry, key string, seq int) {
	t.Helper()
	want, wantOK := modelFind(l, key, seq)
	if e, ok := block.Find(l, key, seq); e != want || ok != wantOK {
		t.Fatalf("Find(%v, %q, %d) = %v, %t; want %v, %t", l, key, seq, e, ok, want, wantOK)
	}
}

// script is bytes that say which entries there are; behind its end it says zeros.
type script struct{ b []byte }

func (s *script) next() int {
	if len(s.b) == 0 {
		return 0
	}
	c := s.b[0]
	s.b = s.b[1:]
	return int(c)
}

// key is a short key, mostly one that others begin with as well, or one near the limit.
func (s *script) key() string {
	stems := []string{"", "a", "a", "ab", "abc", "b", "\x00", "\xff", "é", strings.Repeat("k", 77), strings.Repeat("k", 79)}
	key := stems[s.next()%len(stems)]
	for range s.next() % 4 {
		key += string([]byte{"ab\x00\xffk\xc3"[s.next()%6]})
	}
	return key
}

// seq is a small number, mostly, or one at a limit.
func (s *script) seq() int {
	far := []int{0, -1, math.MinInt, math.MaxInt, api.MaxNumber, api.MaxNumber + 1, 255, 256, 1 << 16, 1<<32 - 1, 1 << 48}
	if c := s.next(); c < 3*len(far) {
		return far[c/3]
	}
	return 1 + s.next()%5
}

// entry is an entry, valid mostly.
func (s *script) entry() api.Entry {
	e := api.Entry{Key: s.key(), Seq: s.seq()}
	switch c := s.next(); {
	case c < 100:
		e.Drop = true
	case c < 104:
		e.Drop, e.Value = true, "x"
	case c < 110:
		e.Value = strings.Repeat("v", 295+c-104+s.next()%2)
	default:
		e.Value = strings.Repeat("v", s.next()%5)
	}
	return e
}

// list is some entries. Mostly they are in order, and mostly the ones that are not valid are left out, as are those that are there already.
func (s *script) list() []api.Entry {
	var l []api.Entry
	kind := s.next()
	for len(s.b) > 0 {
		l = append(l, s.entry())
	}
	if kind%4 != 1 {
		slices.SortStableFunc(l, func(a, b api.Entry) int {
			switch {
			case modelBefore(a, b):
				return -1
			case modelBefore(b, a):
				return 1
			}
			return 0
		})
	}
	if kind%4 != 2 {
		l = slices.DeleteFunc(l, func(e api.Entry) bool { return !modelRight(e) })
	}
	if kind%4 != 3 {
		l = slices.CompactFunc(l, func(a, b api.Entry) bool { return a.Key == b.Key && a.Seq == b.Seq })
	}
	return l
}

// play makes a list from b, and holds all calls with it against the model.
func play(t *testing.T, b []byte, key string, seq int) {
	s := script{b}
	l := s.list()
	sameEncode(t, l)
	sameFind(t, l, key, seq)
	for _, e := range l {
		sameFind(t, l, e.Key, seq)
		sameFind(t, l, e.Key, e.Seq)
		if e.Seq > math.MinInt {
			sameFind(t, l, e.Key, e.Seq-1)
		}
	}
}

// harm changes b at a place: another byte, one more, one less, a number more or less, or the end.
func harm(b string, source *rand.Rand) string {
	out := []byte(b)
	at := source.Intn(len(out))
	switch source.Intn(7) {
	case 0:
		out[at] = byte(source.Intn(256))
	case 1:
		out = slices.Insert(out, at, byte(source.Intn(3)))
	case 2:
		out = slices.Delete(out, at, at+1)
	case 3:
		out[at]++
	case 4:
		out[at]--
	case 5:
		out = out[:at]
	case 6:
		out[at] = byte(source.Intn(3))
	}
	return string(out)
}

// P12.1, P12.2, P12.3: lists of all kinds, the same ones each time.
func TestLists(t *testing.T) {
	source := rand.New(rand.NewSource(12))
	for range 5000 {
		b := make([]byte, source.Intn(150))
		source.Read(b)
		s := script{b: []byte{byte(source.Intn(256)), byte(source.Intn(256)), byte(source.Intn(256))}}
		play(t, b, s.key(), source.Intn(9)-1)
	}
}

// P12.2, P12.3: encodings that are harmed once, twice or more often, the same ones each time.
func TestHarmedBlocks(t *testing.T) {
	source := rand.New(rand.NewSource(121))
	for range 20000 {
		s := make([]byte, source.Intn(60))
		source.Read(s)
		made := script{s}
		b, err := block.Encode(made.list())
		if err != nil {
			continue
		}
		for range 1 + source.Intn(3) {
			if b != "" {
				b = harm(b, source)
			}
			sameDecode(t, b)
		}
	}
}

// P12.1, P12.2, P12.3: lists and questions that the fuzzer finds (without it, the seeds).
func FuzzList(f *testing.F) {
	f.Add([]byte{}, "a", 1)
	f.Add([]byte("\x00\x01\x00\x80\x01\xf0\x01a\x04\x00\x80\x02\x00\x05\x01\x02\x80\x03\x10"), "a", 2)
	f.Add([]byte("\x01\x05\x00\x80\x01\x00\x01\x00\x80\x01\x00"), "b", math.MaxInt)
	f.Add([]byte("\x02\x0a\x02\x00\x00\x80\x01\x00\x01\x00\x80\x01\x66"), "", math.MinInt)
	f.Add([]byte("\x03\x01\x00\x80\x01\x00\x01\x00\x80\x01\x00"), "a", 0)
	f.Fuzz(play)
}

// P12.2, P12.3: bytes that the fuzzer finds (without it, the seeds).
func FuzzDecode(f *testing.F) {
	f.Add("")
	f.Add("\x00")
	f.Add("\x01\x02\x00\x01\x02ab\x01\x02\x00\x01\x01x\x01\x01\x01\x01c\x01\x01\x01\x01")
	f.Add("\x01\x02\x00\x01\x01a\x01\x02\x00\x00\x01\x01\x00\x01\x01\x01\x01")
	f.Add("\x01\x01\x01\x01\x01\x01a\x01\x02\x00\x00")
	f.Add("\x01\xc9")
	f.Fuzz(func(t *testing.T, b string) { sameDecode(t, b) })
}
