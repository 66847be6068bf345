package merge_test

import (
	"math"
	"math/rand"
	"slices"
	"strings"
	"testing"

	"palinode/api"
	"palinode/merge"
)

// modelRight tells whether an entry is valid as chapter 10 says.
func modelRight(e api.Entry) bool {
	key := len(e.Key) >= 1 && len(e.Key) <= 80
	value := len(e.Value) <= 300 && !(e.Drop && e.Value != "")
	return key && value && e.Seq >= 1 && e.Seq <= 9007199254740991
}

// modelBefore tells whether a comes before b as chapter 10 says.
func modelBefore(a, b api.Entry) bool {
	if c := strings.Compare(a.Key, b.Key); c != 0 {
		return c < 0
	}
	return a.Seq > b.Seq
}

// modelSorted tells whether a list is sorted as chapter 12 says.
func modelSorted(l []api.Entry) bool {
	for i, e := range l {
		if !modelRight(e) || i > 0 && !modelBefore(l[i-1], e) {
			return false
		}
	}
	return true
}

// same tells whether two entries have the same key and number.
func same(a, b api.Entry) bool { return a.Key == b.Key && a.Seq == b.Seq }

// modelMerge is Merge as the chapter's words say: each entry is put where it belongs, if none of an earlier list is there.
func modelMerge(lists [][]api.Entry) ([]api.Entry, error) {
	var out []api.Entry
	for _, l := range lists {
		if !modelSorted(l) {
			return nil, api.ErrArg
		}
		for _, e := range l {
			if slices.ContainsFunc(out, func(o api.Entry) bool { return same(o, e) }) {
				continue
			}
			at := 0
			for at < len(out) && modelBefore(out[at], e) {
				at++
			}
			out = slices.Insert(out, at, e)
		}
	}
	return out, nil
}

// newest is the index of the entry of key with the greatest Seq that is not greater than seq; -1 if there is none.
func newest(l []api.Entry, key string, seq int) int {
	at := -1
	for i, e := range l {
		if e.Key == key && e.Seq <= seq && (at < 0 || e.Seq > l[at].Seq) {
			at = i
		}
	}
	return at
}

// modelFold is Fold as the chapter's words say: what is needed is marked, and what is marked last of a key is unmarked again while it has Drop set.
func modelFold(l []api.Entry, keep []int, bottom bool) ([]api.Entry, error) {
	if !modelSorted(l) {
		return nil, api.ErrArg
	}
	marked := make([]bool, len(l))
	for _, e := range l {
		for _, seq := range append([]int{math.MaxInt}, keep...) {
			if at := newest(l, e.Key, seq); at >= 0 {
				marked[at] = true
			}
		}
	}
	for again := bottom; again; {
		again = false
		for i, e := range l {
			last := marked[i]
			for j := i + 1; j < len(l); j++ {
				last = last && !(marked[j] && l[j].Key == e.Key)
			}
			if last && e.Drop {
				marked[i], again = false, true
			}
		}
	}
	var out []api.Entry
	for i, e := range l {
		if marked[i] {
			out = append(out, e)
		}
	}
	return out, nil
}

// modelSee is See as the chapter's words say.
func modelSee(l []api.Entry, seq int) ([]api.Entry, error) {
	if !modelSorted(l) {
		return nil, api.ErrArg
	}
	var out []api.Entry
	for i, e := range l {
		if newest(l, e.Key, seq) == i && !e.Drop {
			out = append(out, e)
		}
	}
	return out, nil
}

// sameMerge holds Merge against the model, and tells what it told.
func sameMerge(t *testing.T, lists ...[]api.Entry) []api.Entry {
	t.Helper()
	want, wantErr := modelMerge(lists)
	got, err := merge.Merge(lists)
	if !slices.Equal(got, want) || err != wantErr {
		t.Fatalf("Merge(%v) = %v, %v; want %v, %v", lists, got, err, want, wantErr)
	}
	return got
}

// sameSee holds See against the model, and tells what it told.
func sameSee(t *testing.T, l []api.Entry, seq int) []api.Entry {
	t.Helper()
	want, wantErr := modelSee(l, seq)
	got, err := merge.See(l, seq)
	if !slices.Equal(got, want) || err != wantErr {
		t.Fatalf("See(%v, %d) = %v, %v; want %v, %v", l, seq, got, err, want, wantErr)
	}
	return got
}

// sameFold holds Fold against the model, and what is seen of the folded list against what is seen of the list itself.
func sameFold(t *testing.T, l []api.Entry, keep []int, bottom bool) []api.Entry {
	t.Helper()
	want, wantErr := modelFold(l, keep, bottom)
	got, err := merge.Fold(l, keep, bottom)
	if !slices.Equal(got, want) || err != wantErr {
		t.Fatalf("Fold(%v, %v, %t) = %v, %v; want %v, %v", l, keep, bottom, got, err, want, wantErr)
	}
	if err == nil {
		showsTheSame(t, l, got, keep)
	}
	return got
}

// showsTheSame checks that a folded list shows what the list itself shows, at the greatest number and at those of keep.
func showsTheSame(t *testing.T, l, folded []api.Entry, keep []int) {
	t.Helper()
	for _, seq := range append([]int{math.MaxInt, api.MaxNumber}, keep...) {
		was, err := merge.See(l, seq)
		is, foldedErr := merge.See(folded, seq)
		if !slices.Equal(was, is) || err != nil || foldedErr != nil {
			t.Fatalf("See(%v, %d) = %v, %v; of what it was folded to, %v: %v, %v", l, seq, was, err, folded, is, foldedErr)
		}
	}
}

// digits is the list that n says: of each key and number, in order, no entry, one with a value or one without.
func digits(n int, keys string, most int, value string) []api.Entry {
	var l []api.Entry
	for _, key := range keys {
		for seq := most; seq > 0; seq-- {
			switch n % 3 {
			case 1:
				l = append(l, put(string(key), seq, value))
			case 2:
				l = append(l, drop(string(key), seq))
			}
			n /= 3
		}
	}
	return l
}

// P15.2, P15.3, P15.4: all lists of two keys with numbers up to 3, with all sets of numbers that are kept, at the bottom or not.
func TestEverySmallFold(t *testing.T) {
	for n := range 729 {
		l := digits(n, "ab", 3, "x")
		for set := range 32 {
			var keep []int
			for seq := range 5 {
				if set>>seq&1 == 1 {
					keep = append(keep, seq)
				}
			}
			sameFold(t, l, keep, false)
			sameFold(t, l, keep, true)
		}
		for seq := -1; seq < 6; seq++ {
			sameSee(t, l, seq)
		}
	}
}

// P15.2, P15.4: all lists of a key with numbers up to 6, with all sets of up to two numbers that are kept.
func TestEverySmallHistory(t *testing.T) {
	for n := range 729 {
		l := digits(n, "a", 6, "x")
		for one := range 8 {
			for two := range 8 {
				sameFold(t, l, []int{one, two}, false)
				sameFold(t, l, []int{one, two}, true)
			}
		}
	}
}

// P15.1: all pairs of lists of two keys with numbers up to 2, and each pair with a third list.
func TestEverySmallMerge(t *testing.T) {
	for i := range 81 {
		for j := range 81 {
			a, b := digits(i, "ab", 2, "x"), digits(j, "ab", 2, "y")
			sameMerge(t, a, b)
			for k := range 81 {
				if (i+j+k)%5 == 0 {
					sameMerge(t, a, b, digits(k, "ab", 2, "z"))
				}
			}
		}
	}
}

// script is bytes that say which entries there are; behind its end it says zeros.
type script struct{ b []byte }

func (s *script) next() int {
	if len(s.b) == 0 {
		return 0
	}
	c := s.b[0]
	s.b = s.b[1:]
	return int(c)
}

// seq is a small number, mostly, or one at a limit.
func (s *script) seq() int {
	far := []int{0, -1, math.MinInt, math.MaxInt, api.MaxNumber, api.MaxNumber + 1, api.MaxNumber - 1, 1 << 32}
	if c := s.next(); c < 3*len(far) {
		return far[c/3]
	}
	return s.next() % 9
}

// entry is an entry of one of few keys, valid mostly.
func (s *script) entry() api.Entry {
	keys := []string{"a", "a", "ab", "b", "b\x00", "\x00", "\xff", "é", "", strings.Repeat("k", 80), strings.Repeat("k", 81)}
	e := api.Entry{Key: keys[s.next()%len(keys)], Seq: s.seq()}
	switch c := s.next(); {
	case c < 100:
		e.Drop = true
	case c < 104:
		e.Drop, e.Value = true, "x"
	case c < 108:
		e.Value = strings.Repeat("v", 299+c%3)
	default:
		e.Value = strings.Repeat("v", c%4)
	}
	return e
}

// list is some entries. Mostly they are in order, and mostly those that are not valid are left out, and those that are there already.
func (s *script) list() []api.Entry {
	var l []api.Entry
	kind := s.next()
	for range s.next() % 24 {
		l = append(l, s.entry())
	}
	if kind != 1 {
		slices.SortStableFunc(l, func(a, b api.Entry) int {
			switch {
			case modelBefore(a, b):
				return -1
			case modelBefore(b, a):
				return 1
			}
			return 0
		})
	}
	if kind != 2 {
		l = slices.DeleteFunc(l, func(e api.Entry) bool { return !modelRight(e) })
	}
	if kind != 3 {
		l = slices.CompactFunc(l, same)
	}
	return l
}

// play makes lists and numbers from b, and holds all calls with them against the models.
func play(t *testing.T, b []byte) {
	s := script{b}
	var lists [][]api.Entry
	for range s.next() % 8 {
		lists = append(lists, s.list())
	}
	var keep []int
	for range s.next() % 6 {
		keep = append(keep, s.seq())
	}
	bottom := s.next()%2 == 1
	for _, l := range append(lists, sameMerge(t, lists...)) {
		folded := sameFold(t, l, keep, bottom)
		sameFold(t, folded, keep, bottom)
		for _, seq := range append([]int{math.MinInt, math.MaxInt}, keep...) {
			sameSee(t, l, seq)
		}
	}
}

// P15.1 to P15.4: lists of all kinds, the same ones each time.
func TestLists(t *testing.T) {
	source := rand.New(rand.NewSource(15))
	for range 20000 {
		b := make([]byte, source.Intn(500))
		source.Read(b)
		play(t, b)
	}
}

// P15.1 to P15.4: lists and numbers that the fuzzer finds (without it, the seeds).
func FuzzLists(f *testing.F) {
	f.Add([]byte{})
	f.Add([]byte("\x01\x00\x00"))
	f.Add([]byte("\x02\x00\x02\x00\x80\x05\xf0\x03\x80\x02\x00\x09\x02\x00\x80\x05\x00\x04\x80\x07\xf0\x01\x80\x05\x01"))
	f.Add([]byte("\x01\x01\x03\x00\x80\x05\xf0\x00\x80\x07\xf0\x03\x80\x01\x00\x00\x00"))
	f.Add([]byte("\x01\x03\x02\x00\x80\x05\xf0\x00\x80\x05\x00\x02\x80\x04\x80\x04\x01"))
	f.Add([]byte("\x01\x02\x02\x08\x80\x05\xf0\x00\x03\xf0\x01\x09\x01"))
	f.Fuzz(play)
}
