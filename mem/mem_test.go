package mem_test

import (
	"errors"
	"math"
	"math/bits"
	"math/rand"
	"slices"
	"strings"
	"testing"

	"palinode/api"
	"palinode/mem"
)

// kept is an entry with a value.
func kept(key string, seq int, value string) api.Entry {
	return api.Entry{Key: key, Seq: seq, Value: value}
}

// gone is an entry that says that its key is gone.
func gone(key string, seq int) api.Entry { return api.Entry{Key: key, Seq: seq, Drop: true} }

// puts puts entries that the table must take.
func puts(t *testing.T, m *mem.Table, entries ...api.Entry) {
	t.Helper()
	for _, e := range entries {
		if err := m.Put(e); err != nil {
			t.Errorf("Put(%v) = %v; want nil", e, err)
		}
	}
}

// refuses puts an entry that the table must refuse, and checks that nothing has changed.
func refuses(t *testing.T, m *mem.Table, e api.Entry, want api.Errno) {
	t.Helper()
	all, size, many := m.All(), m.Size(), m.Len()
	err := m.Put(e)
	if err != want || !errors.Is(err, want) {
		t.Errorf("Put(%v) = %v; want %v", e, err, want)
	}
	holds(t, m, all...)
	if m.Size() != size || m.Len() != many {
		t.Errorf("refused %v: Size() = %d, Len() = %d; want %d, %d", e, m.Size(), m.Len(), size, many)
	}
}

// finds checks which entry of a key comes up to a number.
func finds(t *testing.T, m *mem.Table, key string, seq int, want api.Entry) {
	t.Helper()
	if got, ok := m.Get(key, seq); got != want || !ok {
		t.Errorf("Get(%q, %d) = %v, %t; want %v, true", key, seq, got, ok, want)
	}
}

// lacks checks that no entry of a key comes up to a number.
func lacks(t *testing.T, m *mem.Table, key string, seq int) {
	t.Helper()
	if got, ok := m.Get(key, seq); got != (api.Entry{}) || ok {
		t.Errorf("Get(%q, %d) = %v, %t; want none", key, seq, got, ok)
	}
}

// holds checks all entries, and how many they are.
func holds(t *testing.T, m *mem.Table, want ...api.Entry) {
	t.Helper()
	if got := m.All(); !slices.Equal(got, want) {
		t.Errorf("All() = %v; want %v", got, want)
	}
	if m.Len() != len(want) {
		t.Errorf("Len() = %d; want %d", m.Len(), len(want))
	}
}

// sized checks the sum of the sizes.
func sized(t *testing.T, m *mem.Table, want int) {
	t.Helper()
	if got := m.Size(); got != want {
		t.Errorf("Size() = %d; want %d", got, want)
	}
}

// noSeqs are numbers that no entry has.
var noSeqs = []int{math.MinInt, math.MinInt + 1, -1 << 53, -1 << 32, -2, -1, 0, api.MaxNumber + 1, api.MaxNumber + 2, 1 << 54, 1<<56 + 1, 1 << 62, math.MaxInt - 1, math.MaxInt}

// seqs are numbers that an entry may have: the least, the greatest, and those at whose size another byte begins.
func seqs() []int {
	out := []int{1, 2, 3, api.MaxNumber - 2, api.MaxNumber - 1, api.MaxNumber, 0x01020304050607}
	for shift := 7; shift < 53; shift++ {
		out = append(out, 1<<shift-1, 1<<shift, 1<<shift+1)
	}
	slices.Sort(out)
	return slices.Compact(out)
}

// keys are keys of all kinds, in ascending order: byte by byte, a prefix first.
func keys() []string {
	long := strings.Repeat("k", api.MaxKey-1)
	zeros := strings.Repeat("\x00", api.MaxKey)
	ones := strings.Repeat("\x01", api.MaxKey)
	return []string{
		"\x00", "\x00\x00", "\x00\x00\x00", zeros, "\x00\x00\x01", "\x00\x01", "\x00\x02", "\x00a", "\x00\xff", "\x00\xff\x00",
		"\x01", "\x01\x00", "\x01\x00\x01", "\x01\x01", "\x01\x01\x00", ones, "\x01\x02", "\x01\x03", "\x01\xff",
		"\x02", "\x02\x00", "\x02\x01", "\x03", " ", "0", "10", "9", "A", "B", "a", "a\x00", "a\x00\x00", "a\x00\x01", "a\x00b", "a\x01", "a\x01\x01", "a\x02", "aa", "ab", "b",
		long, long + "\x00", long + "\x01", long + "k", long + "\xff", "l", "v", "z", "\x7f", "\x80", "\xc3", "é", "\xfe\xff", "\xff", "\xff\x00", "\xff\x01", "\xff\xff", strings.Repeat("\xff", api.MaxKey),
	}
}

// heights are lists of heights of all kinds.
func heights() [][]int {
	return [][]int{
		nil, {}, {1}, {0}, {-1}, {2, 1}, {12}, {13}, {1, 12}, {3, 1, 2, 1},
		{math.MinInt, math.MaxInt}, {1, 2, 1, 3, 1, 2, 1, 4}, {5, 4, 3, 2, 1, 0, -7},
		{1 << 32, 1 << 62, 1, 1, 1, 1, 1, 1, 1, 1, 1},
	}
}

// P10.1, P10.2: the chapter's examples.
func TestExamples(t *testing.T) {
	m := mem.New(nil)
	puts(t, m, kept("a", 1, "x"), gone("a", 3))
	refuses(t, m, kept("a", 1, "y"), api.ErrExists)
	finds(t, m, "a", 2, kept("a", 1, "x"))
	finds(t, m, "a", 9, gone("a", 3))
	lacks(t, m, "a", 0)
	sized(t, m, 35)
	holds(t, m, gone("a", 3), kept("a", 1, "x"))
}

// P10.1: a valid entry keeps each of the limits; with one step beyond any of them it is not valid.
func TestRight(t *testing.T) {
	key, value := strings.Repeat("k", 80), strings.Repeat("v", 300)
	for _, e := range []api.Entry{
		kept("a", 1, ""), kept("a", 1, "v"), gone("a", 1),
		kept(key, 1<<53-1, value), gone(key, 1<<53-1),
		kept("\x00", 2, "\x00"), kept("\xff", 1<<32, "\xff"), kept(strings.Repeat("\x00", 80), 1, strings.Repeat("\x00", 300)),
	} {
		if !mem.Right(e) {
			t.Errorf("Right(%v) = false", e)
		}
	}
	for _, e := range []api.Entry{
		{}, kept("", 1, ""), kept("", 1, "v"), gone("", 1), kept(key+"k", 1, ""), gone(key+"k", 1), kept(strings.Repeat(key, 1000), 1, ""),
		kept("a", 1, value+"v"), kept("a", 1, strings.Repeat(value, 1000)),
		{Key: "a", Seq: 1, Drop: true, Value: "v"}, {Key: "a", Seq: 1, Drop: true, Value: value}, {Key: "a", Seq: 1, Drop: true, Value: value + "v"}, {Key: "a", Seq: 1, Drop: true, Value: "\x00"},
		kept(strings.Repeat("é", 41), 1, ""), kept("a", 1, strings.Repeat("é", 151)),
	} {
		if mem.Right(e) {
			t.Errorf("Right(%v) = true", e)
		}
	}
}

// P10.1, P6: of all numbers, those from 1 to MaxNumber are valid.
func TestRightSeq(t *testing.T) {
	for _, seq := range seqs() {
		if !mem.Right(kept("a", seq, "v")) || !mem.Right(gone("a", seq)) {
			t.Errorf("Seq %d is not right", seq)
		}
	}
	for _, seq := range noSeqs {
		if mem.Right(kept("a", seq, "v")) || mem.Right(gone("a", seq)) {
			t.Errorf("Seq %d is right", seq)
		}
	}
}

// inOrder are entries in the order of entries, with numbers and keys that no valid entry has among them.
func inOrder() []api.Entry {
	numbers := append(seqs(), noSeqs...)
	slices.Sort(numbers)
	slices.Reverse(numbers)
	names := []string{"", "\x00", "\x00\x00", "\x01", "a", "a\x00", "a\x00\x01", "a\x01", "aa", "b", strings.Repeat("b", 81), "\x80", "\xff", "\xff\xff"}
	var out []api.Entry
	for _, name := range names {
		for _, n := range numbers {
			out = append(out, kept(name, n, ""))
		}
	}
	return out
}

// P10.1, P6: Before tells the order of entries, of those that are not valid, too.
func TestBefore(t *testing.T) {
	entries := inOrder()
	for i, a := range entries {
		for k, b := range entries {
			if got := mem.Before(a, b); got != (i < k) {
				t.Fatalf("Before(%v, %v) = %t", a, b, got)
			}
		}
	}
}

// P10.1: what an entry says of its key does not tell when it comes.
func TestBeforeByKeyAndSeqOnly(t *testing.T) {
	all := []api.Entry{kept("a", 2, ""), kept("a", 2, "v"), kept("a", 2, "w"), gone("a", 2), {Key: "a", Seq: 2, Drop: true, Value: "v"}}
	for _, a := range all {
		for _, b := range all {
			if mem.Before(a, b) {
				t.Errorf("Before(%v, %v) = true", a, b)
			}
			b.Seq = 1
			if !mem.Before(a, b) || mem.Before(b, a) {
				t.Errorf("%v does not come before %v", a, b)
			}
			b.Key, b.Seq = "b", 3
			if !mem.Before(a, b) || mem.Before(b, a) {
				t.Errorf("%v does not come before %v", a, b)
			}
		}
	}
}

// P10.1, P10.2: a new table is empty, whatever its heights are, and whatever it is asked.
func TestNew(t *testing.T) {
	for _, list := range heights() {
		m := mem.New(list)
		holds(t, m)
		sized(t, m, 0)
		for _, key := range append(keys(), "", strings.Repeat("k", 81)) {
			for _, seq := range append(seqs(), noSeqs...) {
				lacks(t, m, key, seq)
			}
		}
		puts(t, m, kept("a", 1, "v"))
		holds(t, m, kept("a", 1, "v"))
	}
}

// P10.1: an entry that is not valid is refused, also where one with its key and number is there already, and nothing changes.
func TestPutNotValid(t *testing.T) {
	long := strings.Repeat("k", 80)
	m := mem.New(nil)
	puts(t, m, kept("a", 1, "x"), gone("a", 3), kept(long, 1, "y"), kept("\x00", 1, "z"))
	for _, e := range []api.Entry{
		{}, kept("", 1, "v"), gone("", 1), kept(long+"k", 1, ""), gone(long+"\x00", 1), kept(strings.Repeat(long, 1000), 1, ""),
		kept("b", 1, strings.Repeat("v", 301)), kept("a", 1, strings.Repeat("v", 301)), kept("a", 3, strings.Repeat("v", 301)), kept("b", 1, strings.Repeat("v", 1<<20)),
		{Key: "a", Seq: 1, Drop: true, Value: "x"}, {Key: "a", Seq: 3, Drop: true, Value: "v"}, {Key: "b", Seq: 3, Drop: true, Value: "v"},
	} {
		refuses(t, m, e, api.ErrArg)
	}
	for _, seq := range noSeqs {
		for _, key := range []string{"a", "b", "\x00"} {
			refuses(t, m, kept(key, seq, "v"), api.ErrArg)
			refuses(t, m, gone(key, seq), api.ErrArg)
		}
	}
	sized(t, m, 2+0+1+80+1+1+1+4*16)
}

// P10.1: an entry with the key and the number of one in the table is refused, whatever else it says, and the old one stays; another number of its key, and its number with another key, are taken.
func TestPutExists(t *testing.T) {
	for _, old := range []api.Entry{kept("a", 5, ""), kept("a", 5, "v"), kept("a", 5, "w"), gone("a", 5)} {
		m := mem.New([]int{2, 1})
		puts(t, m, old)
		for _, e := range []api.Entry{kept("a", 5, ""), kept("a", 5, "v"), kept("a", 5, "w"), kept("a", 5, strings.Repeat("v", 300)), gone("a", 5)} {
			refuses(t, m, e, api.ErrExists)
		}
		finds(t, m, "a", 5, old)
		puts(t, m, kept("a", 4, "4"), kept("a", 6, "6"), gone("a\x00", 5), kept("A", 5, "A"), gone("\x00", 5))
		holds(t, m, gone("\x00", 5), kept("A", 5, "A"), kept("a", 6, "6"), old, kept("a", 4, "4"), gone("a\x00", 5))
		for _, e := range m.All() {
			refuses(t, m, kept(e.Key, e.Seq, "again"), api.ErrExists)
			refuses(t, m, gone(e.Key, e.Seq), api.ErrExists)
		}
	}
}

// P10.1: whatever its number is, an entry is there once.
func TestPutExistsAtEverySeq(t *testing.T) {
	m := mem.New([]int{1, 2, 3})
	for _, seq := range seqs() {
		puts(t, m, kept("k", seq, "v"))
		refuses(t, m, gone("k", seq), api.ErrExists)
	}
}

// P10.2: Get finds the newest entry up to the number, of its own key; near every number, and beyond all of them.
func TestGet(t *testing.T) {
	m := mem.New([]int{1, 3})
	puts(t, m, kept("b", 20, "20"), gone("b", 10), kept("b", 30, ""), kept("a", 15, "a"), gone("c", 1), kept("c", api.MaxNumber, "last"))
	for seq := range 40 {
		switch {
		case seq < 10:
			lacks(t, m, "b", seq)
		case seq < 20:
			finds(t, m, "b", seq, gone("b", 10))
		case seq < 30:
			finds(t, m, "b", seq, kept("b", 20, "20"))
		default:
			finds(t, m, "b", seq, kept("b", 30, ""))
		}
		if seq < 15 {
			lacks(t, m, "a", seq)
		} else {
			finds(t, m, "a", seq, kept("a", 15, "a"))
		}
		for _, key := range []string{"", "A", "a\x00", "aa", "b\x00", "bb", "C", "c\x00", "d", "\xff"} {
			lacks(t, m, key, seq)
		}
	}
	finds(t, m, "c", 1, gone("c", 1))
	finds(t, m, "c", api.MaxNumber-1, gone("c", 1))
	finds(t, m, "c", api.MaxNumber, kept("c", api.MaxNumber, "last"))
}

// P10.2, P6: a number below 1 finds nothing, one beyond MaxNumber the newest entry.
func TestGetBeyondSeqs(t *testing.T) {
	m := mem.New(nil)
	puts(t, m, kept("a", 1, "1"), kept("a", 2, "2"), kept("b", api.MaxNumber, "last"), kept("\x00", 1, "zero"))
	for _, seq := range noSeqs {
		if seq < 1 {
			lacks(t, m, "a", seq)
			lacks(t, m, "b", seq)
			lacks(t, m, "\x00", seq)
			continue
		}
		finds(t, m, "a", seq, kept("a", 2, "2"))
		finds(t, m, "b", seq, kept("b", api.MaxNumber, "last"))
		finds(t, m, "\x00", seq, kept("\x00", 1, "zero"))
	}
}

// P10.2: a key that no entry may have is not there, however near it is to one that is.
func TestGetNoKey(t *testing.T) {
	long, zeros := strings.Repeat("k", 80), strings.Repeat("\x00", 80)
	m := mem.New(nil)
	puts(t, m, kept(long, 1, "long"), kept("a", 1, "a"), kept("\x00", 1, "zero"), kept(zeros, 1, "zeros"))
	for _, key := range []string{"", long + "k", long + "\x00", zeros + "\x00", strings.Repeat("k", 1<<20), strings.Repeat("\x00", 1<<20)} {
		lacks(t, m, key, 1)
		lacks(t, m, key, api.MaxNumber)
	}
	finds(t, m, long, 1, kept(long, 1, "long"))
	finds(t, m, zeros, 1, kept(zeros, 1, "zeros"))
}

// P10.1, P10.2: every number that an entry may have is kept, and in its place.
func TestEverySeq(t *testing.T) {
	all := seqs()
	source := rand.New(rand.NewSource(102))
	for _, key := range []string{"k", "\x00", "\x01", "\xff", strings.Repeat("\x01", 80)} {
		m := mem.New([]int{1, 4, 2})
		for _, i := range source.Perm(len(all)) {
			puts(t, m, kept(key, all[i], "v"))
		}
		var want []api.Entry
		for i := len(all) - 1; i >= 0; i-- {
			want = append(want, kept(key, all[i], "v"))
			finds(t, m, key, all[i], kept(key, all[i], "v"))
			switch {
			case i == 0:
				lacks(t, m, key, all[i]-1)
			default:
				finds(t, m, key, all[i]-1, kept(key, all[i-1], "v"))
			}
		}
		holds(t, m, want...)
	}
}

// P10.1, P10.2: keys of all bytes, in whatever order they come, each with several numbers, are kept apart and in order.
func TestEveryKey(t *testing.T) {
	names := keys()
	if !slices.IsSorted(names) {
		t.Fatal("the keys are not sorted")
	}
	source := rand.New(rand.NewSource(101))
	for _, list := range heights() {
		var want []api.Entry
		size := 0
		for _, name := range names {
			want = append(want, gone(name, api.MaxNumber), kept(name, 258, name), kept(name, 1, ""))
			size += 4*len(name) + 3*16
		}
		m := mem.New(list)
		for _, i := range source.Perm(len(want)) {
			puts(t, m, want[i])
		}
		holds(t, m, want...)
		sized(t, m, size)
		for _, e := range want {
			finds(t, m, e.Key, e.Seq, e)
			refuses(t, m, gone(e.Key, e.Seq), api.ErrExists)
		}
		for _, name := range names {
			finds(t, m, name, 257, kept(name, 1, ""))
			finds(t, m, name, api.MaxNumber-1, kept(name, 258, name))
			lacks(t, m, name, 0)
		}
	}
}

// P10.1, P10.2: keys of each byte alone, and of each two of the bytes that are near the ends.
func TestEveryByte(t *testing.T) {
	m := mem.New([]int{1, 2, 1, 3})
	var want []api.Entry
	for a := range 256 {
		want = append(want, kept(string([]byte{byte(a)}), 1, ""))
		for _, b := range []byte{0, 1, 2, 3, 4, 127, 128, 253, 254, 255} {
			want = append(want, kept(string([]byte{byte(a), b}), 1, ""))
		}
	}
	for i := range want {
		puts(t, m, want[i*7%len(want)])
	}
	holds(t, m, want...)
	for _, e := range want {
		finds(t, m, e.Key, 1, e)
	}
}

// P10.2: values of all kinds come back as they are, and an empty one is another thing than that the key is gone.
func TestValues(t *testing.T) {
	m := mem.New(nil)
	values := []string{"", "v", "vv", "\x00", "\x00\x00", "\x01", "\x01\x01", "\xff", "a\x00b", "é", strings.Repeat("v", 300), strings.Repeat("\x00", 300), strings.Repeat("\xff", 300)}
	var want []api.Entry
	for i := len(values) - 1; i >= 0; i-- {
		want = append(want, gone("k", 2*i+2), kept("k", 2*i+1, values[i]))
	}
	puts(t, m, want...)
	holds(t, m, want...)
	for _, e := range want {
		finds(t, m, "k", e.Seq, e)
	}
}

// P10.2: Size counts the bytes of keys and values, and 16 for each entry; Len counts the entries.
func TestSizeAndLen(t *testing.T) {
	m := mem.New([]int{1, 2})
	size := 0
	for i, e := range []api.Entry{
		kept("a", 1, ""), gone("a", 2), kept("\x00\x01\x00", 3, ""), kept("é", 1, "é"),
		kept(strings.Repeat("k", 80), 1, strings.Repeat("v", 300)), kept(strings.Repeat("\x00", 80), 1, strings.Repeat("\x00", 300)), gone(strings.Repeat("\x01", 80), api.MaxNumber),
	} {
		puts(t, m, e)
		size += len(e.Key) + len(e.Value) + 16
		sized(t, m, size)
		if m.Len() != i+1 {
			t.Errorf("Len() = %d; want %d", m.Len(), i+1)
		}
	}
	sized(t, m, 1+1+3+4+380+380+80+7*16)
}

// P10.1: whatever the heights are, all calls answer the same.
func TestHeightsHaveNoInfluence(t *testing.T) {
	lists := heights()
	tables := make([]*mem.Table, len(lists))
	for i, list := range lists {
		tables[i] = mem.New(list)
	}
	plain := mem.New(nil)
	source := rand.New(rand.NewSource(103))
	names := keys()
	for range 500 {
		e := kept(names[source.Intn(len(names))], source.Intn(9), "v")
		want := plain.Put(e)
		for i, m := range tables {
			if got := m.Put(e); got != want {
				t.Fatalf("heights %v: Put(%v) = %v; want %v", lists[i], e, got, want)
			}
		}
	}
	for _, m := range tables {
		holds(t, m, plain.All()...)
		sized(t, m, plain.Size())
		for _, name := range names {
			for seq := range 10 {
				if want, ok := plain.Get(name, seq); ok {
					finds(t, m, name, seq, want)
				} else {
					lacks(t, m, name, seq)
				}
			}
		}
	}
}

// P3: New changes neither the heights nor what lies behind them.
func TestHeightsStay(t *testing.T) {
	for _, list := range heights() {
		given := append(slices.Clone(list), 77, 78)
		was := slices.Clone(given)
		m := mem.New(given[:len(list)])
		for seq := range 20 {
			puts(t, m, kept("a", seq+1, ""))
		}
		if !slices.Equal(given, was) {
			t.Errorf("the heights became %v; want %v", given, was)
		}
	}
}

// P3, P10.2: what All answers is new memory: whoever changes or extends it changes neither the table nor another answer.
func TestAllMemory(t *testing.T) {
	m := mem.New(nil)
	want := []api.Entry{kept("a", 2, "v"), gone("a", 1), kept("b", 1, ""), kept("c", 9, "w"), gone("d", 4)}
	puts(t, m, want...)
	one, two := m.All(), m.All()
	one, two = one[:cap(one)], two[:cap(two)]
	for i := range one {
		one[i] = kept("one", 1, "1")
	}
	if !slices.Equal(two[:len(want)], want) {
		t.Errorf("another answer became %v", two)
	}
	for i := range two {
		two[i] = kept("two", 2, "2")
	}
	for i := range one {
		if one[i].Key != "one" {
			t.Error("two answers share memory")
		}
	}
	before := m.All()
	puts(t, m, gone("a", 3), kept("aa", 1, "new"), kept("e", 1, ""))
	if !slices.Equal(before, want) {
		t.Errorf("an answer became %v", before)
	}
	holds(t, m, gone("a", 3), want[0], want[1], kept("aa", 1, "new"), want[2], want[3], want[4], kept("e", 1, ""))
}

// P4: two tables do not know of each other.
func TestTwoTables(t *testing.T) {
	list := []int{2, 1}
	one, two := mem.New(list), mem.New(list)
	puts(t, one, kept("a", 1, "one"))
	holds(t, two)
	sized(t, two, 0)
	lacks(t, two, "a", 1)
	puts(t, two, gone("a", 1), kept("b", 1, "two"))
	holds(t, one, kept("a", 1, "one"))
	holds(t, two, gone("a", 1), kept("b", 1, "two"))
	finds(t, one, "a", 1, kept("a", 1, "one"))
}

// ruler is a list of heights as a skip list is made for: each lane has half of the keys of the one below it.
func ruler(many int) []int {
	out := make([]int, many)
	for i := range out {
		out[i] = bits.TrailingZeros(uint(i+1)) + 1
	}
	return out
}

// P1: with towers of the heights that a skip list is made for, many entries end soon, in whatever order they come.
func TestManyEntries(t *testing.T) {
	const many = 1 << 16
	m := mem.New(ruler(1 << 12))
	source := rand.New(rand.NewSource(104))
	for _, i := range source.Perm(many) {
		if err := m.Put(kept(string([]byte{byte(i >> 12), byte(i >> 4)}), i&15+1, "v")); err != nil {
			t.Fatal(err)
		}
	}
	all := m.All()
	if len(all) != many || m.Len() != many || m.Size() != many*19 {
		t.Fatalf("%d entries, Len() = %d, Size() = %d", len(all), m.Len(), m.Size())
	}
	for i, e := range all {
		if i > 0 && !mem.Before(all[i-1], e) {
			t.Fatalf("%v comes before %v", all[i-1], e)
		}
		finds(t, m, e.Key, e.Seq, e)
	}
}

// P1: without heights, All ends soon all the same: the entries that came one ahead of the other are many.
func TestAllWithoutHeights(t *testing.T) {
	const many = 1 << 18
	m := mem.New(nil)
	for i := range many {
		if err := m.Put(kept("k", i+1, "")); err != nil {
			t.Fatal(err)
		}
	}
	all := m.All()
	if len(all) != many || m.Size() != many*17 {
		t.Fatalf("%d entries, Size() = %d", len(all), m.Size())
	}
	for i, e := range all {
		if e != kept("k", many-i, "") {
			t.Fatalf("entry %d is %v", i, e)
		}
	}
}
