package block_test

import (
	"errors"
	"math"
	"slices"
	"strconv"
	"strings"
	"testing"

	"palinode/api"
	"palinode/block"
)

// put is an entry with a value.
func put(key string, seq int, value string) api.Entry {
	return api.Entry{Key: key, Seq: seq, Value: value}
}

// drop is an entry that says that a key is gone.
func drop(key string, seq int) api.Entry {
	return api.Entry{Key: key, Seq: seq, Drop: true}
}

// encodes is the encoding that a list must have.
func encodes(t *testing.T, l []api.Entry) string {
	t.Helper()
	b, err := block.Encode(l)
	if err != nil {
		t.Fatalf("Encode(%v) = %v; want nil", l, err)
	}
	return b
}

// decodes is the list that b must be.
func decodes(t *testing.T, b string) []api.Entry {
	t.Helper()
	l, err := block.Decode(b)
	if err != nil {
		t.Fatalf("Decode(%x) = %v; want nil", b, err)
	}
	return l
}

// both checks that a list and b are each other's encoding.
func both(t *testing.T, l []api.Entry, b string) {
	t.Helper()
	if !block.Sorted(l) {
		t.Errorf("Sorted(%v) = false", l)
	}
	if got, err := block.Encode(l); got != b || err != nil {
		t.Errorf("Encode(%v) = %x, %v; want %x", l, got, err, b)
	}
	if got, err := block.Decode(b); !slices.Equal(got, l) || err != nil {
		t.Errorf("Decode(%x) = %v, %v; want %v", b, got, err, l)
	}
}

// refuses checks that Encode refuses a list.
func refuses(t *testing.T, l []api.Entry, want api.Errno) {
	t.Helper()
	b, err := block.Encode(l)
	if b != "" || err != want || !errors.Is(err, want) {
		t.Errorf("Encode of %d entries = %x, %v; want nothing, %v", len(l), b, err, want)
	}
}

// no checks that b is no encoding.
func no(t *testing.T, b string) {
	t.Helper()
	l, err := block.Decode(b)
	if len(l) != 0 || err != api.ErrForm || !errors.Is(err, api.ErrForm) {
		t.Errorf("Decode(%.100x) = %v, %v; want nothing, ErrForm", b, l, err)
	}
}

// finds checks what Find tells.
func finds(t *testing.T, l []api.Entry, key string, seq int, want api.Entry, wantOK bool) {
	t.Helper()
	if e, ok := block.Find(l, key, seq); e != want || ok != wantOK {
		t.Errorf("Find(%v, %q, %d) = %v, %t; want %v, %t", l, key, seq, e, ok, want, wantOK)
	}
}

// numbered is many entries, in order.
func numbered(many int) []api.Entry {
	l := make([]api.Entry, many)
	for i := range l {
		l[i] = put("key "+strconv.Itoa(1000000+i), 1+i%7, strconv.Itoa(i))
	}
	return l
}

// kinds are lists of all kinds, in order.
func kinds() [][]api.Entry {
	long := strings.Repeat("k", 79)
	return [][]api.Entry{
		nil,
		{put("a", 1, "")},
		{drop("a", 1)},
		{put("ab", 2, "x"), drop("ac", 1)},
		{put("a", 5, "five"), drop("a", 4), put("a", 3, ""), put("a", 2, "two"), drop("a", 1)},
		{put("a", 1, "x"), put("ab", 1, "x"), put("abc", 1, "x"), put("abcd", 1, "x"), put("abcde", 1, "x"), put("abcdef", 1, "x"), put("b", 1, "x"), put("ba", 1, "x"), put("bb", 1, "x")},
		{put("\x00", 1, "\x00"), put("\x00\x00", 1, "\xff"), put("\x00\xff", 1, "\xc3"), put("é", 1, "é"), put("ê", 1, "€"), put("\xff", 1, ""), put("\xff\x00", 1, ""), put("\xff\xff", 1, "")},
		{put(long, api.MaxNumber, strings.Repeat("v", 300)), put(long+"a", 1<<48, strings.Repeat("v", 256)), put(long+"b", 1<<40, strings.Repeat("v", 255)), drop(long+"b", 1<<16)},
		numbered(9),
		numbered(200),
	}
}

// P12.1, P12.2, P12.3: the chapter's examples.
func TestExamples(t *testing.T) {
	both(t, nil, "\x00")
	both(t, []api.Entry{}, "\x00")
	both(t, []api.Entry{put("ab", 2, "x"), drop("ac", 1)}, "\x01\x02"+"\x00\x01\x02\x61\x62\x01\x02\x00\x01\x01\x78"+"\x01\x01\x01\x01\x63\x01\x01\x01\x01")
}

// rights are entries at the limits of what is valid, and beyond them.
var rights = []struct {
	e    api.Entry
	want bool
}{
	{put("a", 1, ""), true},
	{put("a", 1, "x"), true},
	{drop("a", 1), true},
	{put("\x00", 1, "\x00"), true},
	{put("", 1, "x"), false},
	{drop("", 1), false},
	{put(strings.Repeat("k", 80), 1, ""), true},
	{put(strings.Repeat("k", 81), 1, ""), false},
	{drop(strings.Repeat("k", 80), 1), true},
	{drop(strings.Repeat("k", 81), 1), false},
	{put(strings.Repeat("k", 100000), 1, ""), false},
	{put("a", 1, strings.Repeat("v", 300)), true},
	{put("a", 1, strings.Repeat("v", 301)), false},
	{put("a", 1, strings.Repeat("v", 100000)), false},
	{api.Entry{Key: "a", Seq: 1, Drop: true, Value: "x"}, false},
	{put("a", 0, ""), false},
	{put("a", -1, ""), false},
	{put("a", math.MinInt, ""), false},
	{put("a", api.MaxNumber, ""), true},
	{put("a", api.MaxNumber+1, ""), false},
	{put("a", math.MaxInt, ""), false},
	{drop("a", 0), false},
	{drop("a", math.MinInt), false},
	{drop("a", api.MaxNumber), true},
	{drop("a", math.MaxInt), false},
	{api.Entry{}, false},
}

// P12.1: an entry that is not valid is not sorted, wherever it stands in a list.
func TestSortedIsOfValidEntries(t *testing.T) {
	for _, c := range rights {
		lists := [][]api.Entry{{c.e}, {c.e, put("\xff", 1, "x")}}
		if c.e.Key > "\x00" {
			lists = append(lists, []api.Entry{put("\x00", 2, "x"), c.e}, []api.Entry{put("\x00", 2, "x"), c.e, put("\xff", 1, "x")})
		}
		for _, l := range lists {
			if got := block.Sorted(l); got != c.want {
				t.Errorf("Sorted(%v) = %t; want %t", l, got, c.want)
			}
			if c.want {
				encodes(t, l)
			} else {
				refuses(t, l, api.ErrArg)
			}
		}
	}
}

// P12.1: of each two entries beside each other the first one must come before the other.
func TestSortedIsInOrder(t *testing.T) {
	l := []api.Entry{
		drop("\x00", 1), put("\x00\x00", 9, ""), put("\x01", 3, "x"), put("A", 1, ""), put("a", api.MaxNumber, "x"), put("a", 256, ""), drop("a", 255), put("a", 2, "z"), put("a", 1, "z"),
		put("a\x00", 1, ""), put("aa", 7, ""), put("ab", 6, ""), put("b", 1, "x"), put("k", 1, ""), put("kk", 1, ""), drop("é", 1), put("\xff", 2, ""), put("\xff", 1, ""), put("\xff\x00", 1, ""), put("\xff\xff", 1, ""),
	}
	if !block.Sorted(l) {
		t.Fatalf("Sorted(%v) = false", l)
	}
	for i, a := range l {
		for j, b := range l {
			if got := block.Sorted([]api.Entry{a, b}); got != (i < j) {
				t.Errorf("Sorted(%v, %v) = %t", a, b, got)
			}
			if i < j {
				encodes(t, []api.Entry{a, b})
			} else {
				refuses(t, []api.Entry{a, b}, api.ErrArg)
			}
		}
	}
	for i := range len(l) - 1 {
		m := slices.Clone(l)
		m[i], m[i+1] = m[i+1], m[i]
		if block.Sorted(m) {
			t.Errorf("Sorted = true with the entries %d and %d the wrong way round", i, i+1)
		}
		m[i+1] = m[i]
		if block.Sorted(m) {
			t.Errorf("Sorted = true with the entries %d and %d the same", i, i+1)
		}
	}
}

// P12.1: two entries of one key and number are not sorted, whatever else they say.
func TestSortedTellsEntriesApartByKeyAndSeq(t *testing.T) {
	for _, l := range [][]api.Entry{
		{put("a", 1, "x"), put("a", 1, "x")},
		{put("a", 1, "x"), put("a", 1, "y")},
		{put("a", 1, "y"), put("a", 1, "x")},
		{put("a", 1, "x"), drop("a", 1)},
		{drop("a", 1), put("a", 1, "")},
	} {
		if block.Sorted(l) {
			t.Errorf("Sorted(%v) = true", l)
		}
		refuses(t, l, api.ErrArg)
	}
}

// P12.1: no entries are sorted, and a list is so however long it is.
func TestSortedHasNoLimit(t *testing.T) {
	if !block.Sorted(nil) || !block.Sorted([]api.Entry{}) {
		t.Error("Sorted of no entries = false")
	}
	l := numbered(500000)
	for _, many := range []int{1, 199, 200, 201, 202, 256, 500000} {
		if !block.Sorted(l[:many]) {
			t.Errorf("Sorted of %d entries = false", many)
		}
	}
	l[499999].Seq = 0
	if block.Sorted(l) {
		t.Error("Sorted = true with a last entry that is not valid")
	}
}

// P12.1: 200 entries are encoded, more are too long, which is told ahead of all else.
func TestEncodeTooMany(t *testing.T) {
	l := numbered(1000)
	if b := encodes(t, l[:200]); b[:2] != "\x01\xc8" {
		t.Errorf("Encode of 200 entries begins with %x", b[:2])
	}
	for _, many := range []int{201, 202, 256, 1000} {
		refuses(t, l[:many], api.ErrLong)
	}
	refuses(t, make([]api.Entry, 201), api.ErrLong)
	refuses(t, slices.Repeat(l[:1], 201), api.ErrLong)
	refuses(t, make([]api.Entry, 200), api.ErrArg)
	refuses(t, slices.Repeat(l[:1], 200), api.ErrArg)
	refuses(t, make([]api.Entry, 1000000), api.ErrLong)
}

// P12.1: the order is asked of all entries, and to the last two of a list.
func TestEncodeNotSorted(t *testing.T) {
	for at := 1; at < 200; at++ {
		l := numbered(200)
		l[at] = l[at-1]
		refuses(t, l, api.ErrArg)
		l = numbered(200)
		l[at].Seq = 0
		refuses(t, l, api.ErrArg)
	}
}

// P12.1, P12.3: at the indices 0, 4, 8 .. a key is written whole, at all others without what the key ahead of it begins with.
func TestPrefixes(t *testing.T) {
	both(t, []api.Entry{
		put("aa", 1, ""), put("aab", 1, ""), put("aac", 1, ""), put("ab", 1, ""),
		put("abc", 1, ""), put("abcd", 1, ""), put("b", 1, ""), put("bb", 1, ""),
		put("bbb", 1, ""), drop("bbb\x00", 1),
	}, "\x01\x0a"+
		"\x00\x01\x02aa\x01\x01\x00\x00"+
		"\x01\x02\x01\x01b\x01\x01\x00\x00"+
		"\x01\x02\x01\x01c\x01\x01\x00\x00"+
		"\x01\x01\x01\x01b\x01\x01\x00\x00"+
		"\x00\x01\x03abc\x01\x01\x00\x00"+
		"\x01\x03\x01\x01d\x01\x01\x00\x00"+
		"\x00\x01\x01b\x01\x01\x00\x00"+
		"\x01\x01\x01\x01b\x01\x01\x00\x00"+
		"\x00\x01\x03bbb\x01\x01\x00\x00"+
		"\x01\x03\x01\x01\x00\x01\x01\x01\x01")
}

// P12.1, P12.3: of a key that comes again nothing is left to be written, but at the indices 0, 4, 8 ..
func TestVersionsOfAKey(t *testing.T) {
	both(t, []api.Entry{put("key", 300, "x"), drop("key", 299), put("key", 7, ""), put("key", 6, ""), put("key", 5, ""), put("key", 4, "")}, "\x01\x06"+
		"\x00\x01\x03key\x02\x01\x2c\x00\x01\x01x"+
		"\x01\x03\x00\x02\x01\x2b\x01\x01"+
		"\x01\x03\x00\x01\x07\x00\x00"+
		"\x01\x03\x00\x01\x06\x00\x00"+
		"\x00\x01\x03key\x01\x05\x00\x00"+
		"\x01\x03\x00\x01\x04\x00\x00")
}

// P12.1, P12.3: keys share bytes, whatever these are, also a piece of a rune.
func TestPrefixesGoByBytes(t *testing.T) {
	both(t, []api.Entry{put("\x00", 1, ""), put("\x00\x00", 1, ""), put("é", 1, ""), put("ê", 1, ""), put("\xff", 1, ""), put("\xff\xfe", 1, ""), put("\xff\xff", 1, "")}, "\x01\x07"+
		"\x00\x01\x01\x00\x01\x01\x00\x00"+
		"\x01\x01\x01\x01\x00\x01\x01\x00\x00"+
		"\x00\x01\x02\xc3\xa9\x01\x01\x00\x00"+
		"\x01\x01\x01\x01\xaa\x01\x01\x00\x00"+
		"\x00\x01\x01\xff\x01\x01\x00\x00"+
		"\x01\x01\x01\x01\xfe\x01\x01\x00\x00"+
		"\x01\x01\x01\x01\xff\x01\x01\x00\x00")
}

// P12.1, P12.3: keys, numbers and values of all lengths.
func TestLengths(t *testing.T) {
	long := strings.Repeat("k", 79)
	both(t, []api.Entry{put(long, 1, ""), put(long+"a", 1, ""), put(long+"b", 1, "")}, "\x01\x03"+
		"\x00\x01\x4f"+long+"\x01\x01\x00\x00"+
		"\x01\x4f\x01\x01a\x01\x01\x00\x00"+
		"\x01\x4f\x01\x01b\x01\x01\x00\x00")
	for _, c := range []struct {
		seq int
		b   string
	}{
		{1, "\x01\x01"}, {255, "\x01\xff"}, {256, "\x02\x01\x00"}, {1 << 16, "\x03\x01\x00\x00"}, {1 << 24, "\x04\x01\x00\x00\x00"}, {1 << 32, "\x05\x01\x00\x00\x00\x00"}, {1 << 40, "\x06\x01\x00\x00\x00\x00\x00"},
		{1 << 48, "\x07\x01\x00\x00\x00\x00\x00\x00"}, {api.MaxNumber, "\x07\x1f\xff\xff\xff\xff\xff\xff"},
	} {
		both(t, []api.Entry{put("a", c.seq, "")}, "\x01\x01\x00\x01\x01a"+c.b+"\x00\x00")
		both(t, []api.Entry{drop("a", c.seq)}, "\x01\x01\x00\x01\x01a"+c.b+"\x01\x01")
	}
	for _, c := range []struct {
		size int
		b    string
	}{{0, "\x00"}, {1, "\x01\x01"}, {255, "\x01\xff"}, {256, "\x02\x01\x00"}, {299, "\x02\x01\x2b"}, {300, "\x02\x01\x2c"}} {
		value := strings.Repeat("v", c.size)
		both(t, []api.Entry{put("a", 1, value)}, "\x01\x01\x00\x01\x01a\x01\x01\x00"+c.b+value)
	}
	for size := 1; size <= 80; size++ {
		key := strings.Repeat("k", size)
		both(t, []api.Entry{drop(key, 1)}, "\x01\x01\x00\x01"+string([]byte{byte(size)})+key+"\x01\x01\x01\x01")
	}
}

// P12.1: an empty value is another thing than none.
func TestEmptyValueAndNone(t *testing.T) {
	both(t, []api.Entry{put("a", 1, "")}, "\x01\x01\x00\x01\x01a\x01\x01\x00\x00")
	both(t, []api.Entry{drop("a", 1)}, "\x01\x01\x00\x01\x01a\x01\x01\x01\x01")
}

// P12.1, P12.2, P12.3: lists of all kinds, of each of them every beginning and end, are those of the model.
func TestKinds(t *testing.T) {
	for _, l := range kinds() {
		for at := range len(l) + 1 {
			sameEncode(t, l[:at])
			sameEncode(t, l[at:])
		}
	}
}

// P12.2: what is no block by its numbers and strings.
func TestDecodeBrokenNumbers(t *testing.T) {
	const key, seq = "\x01\x01a", "\x01\x05"
	for _, b := range []string{
		"",
		// The number of entries: cut off, too large, written too long, not what follows.
		"\x01", "\x08", "\xff", "\x02\x00\x01\x00" + key + seq + "\x01\x01", "\x01\x00", "\x02\x00\xc9", "\x01\xc9", "\x07\x1f\xff\xff\xff\xff\xff\xff", "\x07\xff\xff\xff\xff\xff\xff\xff", "\x01\x01", "\x00\x00", "\x00\x01\x01",
		"\x01\x02\x00" + key + seq + "\x01\x01",
		"\x00\x00" + key + seq + "\x01\x01",
		// The length of what is shared: cut off, more than there is, written too long.
		"\x01\x01\x01", "\x01\x01\x08" + key + seq + "\x01\x01", "\x01\x01\x01\x01" + key + seq + "\x01\x01", "\x01\x01\x01\x00" + key + seq + "\x01\x01", "\x01\x01\x07\x1f\xff\xff\xff\xff\xff\xff" + key + seq + "\x01\x01",
		// The key: cut off, longer than b, written too long.
		"\x01\x01\x00", "\x01\x01\x00\x01", "\x01\x01\x00\x01\x02a", "\x01\x01\x00\x01\xffa" + seq + "\x01\x01", "\x01\x01\x00\x02\x00\x01a" + seq + "\x01\x01", "\x01\x01\x00\x07\x1f\xff\xff\xff\xff\xff\xffa" + seq + "\x01\x01",
		// The number of the entry: cut off, none, too large, written too long.
		"\x01\x01\x00" + key, "\x01\x01\x00" + key + "\x01", "\x01\x01\x00" + key + "\x00\x01\x01", "\x01\x01\x00" + key + "\x07\x20\x00\x00\x00\x00\x00\x00\x01\x01", "\x01\x01\x00" + key + "\x02\x00\x05\x01\x01", "\x01\x01\x00" + key + "\x08\x01\x01",
		// Whether there is a value: cut off, neither, written too long.
		"\x01\x01\x00" + key + seq, "\x01\x01\x00" + key + seq + "\x01", "\x01\x01\x00" + key + seq + "\x01\x02", "\x01\x01\x00" + key + seq + "\x01\x02\x00", "\x01\x01\x00" + key + seq + "\x01\xff", "\x01\x01\x00" + key + seq + "\x02\x01\x00",
		"\x01\x01\x00" + key + seq + "\x02\x00\x01", "\x01\x01\x00" + key + seq + "\x02\x01\x01", "\x01\x01\x00" + key + seq + "\x01\x00\x00", "\x01\x01\x00" + key + seq + "\x08",
		// The value: cut off, longer than b, written too long.
		"\x01\x01\x00" + key + seq + "\x00", "\x01\x01\x00" + key + seq + "\x00\x01", "\x01\x01\x00" + key + seq + "\x00\x01\x02x", "\x01\x01\x00" + key + seq + "\x00\x02\x00\x01x", "\x01\x01\x00" + key + seq + "\x00\x01\x00",
		// Something behind the end.
		"\x01\x01\x00" + key + seq + "\x01\x01\x00", "\x01\x01\x00" + key + seq + "\x00\x00\x00", "\x01\x01\x00" + key + seq + "\x00\x01\x01xx",
	} {
		no(t, b)
	}
	both(t, []api.Entry{drop("a", 5)}, "\x01\x01\x00"+key+seq+"\x01\x01")
}

// raw is an entry as bytes: what is shared, the rest of the key, and what tells that it is gone behind number 1.
func raw(same int, rest string) string {
	return modelNum(same) + modelText(rest) + "\x01\x01\x01\x01"
}

// P12.2: what is no block because less of a key is shared than may be, or more than there is, or anything at the indices 0, 4, 8 ..
func TestDecodeBrokenPrefixes(t *testing.T) {
	four := raw(0, "abc") + raw(2, "d") + raw(1, "c") + raw(2, "d")
	good := "\x01\x05" + four + raw(0, "acdx")
	decodes(t, good)
	for _, b := range []string{
		"\x01\x05" + four + raw(3, "x"),
		"\x01\x05" + four + raw(1, "cdx"),
		"\x01\x02" + raw(0, "abc") + raw(0, "abd"),
		"\x01\x02" + raw(0, "abc") + raw(1, "bd"),
		"\x01\x02" + raw(0, "abc") + raw(2, "cd"),
		"\x01\x02" + raw(0, "abc") + raw(4, "d"),
		"\x01\x02" + raw(0, "abc") + raw(256, "d"),
		"\x01\x02" + raw(0, "abc") + raw(api.MaxNumber, "d"),
		"\x01\x01" + raw(1, "abc"),
		"\x01\x01" + raw(3, ""),
		"\x01\x01" + raw(api.MaxNumber, "a"),
	} {
		no(t, b)
	}
	decodes(t, "\x01\x02"+raw(0, "abc")+raw(3, "d"))
	decodes(t, "\x01\x02"+raw(0, "abc")+raw(2, "d"))
}

// P12.2: what is no block because its entries are not valid.
func TestDecodeBrokenEntries(t *testing.T) {
	long := strings.Repeat("k", 80)
	for _, b := range []string{
		"\x01\x01" + raw(0, ""),
		"\x01\x01" + raw(0, long+"k"),
		"\x01\x01" + raw(0, strings.Repeat("k", 1000)),
		"\x01\x01" + raw(0, strings.Repeat("k", api.MaxText)),
		"\x01\x01" + raw(0, strings.Repeat("k", api.MaxText+1)),
		"\x01\x02" + raw(0, long) + raw(80, "k"),
		"\x01\x02" + raw(0, long[1:]) + raw(79, "kk"),
		"\x01\x01\x00\x01\x01a\x01\x01\x00" + modelText(strings.Repeat("v", 301)),
		"\x01\x01\x00\x01\x01a\x01\x01\x00" + modelText(strings.Repeat("v", api.MaxText)),
		"\x01\x01\x00\x01\x01a\x01\x01\x00" + modelText(strings.Repeat("v", api.MaxText+1)),
		"\x01\x01\x00\x01\x01a\x00\x01\x01",
	} {
		no(t, b)
	}
	decodes(t, "\x01\x02"+raw(0, long[1:])+raw(79, "k"))
	decodes(t, "\x01\x01\x00\x01\x01a\x01\x01\x00"+modelText(strings.Repeat("v", 300)))
}

// P12.2: what is no block because its entries are not in order, or one of them comes twice.
func TestDecodeBrokenOrder(t *testing.T) {
	for _, b := range []string{
		"\x01\x02" + raw(0, "b") + raw(0, "a"),
		"\x01\x02" + raw(0, "ab") + raw(1, ""),
		"\x01\x02" + raw(0, "a") + raw(1, ""),
		"\x01\x02\x00\x01\x01a\x01\x01\x00\x00\x01\x01\x00\x01\x01\x01\x01",
		"\x01\x02\x00\x01\x01a\x01\x01\x01\x01\x01\x01\x00\x01\x02\x01\x01",
		"\x01\x02\x00\x01\x01a\x01\xff\x01\x01\x01\x01\x00\x02\x01\x00\x01\x01",
		"\x01\x05" + raw(0, "a") + raw(1, "b") + raw(2, "c") + raw(3, "d") + raw(0, "abcd"),
		"\x01\x05" + raw(0, "a") + raw(1, "b") + raw(2, "c") + raw(3, "d") + raw(0, "abc"),
	} {
		no(t, b)
	}
	decodes(t, "\x01\x05"+raw(0, "a")+raw(1, "b")+raw(2, "c")+raw(3, "d")+raw(0, "abcd\x00"))
	decodes(t, "\x01\x02\x00\x01\x01a\x01\x02\x01\x01\x01\x01\x00\x01\x01\x01\x01")
}

// P12.2: 201 entries are no block, though each of them is right.
func TestDecodeTooMany(t *testing.T) {
	b := ""
	for i := range 201 {
		b += raw(0, string([]byte{byte(i)}))
	}
	no(t, "\x01\xc9"+b)
	if l := decodes(t, "\x01\xc8"+b[:len(b)-len(raw(0, "k"))]); len(l) != 200 {
		t.Errorf("Decode tells %d entries of 200", len(l))
	}
}

// P12.2, P12.3: each byte of a block made another one, each one taken away, one put ahead of each, each end cut off: all of it tells what the model tells.
func TestDecodeHarmedBytes(t *testing.T) {
	for _, l := range kinds()[:len(kinds())-1] {
		b := encodes(t, l)
		step := 1 + len(b)/100 // that is, of a long block not all other bytes are tried
		for at := range len(b) {
			for c := 1; c < 256; c += step {
				sameDecode(t, b[:at]+string([]byte{b[at] + byte(c)})+b[at+1:])
			}
			no(t, b[:at])
			sameDecode(t, b[:at]+b[at+1:])
			for _, more := range []string{"\x00", "\x01", "\x02", "a"} {
				sameDecode(t, b[:at]+more+b[at:])
				no(t, b+more)
			}
		}
	}
}

// P12.2, P12.3: of all short strings of few bytes those are blocks that the model says.
func TestDecodeEveryShortString(t *testing.T) {
	const most = 11
	found := 0
	var from func(b string)
	from = func(b string) {
		sameDecode(t, b)
		if l, err := block.Decode(b); err == nil && len(l) > 0 {
			found++
		}
		if len(b) == most {
			return
		}
		for _, c := range []string{"\x00", "\x01", "\x02"} {
			from(b + c)
		}
	}
	from("")
	// Of one entry, gone or with an empty value: keys of 1 byte with numbers of 1 byte, keys of 2 bytes, numbers of 2 bytes. All else is longer.
	if want := 2 * (3*2 + 9*2 + 3*6); found != want {
		t.Errorf("%d of the short strings are blocks; want %d", found, want)
	}
}

// P12.2: Find tells the first entry of the key up to the number, in a sorted list the newest one.
func TestFind(t *testing.T) {
	l := []api.Entry{put("a", 9, "nine"), drop("a", 5), put("a", 2, "two"), put("ab", 7, "x"), put("b", 1, "")}
	for _, c := range []struct {
		key  string
		seq  int
		want int
	}{
		{"a", math.MaxInt, 0}, {"a", api.MaxNumber, 0}, {"a", 10, 0}, {"a", 9, 0}, {"a", 8, 1}, {"a", 6, 1}, {"a", 5, 1}, {"a", 4, 2}, {"a", 3, 2}, {"a", 2, 2}, {"ab", 7, 3}, {"ab", 100, 3}, {"b", 1, 4}, {"b", math.MaxInt, 4},
	} {
		finds(t, l, c.key, c.seq, l[c.want], true)
	}
	for _, c := range []struct {
		key string
		seq int
	}{
		{"a", 1}, {"a", 0}, {"a", -1}, {"a", math.MinInt}, {"ab", 6}, {"b", 0}, {"", 100}, {"A", 100}, {"aa", 100}, {"abc", 100}, {"c", 100}, {"\x00", 100}, {"a\x00", 100}, {strings.Repeat("a", 1000), 100},
	} {
		finds(t, l, c.key, c.seq, api.Entry{}, false)
	}
	finds(t, nil, "a", 1, api.Entry{}, false)
	finds(t, []api.Entry{}, "", 0, api.Entry{}, false)
}

// P12.2: a list that is asked need not be sorted; the first entry counts, not the newest one.
func TestFindInAnyList(t *testing.T) {
	l := []api.Entry{put("b", 1, "one"), put("a", 3, "three"), put("b", 5, "five"), put("a", 3, "again"), drop("b", 4), put("b", 1, "last")}
	finds(t, l, "b", 9, l[0], true)
	finds(t, l, "b", 1, l[0], true)
	finds(t, l, "a", 3, l[1], true)
	finds(t, l[2:], "b", 9, l[2], true)
	finds(t, l[2:], "b", 4, l[4], true)
	finds(t, l[2:], "b", 3, l[5], true)
	finds(t, l[2:], "a", 9, l[3], true)
	finds(t, l, "b", 0, api.Entry{}, false)
}

// P12.2: a list that is asked may have entries that are not valid.
func TestFindEntriesThatAreNotValid(t *testing.T) {
	long := strings.Repeat("k", 1000)
	l := []api.Entry{{}, put("a", math.MaxInt, "x"), put("a", -5, "y"), put("a", math.MinInt, "z"), put(long, 0, long), {Key: "b", Seq: 1, Drop: true, Value: "w"}}
	finds(t, l, "", 0, l[0], true)
	finds(t, l, "", -1, api.Entry{}, false)
	finds(t, l, "a", math.MaxInt, l[1], true)
	finds(t, l, "a", math.MaxInt-1, l[2], true)
	finds(t, l, "a", -5, l[2], true)
	finds(t, l, "a", -6, l[3], true)
	finds(t, l, "a", math.MinInt, l[3], true)
	finds(t, l, long, 0, l[4], true)
	finds(t, l, "b", 1, l[5], true)
}

// P12.2: a long list is asked to its end.
func TestFindInALongList(t *testing.T) {
	l := numbered(500000)
	last := l[len(l)-1]
	finds(t, l, last.Key, last.Seq, last, true)
	finds(t, l, last.Key, last.Seq-1, api.Entry{}, false)
	finds(t, l, "none", 9, api.Entry{}, false)
}

// P12.3: a list, encoded and decoded, is the same; so are the bytes, decoded and encoded.
func TestInverses(t *testing.T) {
	for _, l := range kinds() {
		b := encodes(t, l)
		back := decodes(t, b)
		if !slices.Equal(back, l) {
			t.Errorf("Decode(Encode(%v)) = %v", l, back)
		}
		if again := encodes(t, back); again != b {
			t.Errorf("Encode(Decode(%x)) = %x", b, again)
		}
	}
}

// P12.3: the longest block, of 200 keys that share nothing, and values of 300 bytes.
func TestLongestBlock(t *testing.T) {
	l := make([]api.Entry, 200)
	for i := range l {
		l[i] = put(string([]byte{byte(i)})+strings.Repeat("k", 79), api.MaxNumber, strings.Repeat("v", 300))
	}
	b := encodes(t, l)
	if want := 2 + 200*(1+2+80+8+1+3+300); len(b) != want {
		t.Errorf("the longest block has %d bytes; want %d", len(b), want)
	}
	sameEncode(t, l)
	no(t, b[:len(b)-1])
	no(t, b+"v")
}

// P1: bytes that say they are more than they are, and such that are many, are refused soon.
func TestDecodeLongBytes(t *testing.T) {
	for _, c := range []string{"\x00", "\x01", "\x02", "\x07", "\x08", "a", "\xff"} {
		no(t, strings.Repeat(c, 1<<24))
		no(t, "\x01\xc8\x00"+strings.Repeat(c, 1<<24))
	}
	// Keys that would grow by 2^20 bytes each time.
	grow := "\x01\xc8\x00" + modelText(strings.Repeat("k", api.MaxText)) + "\x01\x01\x01\x01"
	for i := 1; i < 200; i++ {
		grow += modelNum(i*api.MaxText) + modelText("k") + "\x01\x01\x01\x01"
	}
	no(t, grow)
}

// P3: no call changes a list, nor what lies behind it.
func TestListsStay(t *testing.T) {
	all := append(numbered(20), put("behind", 1, "x"), api.Entry{})
	was := slices.Clone(all)
	l := all[:20]
	encodes(t, l)
	block.Sorted(l)
	block.Find(l, l[3].Key, 9)
	refuses(t, all, api.ErrArg)
	if !slices.Equal(all, was) {
		t.Errorf("the entries became %v", all)
	}
}

// P3: what Decode tells is new memory each time, and what Encode told does not change with the list.
func TestResultsAreNew(t *testing.T) {
	l := numbered(10)
	b := encodes(t, l)
	one, two := decodes(t, b), decodes(t, b)
	for i := range one {
		one[i] = put("x", 1, "x")
	}
	if !slices.Equal(two, l) || !slices.Equal(decodes(t, b), l) {
		t.Errorf("Decode tells %v, behind a change of what it told", two)
	}
	was := strings.Clone(b)
	for i := range l {
		l[i] = drop("z", 1)
	}
	if b != was {
		t.Errorf("the block became %x", b)
	}
}

// P4: earlier calls have no influence, also those that were refused.
func TestEarlierCallsHaveNoInfluence(t *testing.T) {
	for _, l := range kinds() {
		b := encodes(t, l)
		no(t, b+"\x00")
		refuses(t, make([]api.Entry, 3), api.ErrArg)
		refuses(t, make([]api.Entry, 300), api.ErrLong)
		no(t, b[:len(b)-1])
		both(t, l, b)
	}
}
