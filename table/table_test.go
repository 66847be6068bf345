package table_test

import (
	"errors"
	"math"
	"math/rand"
	"slices"
	"strconv"
	"strings"
	"testing"

	"palinode/api"
	"palinode/block"
	"palinode/bloom"
	"palinode/frame"
	"palinode/pack"
	"palinode/table"
)

// put is an entry with a value.
func put(key string, seq int, value string) api.Entry {
	return api.Entry{Key: key, Seq: seq, Value: value}
}

// drop is an entry that says that a key is gone.
func drop(key string, seq int) api.Entry {
	return api.Entry{Key: key, Seq: seq, Drop: true}
}

// built is the bytes of a table that must be built.
func built(t *testing.T, l []api.Entry, many, bits int) string {
	t.Helper()
	b, err := table.Build(l, many, bits)
	if err != nil || b == "" {
		t.Fatalf("Build of %d entries, %d, %d = %d bytes, %v; want nil", len(l), many, bits, len(b), err)
	}
	return b
}

// opened is the table that b must be.
func opened(t *testing.T, b string) *table.Table {
	t.Helper()
	u, err := table.Open(b)
	if err != nil || u == nil {
		t.Fatalf("Open(%.200x) = %v, %v; want a table", b, u, err)
	}
	return u
}

// refuses checks that Build refuses its arguments.
func refuses(t *testing.T, l []api.Entry, many, bits int, want api.Errno) {
	t.Helper()
	b, err := table.Build(l, many, bits)
	if b != "" || err != want || !errors.Is(err, want) {
		t.Errorf("Build of %d entries, %d, %d = %.100x, %v; want nothing, %v", len(l), many, bits, b, err, want)
	}
}

// no checks that b is no table.
func no(t *testing.T, b string) {
	t.Helper()
	u, err := table.Open(b)
	if u != nil || err != api.ErrForm || !errors.Is(err, api.ErrForm) {
		t.Errorf("Open(%.200x), %d bytes, = %v, %v; want nil, ErrForm", b, len(b), u, err)
	}
}

// finds checks what Get tells.
func finds(t *testing.T, u *table.Table, key string, seq int, want api.Entry, wantOK bool) {
	t.Helper()
	if e, ok := u.Get(key, seq); e != want || ok != wantOK {
		t.Errorf("Get(%q, %d) = %v, %t; want %v, %t", key, seq, e, ok, want, wantOK)
	}
}

// numbered is many entries of different keys, in order.
func numbered(many int) []api.Entry {
	l := make([]api.Entry, many)
	for i := range l {
		l[i] = put("key "+strconv.Itoa(1000000+i), 1+i%7, strconv.Itoa(i))
	}
	return l
}

// versions is many entries of one key, in order.
func versions(key string, many int) []api.Entry {
	l := make([]api.Entry, many)
	for i := range l {
		l[i] = put(key, 2*(many-i), strconv.Itoa(i))
	}
	return l
}

// mixed is keys with many entries, among keys with few.
func mixed() []api.Entry {
	return slices.Concat(versions("a", 7), []api.Entry{drop("aa", 5), put("ab", 3, "")}, versions("b", 12), []api.Entry{put("b\x00", 1, "x"), drop("c", api.MaxNumber), put("c", 1, "y")}, versions("d", 3))
}

// kinds are lists of all kinds, in order.
func kinds() [][]api.Entry {
	long := strings.Repeat("k", 79)
	return [][]api.Entry{
		{put("a", 1, "")},
		{drop("a", 1)},
		{put("a", 2, "x"), drop("a", 1), put("b", 7, "")},
		{put("\x00", 1, "\x00"), put("\x00\x00", 1, "\xff"), drop("\x00\xff", 1), put("é", 1, "é"), put("ê", 1, "€"), put("\xff", 1, ""), put("\xff\x00", 1, ""), put("\xff\xff", 1, "")},
		{put(long, api.MaxNumber, strings.Repeat("v", 300)), put(long+"a", 1<<48, strings.Repeat("v", 256)), put(long+"b", 1<<40, strings.Repeat("v", 255)), drop(long+"b", 1<<16)},
		versions("k", 60),
		mixed(),
		numbered(101),
	}
}

// P13.1, P13.2: the chapter's examples.
func TestExamples(t *testing.T) {
	if n := opened(t, built(t, numbered(5), 2, 10)).Blocks(); n != 3 {
		t.Errorf("Blocks = %d; want 3", n)
	}
	refuses(t, nil, 2, 10, api.ErrArg)
	refuses(t, []api.Entry{}, 2, 10, api.ErrArg)
	no(t, "")
}

// P13.1: the frames of a table, byte by byte.
func TestBytes(t *testing.T) {
	l := []api.Entry{put("a", 2, "x"), drop("a", 1), put("b", 7, "")}
	want := "\x01\x13" + "\x01\x02" + "\x00\x01\x01a\x01\x02\x00\x01\x01x" + "\x01\x01\x00\x01\x01\x01\x01" + "\x98\x0b\x19\x14" +
		"\x01\x0a" + "\x01\x01" + "\x00\x01\x01b\x01\x07\x00\x00" + "\xae\xe8\xd4\x27" +
		"\x01\x08" + "\x01\x02\x01\x01a\x01\x01b" + "\x55\xeb\x9a\xc0" +
		"\x01\x09" + "\x01\x30\x00\x02\x60\x00\x0c\x80\x06" + "\x4a\x35\x2a\x32" +
		"\x01\x03" + "\x02\x0a\x54" + "\x03\xe5\x4f\xed"
	if b := built(t, l, 2, 10); b != want {
		t.Errorf("Build(%v, 2, 10) = %x; want %x", l, b, want)
	}
	if u := opened(t, want); !slices.Equal(u.All(), l) || u.Blocks() != 2 {
		t.Errorf("Open(%x) is a table of %v in %d blocks", want, u.All(), u.Blocks())
	}
}

// P13.1: how many entries a block may have, and how many bits a key.
func TestBuildManyAndBits(t *testing.T) {
	l := numbered(120)
	for _, many := range []int{1, 2, 49, 50} {
		for _, bits := range []int{1, 2, 19, 20} {
			sameBuild(t, l, many, bits)
			built(t, l, many, bits)
		}
	}
	for _, n := range []int{0, -1, -50, math.MinInt, math.MaxInt, 1 << 32, 1<<32 + 10, 256 + 10} {
		refuses(t, l, n, 10, api.ErrArg)
		refuses(t, l, 10, n, api.ErrArg)
		refuses(t, l, n, n, api.ErrArg)
	}
	refuses(t, l, 51, 10, api.ErrArg)
	refuses(t, l, 10, 21, api.ErrArg)
}

// P13.1: a list that is empty or not sorted.
func TestBuildSorted(t *testing.T) {
	long := strings.Repeat("k", 80)
	for _, l := range [][]api.Entry{
		{put("b", 1, ""), put("a", 1, "")},
		{put("a", 1, ""), put("a", 2, "")},
		{put("a", 1, ""), put("a", 1, "")},
		{put("a", 1, ""), drop("a", 1)},
		{put("ab", 1, ""), put("a", 1, "")},
		{put("\xff", 1, ""), put("a", 1, "")},
		{put("", 1, "")},
		{put("a", 0, "")},
		{put("a", -1, "")},
		{put("a", math.MinInt, "")},
		{put("a", api.MaxNumber+1, "")},
		{put("a", math.MaxInt, "")},
		{put(long+"k", 1, "")},
		{put("a", 1, strings.Repeat("v", 301))},
		{{Key: "a", Seq: 1, Drop: true, Value: "x"}},
		{{}},
		slices.Concat(numbered(4), numbered(4)),
		// Unsorted only from one block to the next.
		{put("c", 1, ""), put("d", 1, ""), put("a", 1, ""), put("b", 1, "")},
		{put("a", 1, ""), put("b", 1, ""), put("b", 1, ""), put("c", 1, "")},
	} {
		for many := 1; many <= 4; many++ {
			refuses(t, l, many, 10, api.ErrArg)
		}
	}
	built(t, []api.Entry{put(long, api.MaxNumber, strings.Repeat("v", 300))}, 1, 1)
}

// P13.1: how many entries a table may have, and how many blocks.
func TestBuildTooMany(t *testing.T) {
	l := numbered(1502)
	for _, c := range []struct{ entries, many, blocks int }{
		{1500, 50, 30}, {1500, 2, 750}, {1499, 2, 750}, {1500, 49, 31}, {1000, 1, 1000}, {999, 1, 999}, {1500, 3, 500},
	} {
		b := built(t, l[:c.entries], c.many, 10)
		if got := opened(t, b).Blocks(); got != c.blocks {
			t.Errorf("%d entries, %d in each block, are %d blocks; want %d", c.entries, c.many, got, c.blocks)
		}
		sameBuild(t, l[:c.entries], c.many, 10)
	}
	for _, c := range []struct{ entries, many int }{
		{1501, 50}, {1501, 2}, {1502, 49}, {1001, 1}, {1500, 1}, {1501, 1},
	} {
		refuses(t, l[:c.entries], c.many, 10, api.ErrLong)
	}
	refuses(t, numbered(100000), 50, 20, api.ErrLong)
}

// P13.1, P2: ErrArg is named ahead of ErrLong.
func TestBuildTooManyAndWrong(t *testing.T) {
	l := numbered(3000)
	for _, c := range [][2]int{{0, 10}, {51, 10}, {1, 0}, {1, 21}, {-1, -1}} {
		refuses(t, l, c[0], c[1], api.ErrArg)
	}
	slices.Reverse(l[2990:])
	refuses(t, l, 50, 10, api.ErrArg)
	refuses(t, l, 1, 10, api.ErrArg)
	refuses(t, l[:2990], 50, 10, api.ErrLong)
}

// P13.1, P13.2: the longest table there is, and the one of the longest index.
func TestLongestTables(t *testing.T) {
	l := make([]api.Entry, 1500)
	for i := range l {
		l[i] = put(string([]byte{byte(i / 256), byte(i)})+strings.Repeat("k", 78), api.MaxNumber, strings.Repeat("v", 300))
	}
	for _, many := range []int{2, 3, 4, 50} {
		sameBuild(t, l, many, 20)
	}
	sameBuild(t, l[:1000], 1, 20)
}

// P13.1, P13.2: lists of all kinds, with all numbers of entries in a block.
func TestKinds(t *testing.T) {
	for _, l := range kinds() {
		for many := 1; many <= 50; many++ {
			sameBuild(t, l, many, 1+many%20)
		}
	}
}

// P13.2: how many blocks there are: the last one may be smaller.
func TestBlocks(t *testing.T) {
	for _, c := range []struct{ entries, many, blocks int }{
		{1, 1, 1}, {1, 50, 1}, {2, 1, 2}, {2, 2, 1}, {3, 2, 2}, {4, 2, 2}, {5, 2, 3}, {49, 50, 1}, {50, 50, 1}, {51, 50, 2}, {100, 50, 2}, {101, 50, 3},
	} {
		if got := opened(t, built(t, numbered(c.entries), c.many, 5)).Blocks(); got != c.blocks {
			t.Errorf("%d entries, %d in each block, are %d blocks; want %d", c.entries, c.many, got, c.blocks)
		}
	}
}

// P13.2: the least key and the greatest one.
func TestMinMax(t *testing.T) {
	for _, c := range []struct {
		l              []api.Entry
		least, greater string
	}{
		{[]api.Entry{put("a", 1, "")}, "a", "a"},
		{versions("b", 9), "b", "b"},
		{mixed(), "a", "d"},
		{[]api.Entry{drop("\x00", 9), put("a", 2, ""), put("ab", 5, ""), drop("\xff", 1)}, "\x00", "\xff"},
	} {
		for many := 1; many <= 10; many++ {
			u := opened(t, built(t, c.l, many, 10))
			if u.Min() != c.least || u.Max() != c.greater {
				t.Errorf("Min, Max of %v = %q, %q; want %q, %q", c.l, u.Min(), u.Max(), c.least, c.greater)
			}
		}
	}
}

// P13.2: of the entries of a key the newest one up to the number is found, in whichever block it lies.
func TestGet(t *testing.T) {
	l := []api.Entry{put("a", 9, "nine"), drop("a", 5), put("a", 2, "two"), put("ab", 7, "x"), put("b", 1, "")}
	for many := 1; many <= 6; many++ {
		u := opened(t, built(t, l, many, 10))
		for _, c := range []struct {
			key  string
			seq  int
			want int
		}{
			{"a", math.MaxInt, 0}, {"a", api.MaxNumber, 0}, {"a", 10, 0}, {"a", 9, 0}, {"a", 8, 1}, {"a", 6, 1}, {"a", 5, 1}, {"a", 4, 2}, {"a", 3, 2}, {"a", 2, 2}, {"ab", 7, 3}, {"ab", 100, 3}, {"b", 1, 4}, {"b", math.MaxInt, 4},
		} {
			finds(t, u, c.key, c.seq, l[c.want], true)
		}
		for _, c := range []struct {
			key string
			seq int
		}{
			{"a", 1}, {"a", 0}, {"a", -1}, {"a", math.MinInt}, {"ab", 6}, {"b", 0}, {"b", math.MinInt}, {"", 100}, {"", 0}, {"A", 100}, {"aa", 100}, {"abc", 100}, {"c", 100}, {"\x00", 100}, {"a\x00", 100}, {"\xff", math.MaxInt}, {strings.Repeat("a", 1000), 100},
		} {
			finds(t, u, c.key, c.seq, api.Entry{}, false)
		}
	}
}

// P13.2: the entries of one key may fill many blocks.
func TestGetVersions(t *testing.T) {
	l := versions("k", 200)
	for _, many := range []int{1, 2, 3, 7, 50} {
		u := opened(t, built(t, l, many, 10))
		for i, e := range l {
			finds(t, u, "k", e.Seq, e, true)
			finds(t, u, "k", e.Seq+1, e, true)
			finds(t, u, "j", e.Seq, api.Entry{}, false)
			finds(t, u, "l", e.Seq, api.Entry{}, false)
			if i > 0 {
				finds(t, u, "k", l[i-1].Seq-1, e, true)
			}
		}
		finds(t, u, "k", 1, api.Entry{}, false)
	}
}

// P13.1, P13.2: the filter is made for the keys, each of them once, and May asks it.
func TestMay(t *testing.T) {
	for _, l := range kinds() {
		for _, bits := range []int{1, 2, 10, 20} {
			filter := must(bloom.Make(modelKeys(l), bits))
			u := opened(t, built(t, l, 5, bits))
			for _, e := range l {
				if !u.May(e.Key) {
					t.Errorf("May(%q) = false; want true", e.Key)
				}
			}
			for i := range 2000 {
				key := "other " + strconv.Itoa(i)
				if got, want := u.May(key), bloom.May(filter, key); got != want {
					t.Errorf("May(%q) = %t; want %t", key, got, want)
				}
			}
			if got, want := u.May(""), bloom.May(filter, ""); got != want {
				t.Errorf("May of the empty key = %t; want %t", got, want)
			}
		}
	}
}

// P13.1: a key with many entries counts once for the size of the filter.
func TestFilterOfVersions(t *testing.T) {
	texts := unsealed(built(t, versions("k", 100), 50, 20))
	if filter := texts[len(texts)-2]; len(filter) != 64/8+1 {
		t.Errorf("the filter of one key has %d bytes; want 9", len(filter))
	}
}

// P13.3: a table has the entries that it was built with, and those only.
func TestBuiltAndOpened(t *testing.T) {
	for _, l := range kinds() {
		for _, many := range []int{1, 2, 3, 5, 50} {
			u := opened(t, built(t, l, many, 10))
			if all := u.All(); !slices.Equal(all, l) {
				t.Errorf("All = %v; want %v", all, l)
			}
			for _, e := range l {
				finds(t, u, e.Key, e.Seq, e, true)
				if !u.May(e.Key) {
					t.Errorf("May denies %q, which Get finds", e.Key)
				}
			}
		}
	}
}

// P13.3: each single bit of a table inverted.
func TestInvertedBits(t *testing.T) {
	for _, l := range kinds() {
		for _, many := range []int{1, 4, 50} {
			b := []byte(built(t, l, many, 10))
			for at := range b {
				// Of a long table not all bytes are tried.
				if len(b) > 1000 && at%7 > 0 && at < len(b)-50 {
					continue
				}
				for bit := range 8 {
					b[at] ^= 1 << bit
					no(t, string(b))
					b[at] ^= 1 << bit
				}
			}
			opened(t, string(b))
		}
	}
}

// P13.2: each beginning and each end of a table, bytes ahead of one, within it and behind it, and two tables.
func TestOpenCutAndMore(t *testing.T) {
	b := built(t, mixed(), 4, 10)
	for at := range b {
		no(t, b[:at])
		no(t, b[at+1:])
		no(t, b[:at]+b[at+1:])
		for _, more := range []string{"\x00", "\x01", "T", "\x00\x00\x00\x00\x00"} {
			no(t, b[:at]+more+b[at:])
		}
	}
	no(t, b+"\x00")
	no(t, b+"\x00\x00\x00\x00\x00")
	no(t, b+b)
	no(t, "\x00")
}

// P13.2: a table without one of its frames, with one of them twice, and with two of them in each other's place.
func TestOpenOtherFrames(t *testing.T) {
	texts := unsealed(built(t, mixed(), 4, 10))
	for i := range texts {
		no(t, sealed(slices.Delete(slices.Clone(texts), i, i+1)))
		no(t, sealed(slices.Insert(slices.Clone(texts), i, texts[i])))
		no(t, sealed(slices.Insert(slices.Clone(texts), i, "")))
		no(t, sealed(texts[:i]))
		no(t, sealed(texts[i+1:]))
		for j := range i {
			swapped := slices.Clone(texts)
			swapped[i], swapped[j] = swapped[j], swapped[i]
			no(t, sealed(swapped))
		}
	}
	opened(t, sealed(texts))
}

// pieces are what a table is put together from by hand.
type pieces struct {
	blocks []string
	index  string
	filter string
	end    string
}

// table is the pieces, each in a frame.
func (p pieces) table() string {
	return sealed(append(slices.Clone(p.blocks), p.index, p.filter, p.end))
}

// raw is a list as a block, without a look at whether a table may have it.
func raw(t *testing.T, groups ...[]api.Entry) []string {
	t.Helper()
	var out []string
	for _, group := range groups {
		b, err := block.Encode(group)
		if err != nil {
			t.Fatal(err)
		}
		out = append(out, b)
	}
	return out
}

// apart is the pieces that groups of entries make.
func apart(t *testing.T, many, bits int, groups ...[]api.Entry) pieces {
	t.Helper()
	var firsts []string
	for _, group := range groups {
		if len(group) > 0 {
			firsts = append(firsts, group[0].Key)
		}
	}
	return pieces{
		blocks: raw(t, groups...),
		index:  must(pack.Row(firsts)),
		filter: must(bloom.Make(modelKeys(slices.Concat(groups...)), bits)),
		end:    string([]byte{byte(many), byte(bits), 84}),
	}
}

// P13.2: blocks that are not those of Build, though each of them is one, and the index and the filter are theirs.
func TestOpenWrongBlocks(t *testing.T) {
	l := numbered(60)
	opened(t, apart(t, 2, 10, l[:2], l[2:4], l[4:5]).table())
	opened(t, apart(t, 2, 10, l[:2]).table())
	for _, groups := range [][][]api.Entry{
		// The division.
		{l[:1], l[1:3]}, {l[:2], l[2:3], l[3:5]}, {l[:3]}, {l[:2], l[2:5]}, {l[:3], l[3:5]}, {l[:1], l[1:2]},
		// No entries.
		{}, {nil}, {nil, l[:2]}, {l[:2], nil}, {l[:2], nil, l[2:4]}, {nil, nil},
		// The order.
		{l[2:4], l[:2]}, {l[:2], l[1:3]}, {l[:2], l[:2]}, {versions("k", 4)[2:], versions("k", 4)[:2]},
	} {
		no(t, apart(t, 2, 10, groups...).table())
	}
	for _, many := range []int{1, 3, 5, 49, 50} {
		no(t, apart(t, many, 10, l[:2], l[2:4], l[4:5]).table())
	}
	for many := 3; many <= 50; many++ {
		opened(t, apart(t, many, 10, l[:3]).table())
	}
	no(t, apart(t, 51, 10, l[:51], l[51:]).table())
	no(t, apart(t, 60, 10, l).table())
	opened(t, apart(t, 50, 10, l[:50], l[50:]).table())
}

// P13.2: blocks that are none.
func TestOpenBrokenBlocks(t *testing.T) {
	l := numbered(5)
	for i := range 3 {
		for _, b := range []string{"", "\x01", "\x01\x01", "\x01\x02\x00\x01\x01b\x01\x01\x00\x00\x00\x01\x01a\x01\x01\x00\x00", "\x08", "\x01\xc9", "\xff"} {
			p := apart(t, 2, 10, l[:2], l[2:4], l[4:])
			p.blocks[i] = b
			no(t, p.table())
		}
		p := apart(t, 2, 10, l[:2], l[2:4], l[4:])
		p.blocks[i] += "\x00"
		no(t, p.table())
	}
	// The second key without what it shares with the first one, though nothing else is wrong.
	p := apart(t, 2, 10, []api.Entry{put("ab", 1, ""), put("ac", 1, "")})
	opened(t, p.table())
	p.blocks[0] = "\x01\x02\x00\x01\x02ab\x01\x01\x00\x00\x00\x01\x02ac\x01\x01\x00\x00"
	no(t, p.table())
}

// P13.2: an index that is not of the first keys.
func TestOpenWrongIndex(t *testing.T) {
	l := numbered(5)
	good := apart(t, 2, 10, l[:2], l[2:4], l[4:])
	opened(t, good.table())
	key := func(i int) string { return l[i].Key }
	for _, keys := range [][]string{
		{}, {key(0)}, {key(0), key(2)}, {key(2), key(4)}, {key(1), key(3), key(4)}, {key(0), key(2), key(4), ""}, {key(0), key(4), key(2)}, {key(0), key(2), key(3)}, {key(0), key(2), key(4), key(4)}, {"", key(2), key(4)},
	} {
		p := good
		p.index = must(pack.Row(keys))
		no(t, p.table())
	}
	for _, index := range []string{"", "\x00", good.index + "\x00", good.index[:len(good.index)-1], "\x02\x00\x03" + good.index[2:], good.filter} {
		p := good
		p.index = index
		no(t, p.table())
	}
}

// P13.2: a filter that is not that of the keys.
func TestOpenWrongFilter(t *testing.T) {
	l := slices.Concat(versions("a", 4), numbered(20))
	good := apart(t, 50, 10, l)
	opened(t, good.table())
	keys := modelKeys(l)
	all := make([]string, len(l)) // with one of them four times
	for i, e := range l {
		all[i] = e.Key
	}
	filters := []string{
		"", "\x00", "\x00\x06", good.filter + "\x06", good.filter[:len(good.filter)-1], strings.Repeat("\xff", len(good.filter)-1) + "\x06", strings.Repeat("\x00", len(good.filter)-1) + "\x06",
		must(bloom.Make(keys[1:], 10)), must(bloom.Make(append(keys[:len(keys):len(keys)], "more"), 10)), must(bloom.Make(keys, 9)), must(bloom.Make(keys, 11)), must(bloom.Make(nil, 10)), must(bloom.Make(all, 10)),
	}
	for at := range good.filter {
		for bit := range 8 {
			b := []byte(good.filter)
			b[at] ^= 1 << bit
			filters = append(filters, string(b))
		}
	}
	for _, filter := range filters {
		p := good
		p.filter = filter
		no(t, p.table())
	}
}

// P13.2: an ending that Build does not write.
func TestOpenWrongEnding(t *testing.T) {
	l := numbered(2)
	for c := range 256 {
		p := apart(t, 2, 10, l)
		p.end = string([]byte{2, 10, byte(c)})
		if c == 84 {
			opened(t, p.table())
		} else {
			no(t, p.table())
		}
		p.end = string([]byte{byte(c), 10, 84})
		if c >= 2 && c <= 50 {
			opened(t, p.table())
		} else {
			no(t, p.table())
		}
		// The filter of two keys has 64 bits, and only the number of positions tells for how many bits it was made: it is 6 for two of them.
		p.end = string([]byte{2, byte(c), 84})
		if c == 9 || c == 10 {
			opened(t, p.table())
		} else {
			no(t, p.table())
		}
	}
	for _, end := range []string{"", "T", "\x02", "\x02\x0a", "\x02\x0aT\x00", "\x02\x0aTT", "\x00\x02\x0aT", "\x0a\x02T", "T\x02\x0a"} {
		p := apart(t, 2, 10, l)
		p.end = end
		no(t, p.table())
	}
}

// P13.2: bits that cannot be told apart by the filter are told apart by the ending.
func TestOpenBitsOfOneFilter(t *testing.T) {
	l := numbered(1)
	one, two := apart(t, 1, 1, l), apart(t, 1, 2, l)
	if one.filter != two.filter {
		t.Fatalf("the filters are %x and %x", one.filter, two.filter)
	}
	opened(t, one.table())
	opened(t, two.table())
	for _, bits := range []byte{0, 3, 21, 255} {
		one.end = string([]byte{1, bits, 84})
		no(t, one.table())
	}
}

// P13.2: more entries or more blocks than a table has, though nothing else is wrong.
func TestOpenTooMany(t *testing.T) {
	l := numbered(1502)
	opened(t, apart(t, 50, 1, modelGroups(l[:1500], 50)...).table())
	no(t, apart(t, 50, 1, modelGroups(l[:1501], 50)...).table())
	no(t, apart(t, 3, 1, modelGroups(l, 3)...).table())
	opened(t, apart(t, 1, 1, modelGroups(l[:1000], 1)...).table())
	p := apart(t, 1, 1, modelGroups(l[:1000], 1)...)
	p.blocks = raw(t, modelGroups(l[:1001], 1)...)
	p.index = "\x02\x03\xe9" + p.index[3:] + must(pack.Text(l[1000].Key))
	p.filter = must(bloom.Make(modelKeys(l[:1001]), 1))
	no(t, p.table())
}

// P13.2: bytes that are long, or say that they are, are refused soon.
func TestOpenLongBytes(t *testing.T) {
	good := built(t, mixed(), 4, 10)
	for _, c := range []string{"\x00", "\x01", "\x07", "a", "\xff", "\x00\x00\x00\x00\x00", seal("\x00"), good} {
		no(t, strings.Repeat(c, 1<<24/len(c)))
		no(t, good+strings.Repeat(c, 1<<24/len(c)))
		no(t, strings.Repeat(c, api.MaxText/len(c)))
	}
	no(t, "\x03\x10\x00\x01"+strings.Repeat("a", api.MaxText+1)+"\x00\x00\x00\x00")
	no(t, "\x03\x10\x00\x01"+good)
	no(t, "\x07\x1f\xff\xff\xff\xff\xff\xff"+good)
	no(t, seal(strings.Repeat("\x00", api.MaxText-8)))
	no(t, seal(strings.Repeat("\x00", api.MaxText)))
	// Entries as many as find room, in blocks as large as there are.
	var many []string
	for range 500 {
		many = append(many, must(block.Encode(versions("k", 200))))
	}
	no(t, sealed(append(many, "\x00", "\x06", "\x32\x0aT")))
}

// P2: the error is none of the layers below.
func TestErrorsAreNotThoseBelow(t *testing.T) {
	b := built(t, mixed(), 4, 10)
	for _, s := range []string{b[:len(b)-1], b[:len(b)-1] + "\x00", "\x08", "\x03\x10\x00\x01", seal("\x00"), strings.Repeat(b, 5000), sealed([]string{"\x00", "\x00", "", "\x00\x00T"})} {
		_, err := table.Open(s)
		for _, other := range []api.Errno{api.ErrShort, api.ErrSum, api.ErrLong, api.ErrArg} {
			if errors.Is(err, other) {
				t.Errorf("Open(%.50x) is %v, too", s, other)
			}
		}
		no(t, s)
	}
}

// P3: Build changes no list, nor what lies behind it, and what it told does not change with the list.
func TestListsStay(t *testing.T) {
	all := append(numbered(20), put("behind", 1, "x"), api.Entry{})
	was := slices.Clone(all)
	b := built(t, all[:20], 3, 10)
	refuses(t, all, 3, 10, api.ErrArg)
	if !slices.Equal(all, was) {
		t.Errorf("the entries became %v", all)
	}
	kept := strings.Clone(b)
	for i := range all {
		all[i] = drop("z", 1)
	}
	if b != kept || !slices.Equal(opened(t, b).All(), was[:20]) {
		t.Errorf("the table became %x", b)
	}
}

// P3: what All tells is new memory each time, also behind its end.
func TestResultsAreNew(t *testing.T) {
	l := numbered(10)
	for _, many := range []int{1, 3, 10, 50} {
		b := built(t, l, many, 10)
		u, other := opened(t, b), opened(t, b)
		one, two := u.All(), u.All()
		for i := range one {
			one[i] = put("x", 1, "x")
		}
		if more := one[len(one):cap(one)]; len(more) > 0 {
			more[0] = put("x", 1, "x")
		}
		if !slices.Equal(two, l) || !slices.Equal(u.All(), l) || !slices.Equal(other.All(), l) || u.Min() != l[0].Key || u.Max() != l[9].Key {
			t.Errorf("the table tells %v, behind a change of what it told", u.All())
		}
		finds(t, u, l[3].Key, 9, l[3], true)
	}
}

// P4: earlier calls have no influence, also those that were refused, and a table stays.
func TestEarlierCallsHaveNoInfluence(t *testing.T) {
	l := mixed()
	b := built(t, l, 4, 10)
	u := opened(t, b)
	for _, other := range kinds() {
		no(t, built(t, other, 3, 7)+"\x00")
		refuses(t, append(other, other[0]), 3, 7, api.ErrArg)
		if again := built(t, l, 4, 10); again != b {
			t.Errorf("Build tells %x; want %x", again, b)
		}
		if !slices.Equal(u.All(), l) || u.Blocks() != 7 {
			t.Errorf("the table became %v in %d blocks", u.All(), u.Blocks())
		}
		sameOpen(t, b)
	}
}

// P13.2, P13.3: a table of many keys with several entries each, asked for all of them in any order.
func TestLongTable(t *testing.T) {
	source := rand.New(rand.NewSource(132))
	var l []api.Entry
	for i := range 300 {
		for j := range 5 {
			l = append(l, put(strconv.Itoa(1000+i), 50-10*j, strconv.Itoa(j)))
		}
	}
	for _, many := range []int{2, 7, 50} {
		u := opened(t, built(t, l, many, 10))
		m := model{l: l}
		for range 3000 {
			key, seq := strconv.Itoa(995+source.Intn(310)), source.Intn(60)
			want, wantOK := m.get(key, seq)
			finds(t, u, key, seq, want, wantOK)
		}
	}
}

// P13.2: what a frame is must be right, too: a checksum of another string, and a length of another number.
func TestOpenWrongFrames(t *testing.T) {
	texts := unsealed(built(t, mixed(), 4, 10))
	for i, s := range texts {
		head, tail := sealed(texts[:i]), sealed(texts[i+1:])
		f := seal(s)
		no(t, head+f[:len(f)-4]+seal("")[1:]+tail)
		no(t, head+f[:len(f)-4]+tail)
		no(t, head+"\x02\x00"+f[1:]+tail)
		no(t, head+f[:1]+string([]byte{f[1] - 1})+f[2:]+tail)
		no(t, head+s+tail)
	}
	if _, at, err := frame.All(sealed(texts)); err != nil || at != len(sealed(texts)) {
		t.Errorf("the frames end at %d, %v", at, err)
	}
}
