package bloom_test

import (
	"errors"
	"hash/fnv"
	"math"
	"math/rand"
	"slices"
	"strconv"
	"strings"
	"testing"

	"palinode/api"
	"palinode/bloom"
)

// hashes checks the hash of a key.
func hashes(t *testing.T, key string, want uint64) {
	t.Helper()
	if got := bloom.Hash(key); got != want {
		t.Errorf("Hash(%q) = %x; want %x", key, got, want)
	}
}

// makes is a filter that Make must make.
func makes(t *testing.T, keys []string, bits int) string {
	t.Helper()
	filter, err := bloom.Make(keys, bits)
	if err != nil {
		t.Fatalf("Make(%d keys, %d) = %v; want nil", len(keys), bits, err)
	}
	return filter
}

// refuses checks that Make makes no filter.
func refuses(t *testing.T, keys []string, bits int, want api.Errno) {
	t.Helper()
	filter, err := bloom.Make(keys, bits)
	if filter != "" || err != want || !errors.Is(err, want) {
		t.Errorf("Make(%d keys, %d) = %x, %v; want no filter, %v", len(keys), bits, filter, err, want)
	}
}

// may checks what a filter says of a key.
func may(t *testing.T, filter, key string, want bool) {
	t.Helper()
	if got := bloom.May(filter, key); got != want {
		t.Errorf("May(%x, %q) = %t; want %t", filter, key, got, want)
	}
}

// numbered is many keys, each another one.
func numbered(many int) []string {
	out := make([]string, many)
	for i := range out {
		out[i] = "key " + strconv.Itoa(i)
	}
	return out
}

// kinds are keys of all kinds.
func kinds() []string {
	return []string{
		"", "a", "b", "aa", "ab", "ba", "k", "key", "k\x00", "\x00", "\x00\x00", "\x00\x00\x00", "\x00k", "\x01", "\x7f", "\x80", "\xc3", "é", "\xe2\x82", "€", "\xef\xbf\xbd", "\xfe\xff", "\xff", "\xff\x00", "\xff\xff",
		strings.Repeat("k", api.MaxKey), strings.Repeat("\x00", api.MaxKey), strings.Repeat("\xff", api.MaxKey), strings.Repeat("k", api.MaxKey+1), strings.Repeat("long", 1000),
	}
}

// marks are how many positions a key has, for each number of bits: 69 hundredths of it.
var marks = [21]int{1: 1, 2: 1, 3: 2, 4: 2, 5: 3, 6: 4, 7: 4, 8: 5, 9: 6, 10: 6, 11: 7, 12: 8, 13: 8, 14: 9, 15: 10, 16: 11, 17: 11, 18: 12, 19: 13, 20: 13}

// P11.1, P11.2, P11.3: the chapter's examples.
func TestExamples(t *testing.T) {
	hashes(t, "", 0xcbf29ce484222325)
	hashes(t, "a", 0xaf63dc4c8601ec8c)
	filter := makes(t, nil, 10)
	if filter != "\x00\x00\x00\x00\x00\x00\x00\x00\x06" {
		t.Errorf("Make(no keys, 10) = %x", filter)
	}
	may(t, filter, "a", false)
	may(t, "", "a", true)
}

// P11.1: hashes that those who thought of FNV give as examples.
func TestKnownHashes(t *testing.T) {
	hashes(t, "b", 0xaf63df4c8601f1a5)
	hashes(t, "c", 0xaf63de4c8601eff2)
	hashes(t, "fo", 0x08985907b541d342)
	hashes(t, "foo", 0xdcb27518fed9d577)
	hashes(t, "foobar", 0x85944171f73967e8)
	hashes(t, "\x00", 0xaf63bd4c8601b7df)
}

// P11.1: the hash goes byte by byte, whatever the bytes are, and however many.
func TestHash(t *testing.T) {
	check := func(key string) {
		h := fnv.New64a()
		h.Write([]byte(key))
		hashes(t, key, h.Sum64())
		if want := modelHash(key).Uint64(); want != h.Sum64() {
			t.Fatalf("the model tells %x of %q", want, key)
		}
	}
	for _, key := range kinds() {
		check(key)
	}
	for b := range 256 {
		check(string([]byte{byte(b)}))
		check(string([]byte{'k', byte(b), 0}))
	}
}

// P11.1: a long key is hashed to its end, and soon.
func TestLongKey(t *testing.T) {
	key := strings.Repeat("a", 1<<24)
	h := fnv.New64a()
	h.Write([]byte(key))
	if got := bloom.Hash(key); got != h.Sum64() {
		t.Errorf("Hash of 2^24 bytes = %x; want %x", got, h.Sum64())
	}
	filter := makes(t, []string{key}, 10)
	may(t, filter, key, true)
	if bloom.May(filter, key[1:]) {
		t.Error("May = true for a key that lacks a byte")
	}
}

// P11.1, P11.2: the positions of some keys among 64 bits, worked out from their hashes by hand. The empty key's h is cbf29ce484222325 and its g 84222325cbf29ce5, so that the second position is that of the sum 5014c00a5014c00a, which wraps around.
func TestPositions(t *testing.T) {
	for _, c := range []struct {
		key  string
		want [3]int // of the sums' lowest 6 bits
	}{
		{"", [3]int{0x25, 0x0a, 0x2f}},
		{"a", [3]int{0x0c, 0x19, 0x26}}, // g is 8601ec8caf63dc4d: its lowest bit is set though that of h's upper half is not
	} {
		for many := range 3 {
			set := make([]bool, 64)
			for _, p := range c.want[:many+1] {
				set[p] = true
			}
			exact(t, set, many+1, c.key, c.want[:many+1])
		}
	}
}

// exact checks that a filter of just these bits has a key, and that it has it no longer if one of them is gone.
func exact(t *testing.T, set []bool, many int, key string, positions []int) {
	t.Helper()
	last := string([]byte{byte(many)})
	may(t, pack(set)+last, key, true)
	for _, p := range positions {
		set[p] = false
		may(t, pack(set)+last, key, false)
		set[p] = true
	}
}

// P11.2: sums that wrap around, among bits of which 2^64 is no multiple: 72 and 120 bits, by hand.
func TestPositionsWrap(t *testing.T) {
	const first, second uint64 = 0xcbf29ce484222325, 0x5014c00a5014c00a // without the wrap the second one would be 2^64 more
	for _, size := range []int{9, 15} {
		set := make([]bool, size*8)
		one, two := int(first%uint64(size*8)), int(second%uint64(size*8))
		set[one], set[two] = true, true
		exact(t, set, 2, "", []int{one, two})
	}
}

// P11.2: May asks for all positions of a key, as many as the last byte says, and for no other bit.
func TestMayAsksForEachPosition(t *testing.T) {
	for _, key := range kinds() {
		for _, size := range []int{1, 2, 3, 5, 8, 9, 64, 100, 1001} {
			for _, many := range []int{1, 2, 3, 7, 13, 14, 29, 30} {
				positions := modelPositions(key, many, size*8)
				set := make([]bool, size*8)
				for _, p := range positions {
					set[p] = true
				}
				exact(t, set, many, key, positions)
			}
		}
	}
}

// P11.2: a filter of all ones has every key, one of all zeros none.
func TestOnesAndZeros(t *testing.T) {
	for _, key := range kinds() {
		for _, size := range []int{1, 2, 8, 77} {
			for many := 1; many <= 30; many++ {
				last := string([]byte{byte(many)})
				may(t, strings.Repeat("\xff", size)+last, key, true)
				may(t, strings.Repeat("\x00", size)+last, key, false)
			}
		}
	}
}

// P11.2: what is no filter may have every key: fewer than 2 bytes, or a last byte that is 0 or greater than 30.
func TestNoFilter(t *testing.T) {
	for _, key := range kinds() {
		may(t, "", key, true)
		for b := range 256 {
			last := string([]byte{byte(b)})
			may(t, last, key, true)
			no := b == 0 || b > 30
			may(t, "\x00"+last, key, no)
			may(t, "\x00\x00\x00\x00\x00\x00\x00\x00"+last, key, no)
			may(t, strings.Repeat("\xff", 8)+last, key, true)
		}
	}
}

// P11.2: the bits of a long filter are told apart to its end.
func TestLongFilter(t *testing.T) {
	const size = 1 << 24
	for _, key := range []string{"", "a", "key"} {
		filter := make([]byte, size+1)
		filter[size] = 30
		positions := modelPositions(key, 30, size*8)
		for _, p := range positions {
			filter[p/8] |= values[p%8]
		}
		if !bloom.May(string(filter), key) {
			t.Errorf("May(.., %q) = false for its own bits", key)
		}
		p := positions[29]
		filter[p/8] &^= values[p%8]
		if bloom.May(string(filter), key) {
			t.Errorf("May(.., %q) = true without bit %d", key, p)
		}
	}
}

// P11.2: bits from 1 to 20 are taken, all others refused, with however many keys; too many keys count only behind that.
func TestBits(t *testing.T) {
	for bits := 1; bits <= 20; bits++ {
		makes(t, nil, bits)
		makes(t, []string{"a"}, bits)
		makes(t, numbered(2000), bits)
		refuses(t, numbered(2001), bits, api.ErrLong)
		refuses(t, make([]string, 5000), bits, api.ErrLong)
	}
	for _, bits := range []int{math.MinInt, math.MinInt + 1, -1 << 32, -20, -2, -1, 0, 21, 22, 100, 255, 256, 257, 266, 1 << 32, 1<<32 + 10, 1 << 62, math.MaxInt - 1, math.MaxInt} {
		refuses(t, nil, bits, api.ErrArg)
		refuses(t, []string{"a", "b"}, bits, api.ErrArg)
		refuses(t, numbered(2000), bits, api.ErrArg)
		refuses(t, numbered(2001), bits, api.ErrArg)
	}
}

// P11.2: how many bytes a filter has, and which its last one is.
func TestSize(t *testing.T) {
	for _, c := range []struct{ many, bits, size int }{
		{0, 1, 8}, {0, 20, 8}, {1, 1, 8}, {1, 20, 8}, {3, 20, 8}, {4, 20, 10}, {6, 10, 8}, {7, 9, 8}, {7, 10, 9}, {8, 8, 8}, {13, 5, 9}, {16, 4, 8}, {17, 4, 9}, {63, 1, 8}, {64, 1, 8}, {65, 1, 9}, {71, 1, 9}, {72, 1, 9}, {73, 1, 10},
		{101, 7, 89}, {1999, 1, 250}, {2000, 1, 250}, {2000, 10, 2500}, {1999, 19, 4748}, {2000, 20, 5000},
	} {
		filter := makes(t, numbered(c.many), c.bits)
		if len(filter) != c.size+1 || int(filter[len(filter)-1]) != marks[c.bits] {
			t.Errorf("Make(%d keys, %d) has %d bytes, the last one is %d; want %d, %d", c.many, c.bits, len(filter), filter[len(filter)-1], c.size+1, marks[c.bits])
		}
	}
}

// P11.2: each number of bits has its number of positions.
func TestMarks(t *testing.T) {
	for bits := 1; bits <= 20; bits++ {
		want := strings.Repeat("\x00", 8) + string([]byte{byte(marks[bits])})
		if got := makes(t, []string{}, bits); got != want {
			t.Errorf("Make(no keys, %d) = %x; want %x", bits, got, want)
		}
		for _, key := range kinds() {
			set := make([]bool, 64)
			for _, p := range modelPositions(key, marks[bits], 64) {
				set[p] = true
			}
			if got := makes(t, []string{key}, bits); got != pack(set)+want[8:] {
				t.Errorf("Make(%q, %d) = %x; want %x", key, bits, got, pack(set)+want[8:])
			}
		}
	}
}

// P11.2: a filter by hand: the empty key's positions among 64 bits are 37 and 10, that of a key of its own 12 and 25 (see TestPositions).
func TestFilterByHand(t *testing.T) {
	for _, c := range []struct {
		keys []string
		want string
	}{
		{[]string{""}, "\x00\x04\x00\x00\x20\x00\x00\x00\x02"},
		{[]string{"a"}, "\x00\x10\x00\x02\x00\x00\x00\x00\x02"},
		{[]string{"", "a"}, "\x00\x14\x00\x02\x20\x00\x00\x00\x02"},
		{[]string{"a", ""}, "\x00\x14\x00\x02\x20\x00\x00\x00\x02"},
		{[]string{"a", "a", "a", "", "a"}, "\x00\x14\x00\x02\x20\x00\x00\x00\x02"},
	} {
		if got := makes(t, c.keys, 3); got != c.want {
			t.Errorf("Make(%q, 3) = %x; want %x", c.keys, got, c.want)
		}
	}
}

// P11.2: exactly the bits of the keys are 1, for every number of bits, with few keys and with as many as may be.
func TestAgainstModel(t *testing.T) {
	for bits := 1; bits <= 20; bits++ {
		for _, many := range []int{0, 1, 2, 3, 4, 5, 7, 9, 13, 17, 31, 64, 65, 100} {
			sameMake(t, numbered(many), bits)
		}
	}
	sameMake(t, kinds(), 10)
	sameMake(t, numbered(2000), 1)
	sameMake(t, numbered(2000), 20)
	sameMake(t, numbered(2001), 20)
}

// P11.2: a key that comes twice counts twice for the size, and sets the same bits.
func TestKeysThatComeTwice(t *testing.T) {
	for _, many := range []int{2, 7, 8, 9, 50, 2000} {
		keys := slices.Repeat([]string{"a"}, many)
		for _, bits := range []int{1, 3, 10, 20} {
			sameMake(t, keys, bits)
		}
	}
	refuses(t, slices.Repeat([]string{"a"}, 2001), 10, api.ErrLong)
}

// P11.2, P4: the order of the keys has no influence, nor do earlier calls.
func TestOrderHasNoInfluence(t *testing.T) {
	keys := append(kinds(), numbered(100)...)
	want := makes(t, keys, 10)
	source := rand.New(rand.NewSource(111))
	for range 20 {
		source.Shuffle(len(keys), func(i, j int) { keys[i], keys[j] = keys[j], keys[i] })
		if got := makes(t, keys, 10); got != want {
			t.Fatalf("Make = %x; want %x", got, want)
		}
		makes(t, keys[:10], 3)
		bloom.May(want, keys[0])
	}
}

// P11.3: May is true for every key of a filter.
func TestNoKeyIsLost(t *testing.T) {
	for bits := 1; bits <= 20; bits++ {
		for _, keys := range [][]string{kinds(), kinds()[:1], numbered(1), numbered(2), numbered(7), numbered(500), numbered(2000)} {
			filter := makes(t, keys, bits)
			for _, key := range keys {
				if !bloom.May(filter, key) {
					t.Fatalf("%d keys, %d bits: May(.., %q) = false", len(keys), bits, key)
				}
			}
		}
	}
}

// P11.3: a filter without keys has no key.
func TestWithoutKeys(t *testing.T) {
	for bits := 1; bits <= 20; bits++ {
		filter := makes(t, nil, bits)
		for _, key := range append(kinds(), numbered(1000)...) {
			may(t, filter, key, false)
		}
	}
}

// P11.2, P11.3: of keys that are not in a filter, May has as few as the numbers of bits and positions let come.
func TestOthersAreRare(t *testing.T) {
	keys := numbered(2000)
	for _, c := range []struct{ bits, most int }{{5, 600}, {10, 100}, {20, 2}} {
		filter, found := makes(t, keys[:1000], c.bits), 0
		for i := range 5000 {
			if bloom.May(filter, "other "+strconv.Itoa(i)) {
				found++
			}
		}
		if found > c.most {
			t.Errorf("%d bits: %d of 5000 other keys; want at most %d", c.bits, found, c.most)
		}
	}
}

// P3: Make changes neither the keys nor what lies behind them.
func TestKeysStay(t *testing.T) {
	keys := append(numbered(20), "behind", "last")
	was := slices.Clone(keys)
	makes(t, keys[:20], 10)
	refuses(t, keys[:20], 21, api.ErrArg)
	if !slices.Equal(keys, was) {
		t.Errorf("the keys became %q", keys)
	}
}

// P3: a filter stays as it is when the keys are changed, and when another one is made.
func TestFilterStays(t *testing.T) {
	keys := numbered(20)
	filter := makes(t, keys, 10)
	was := strings.Clone(filter)
	for i := range keys {
		keys[i] = "x"
	}
	makes(t, keys, 10)
	if filter != was {
		t.Errorf("the filter became %x; want %x", filter, was)
	}
}
