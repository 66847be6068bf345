package skip_test

import (
	"math"
	"math/bits"
	"math/rand"
	"slices"
	"strconv"
	"strings"
	"testing"

	"palinode/api"
	"palinode/skip"
)

// put puts a key that must be new, or must not.
func put(t *testing.T, l *skip.List, key, value string, height int, isNew bool) {
	t.Helper()
	if got := l.Put(key, value, height); got != isNew {
		t.Errorf("Put(%q, %q, %d) = %t; want %t", key, value, height, got, isNew)
	}
}

// has checks the value of a key that must be there.
func has(t *testing.T, l *skip.List, key, want string) {
	t.Helper()
	if got, ok := l.Get(key); got != want || !ok {
		t.Errorf("Get(%q) = %q, %t; want %q, true", key, got, ok, want)
	}
}

// lacks checks that a key is not there.
func lacks(t *testing.T, l *skip.List, key string) {
	t.Helper()
	if got, ok := l.Get(key); got != "" || ok {
		t.Errorf("Get(%q) = %q, %t; want none", key, got, ok)
	}
	if h := l.Height(key); h != 0 {
		t.Errorf("Height(%q) = %d; want 0", key, h)
	}
}

// seeks checks which key comes first from key on, and its value.
func seeks(t *testing.T, l *skip.List, key, wantKey, wantValue string) {
	t.Helper()
	if k, v, ok := l.Seek(key); k != wantKey || v != wantValue || !ok {
		t.Errorf("Seek(%q) = %q, %q, %t; want %q, %q, true", key, k, v, ok, wantKey, wantValue)
	}
}

// ends checks that no key comes from key on.
func ends(t *testing.T, l *skip.List, key string) {
	t.Helper()
	if k, v, ok := l.Seek(key); k != "" || v != "" || ok {
		t.Errorf("Seek(%q) = %q, %q, %t; want none", key, k, v, ok)
	}
}

// lane checks the keys of a lane.
func lane(t *testing.T, l *skip.List, h int, want ...string) {
	t.Helper()
	if got := l.Lane(h); !slices.Equal(got, want) {
		t.Errorf("Lane(%d) = %q; want %q", h, got, want)
	}
}

// size checks the number of keys.
func size(t *testing.T, l *skip.List, want int) {
	t.Helper()
	if got := l.Len(); got != want {
		t.Errorf("Len() = %d; want %d", got, want)
	}
}

// clamped is the height of a tower that was asked for with a number.
func clamped(height int) int {
	switch {
	case height < 1:
		return 1
	case height > api.MaxHeight:
		return api.MaxHeight
	}
	return height
}

// heights are all that a tower may have, and what lies beyond.
func heights() []int {
	out := []int{math.MinInt, math.MinInt + 1, -1 << 32, -api.MaxHeight, 1 << 32, 1<<32 + 3, 1 << 62, math.MaxInt - 1, math.MaxInt}
	for h := -3; h <= api.MaxHeight+3; h++ {
		out = append(out, h)
	}
	return out
}

// P9.1: the chapter's examples.
func TestExamples(t *testing.T) {
	l := skip.New()
	put(t, l, "b", "1", 3, true)
	put(t, l, "a", "2", 1, true)
	put(t, l, "b", "3", 9, false)
	lane(t, l, 1, "b")
	seeks(t, l, "aa", "b", "3")
	if b, c := l.Height("b"), l.Height("c"); b != 3 || c != 0 {
		t.Errorf("Height(b) = %d, Height(c) = %d; want 3, 0", b, c)
	}
}

// P9.1: a new list is empty, whatever it is asked.
func TestNew(t *testing.T) {
	l := skip.New()
	size(t, l, 0)
	for _, key := range []string{"", "\x00", "a", "\xff", strings.Repeat("\xff", 1000)} {
		lacks(t, l, key)
		ends(t, l, key)
	}
	for _, h := range heights() {
		lane(t, l, h)
	}
	put(t, l, "", "", 1, true)
	size(t, l, 1)
}

// P9.1: a height below 1 counts as 1, one above MaxHeight as MaxHeight; a key is in the lanes below its height, and in no other one.
func TestHeights(t *testing.T) {
	for _, height := range heights() {
		l := skip.New()
		put(t, l, "k", "v", height, true)
		want := clamped(height)
		if got := l.Height("k"); got != want {
			t.Errorf("put with %d: Height = %d; want %d", height, got, want)
		}
		for _, h := range heights() {
			if h < want {
				lane(t, l, h, "k")
			} else {
				lane(t, l, h)
			}
		}
	}
}

// P9.1: the greatest and the least height that count, by their numbers.
func TestHeightLimits(t *testing.T) {
	l := skip.New()
	put(t, l, "top", "", 12, true)
	put(t, l, "above", "", 13, true)
	put(t, l, "low", "", 1, true)
	put(t, l, "under", "", 0, true)
	put(t, l, "next", "", 11, true)
	lane(t, l, 12)
	lane(t, l, 11, "above", "top")
	lane(t, l, 10, "above", "next", "top")
	lane(t, l, 1, "above", "next", "top")
	lane(t, l, 0, "above", "low", "next", "top", "under")
	lane(t, l, -1, "above", "low", "next", "top", "under")
}

// P9.1: a key that is there gets the new value, and keeps the height that it came with.
func TestPutAgain(t *testing.T) {
	for _, first := range heights() {
		for _, second := range heights() {
			l := skip.New()
			put(t, l, "a", "0", 2, true)
			put(t, l, "b", "1", first, true)
			put(t, l, "c", "2", 2, true)
			put(t, l, "b", "3", second, false)
			has(t, l, "b", "3")
			seeks(t, l, "b", "b", "3")
			size(t, l, 3)
			if got := l.Height("b"); got != clamped(first) {
				t.Errorf("put with %d, then %d: Height = %d", first, second, got)
			}
			for h := range api.MaxHeight {
				switch {
				case h >= max(clamped(first), 2):
					lane(t, l, h)
				case h >= 2:
					lane(t, l, h, "b")
				case h >= clamped(first):
					lane(t, l, h, "a", "c")
				default:
					lane(t, l, h, "a", "b", "c")
				}
			}
		}
	}
}

// P9.1: the values are the last ones put, also the empty one, and each key has its own.
func TestValues(t *testing.T) {
	l := skip.New()
	keys := []string{"m", "", "z", "a"}
	for i, key := range keys {
		put(t, l, key, "", i, true)
		has(t, l, key, "")
		seeks(t, l, key, key, "")
	}
	for round, value := range []string{"1", "\x00", strings.Repeat("long", 1000), "", "\xff\xfe", "m"} {
		for i, key := range keys {
			put(t, l, key, value+key, round-i, false)
			has(t, l, key, value+key)
		}
		for _, key := range keys {
			has(t, l, key, value+key)
			seeks(t, l, key, key, value+key)
		}
	}
	size(t, l, 4)
}

// ordered are keys of all kinds, in ascending order: by size, byte by byte, a prefix first.
func ordered() []string {
	long := strings.Repeat("k", 5000)
	return []string{
		"", "\x00", "\x00\x00", "\x00\x01", "\x00\xff", "\x01", "\x01\x00", " ", "0", "10", "9", "A", "B", "a", "a\x00", "aa", "ab", "b",
		long, long + "\x00", long + "a", long + "b", "l", "z", "~", "\x7f", "\x7f\xff", "\x80", "\xc3", "\xc3\xa9", "é\x00", "ﬀ", "\U0001f600", "\xf5", "\xff", "\xff\x00", "\xff\xff",
	}
}

// ahead is a key that comes shortly ahead of key; key itself, if it ends with a zero byte or is empty.
func ahead(key string) string {
	last := len(key) - 1
	if last < 0 || key[last] == 0 {
		return key
	}
	return key[:last] + string([]byte{key[last] - 1}) + "\xff\xff\xff"
}

// P9.1: a key may be any string, the empty one and what is no text among them; they come in ascending order, in whatever order they were put.
func TestAnyKey(t *testing.T) {
	keys := ordered()
	source := rand.New(rand.NewSource(91))
	for range 100 {
		l := skip.New()
		for _, i := range source.Perm(len(keys)) {
			put(t, l, keys[i], strconv.Itoa(i), source.Intn(14), true)
		}
		lane(t, l, 0, keys...)
		size(t, l, len(keys))
		for i, key := range keys {
			has(t, l, key, strconv.Itoa(i))
			seeks(t, l, key, key, strconv.Itoa(i))
			seeks(t, l, ahead(key), key, strconv.Itoa(i))
		}
		ends(t, l, "\xff\xff\x00")
	}
}

// P9.1: a key that differs from all in the list by a byte, by its length or by nothing but its case is not there.
func TestAbsent(t *testing.T) {
	l := skip.New()
	for i, key := range []string{"ab", "abc", "b\x00", "\xff"} {
		put(t, l, key, "v", i+1, true)
	}
	for _, key := range []string{"", "a", "a\x00", "aa", "ab\x00", "abb", "abc\x00", "abd", "AB", "Ab", "b", "b\x00\x00", "b\x01", "\xfe", "\xff\x00", "ba"} {
		lacks(t, l, key)
	}
	size(t, l, 4)
}

// P9.1: Seek finds the key itself, or the next one, or none behind the last one; towers of all heights stand between.
func TestSeek(t *testing.T) {
	for _, height := range heights() {
		l := skip.New()
		put(t, l, "d", "4", height, true)
		put(t, l, "b", "2", 3, true)
		put(t, l, "f", "6", 5, true)
		for _, key := range []string{"", "\x00", "a", "a\xff", "b"} {
			seeks(t, l, key, "b", "2")
		}
		for _, key := range []string{"b\x00", "bb", "c", "c\xff\xff", "d"} {
			seeks(t, l, key, "d", "4")
		}
		for _, key := range []string{"d\x00", "dd", "e", "f"} {
			seeks(t, l, key, "f", "6")
		}
		for _, key := range []string{"f\x00", "ff", "g", "\xff"} {
			ends(t, l, key)
		}
		put(t, l, "", "0", height, true)
		seeks(t, l, "", "", "0")
		seeks(t, l, "\x00", "b", "2")
	}
}

// P9.1: Seek from each key on goes through all of them, as Lane(0) does.
func TestSeekThrough(t *testing.T) {
	l := skip.New()
	keys := ordered()
	for i := range keys {
		put(t, l, keys[len(keys)-1-i], "", i%13, true)
	}
	var got []string
	for key, _, ok := l.Seek(""); ok; key, _, ok = l.Seek(key + "\x00") {
		got = append(got, key)
	}
	if !slices.Equal(got, keys) {
		t.Errorf("Seek goes through %q; want %q", got, keys)
	}
}

// P3, P9.1: what Lane answers is new memory: whoever changes or extends it changes neither the list nor another answer.
func TestLaneMemory(t *testing.T) {
	l := skip.New()
	for i, key := range []string{"a", "b", "c", "d", "e"} {
		put(t, l, key, key, i+1, true)
	}
	for _, h := range []int{-1, 0, 1, 3} {
		one, two := l.Lane(h), l.Lane(h)
		want := slices.Clone(two)
		one = one[:cap(one)]
		for i := range one {
			one[i] = "x"
		}
		if !slices.Equal(two, want) {
			t.Errorf("Lane(%d): another answer became %q", h, two)
		}
		two = two[:cap(two)]
		for i := range two {
			two[i] = "y"
		}
		lane(t, l, h, want...)
		for i := range one {
			if one[i] != "x" {
				t.Errorf("Lane(%d): two answers share memory", h)
			}
		}
	}
	before := l.Lane(0)
	put(t, l, "aa", "", 1, true)
	put(t, l, "f", "", 1, true)
	if !slices.Equal(before, []string{"a", "b", "c", "d", "e"}) {
		t.Errorf("an answer became %q", before)
	}
}

// P4: two lists do not know of each other.
func TestTwoLists(t *testing.T) {
	one, two := skip.New(), skip.New()
	put(t, one, "a", "1", 3, true)
	size(t, two, 0)
	lacks(t, two, "a")
	put(t, two, "a", "2", 5, true)
	put(t, two, "b", "3", 5, true)
	has(t, one, "a", "1")
	lane(t, one, 0, "a")
	lane(t, one, 3)
	lane(t, two, 3, "a", "b")
	size(t, one, 1)
}

// P9.2: all keys are in the lowest lane, each lane is a part of the one below it, and all are in ascending order; with every key that comes.
func TestLanesNest(t *testing.T) {
	l := skip.New()
	source := rand.New(rand.NewSource(90))
	for i := range 300 {
		l.Put(strconv.Itoa(source.Intn(200)), strconv.Itoa(i), source.Intn(16)-1)
		below := l.Lane(0)
		if len(below) != l.Len() {
			t.Fatalf("Lane(0) has %d keys, Len is %d", len(below), l.Len())
		}
		for h := range api.MaxHeight + 1 {
			keys := l.Lane(h)
			if !slices.IsSorted(keys) || len(slices.Compact(slices.Clone(keys))) != len(keys) {
				t.Fatalf("Lane(%d) = %q: not ascending", h, keys)
			}
			for _, key := range keys {
				if _, ok := slices.BinarySearch(below, key); !ok {
					t.Fatalf("%q is in Lane(%d), and not in the one below it", key, h)
				}
			}
			below = keys
		}
		if len(below) != 0 {
			t.Fatalf("Lane(MaxHeight) = %q", below)
		}
	}
}

// P9.2: whatever the heights are, Get, Seek, Len and the lowest lane answer the same.
func TestHeightsHaveNoInfluence(t *testing.T) {
	heights := heights()
	plain, mixed := skip.New(), skip.New()
	lists := []*skip.List{mixed}
	for range heights {
		lists = append(lists, skip.New())
	}
	source := rand.New(rand.NewSource(92))
	for i := range 500 {
		key, value := strconv.Itoa(source.Intn(300)), strconv.Itoa(i)
		isNew := plain.Put(key, value, 1)
		put(t, mixed, key, value, heights[source.Intn(len(heights))], isNew)
		for n, height := range heights {
			put(t, lists[n+1], key, value, height, isNew)
		}
	}
	for _, l := range lists {
		lane(t, l, 0, plain.Lane(0)...)
		size(t, l, plain.Len())
		for i := range 400 {
			key := strconv.Itoa(i)
			if want, ok := plain.Get(key); ok {
				has(t, l, key, want)
			} else {
				lacks(t, l, key)
			}
			if k, v, ok := plain.Seek(key); ok {
				seeks(t, l, key, k, v)
			} else {
				ends(t, l, key)
			}
		}
	}
}

// P1: with towers of the heights that a skip list is made for, many keys end soon, in whatever order they come. (A search that goes key by key would not.)
func TestManyKeys(t *testing.T) {
	const many = 1 << 18
	name := func(i int) string {
		return string([]byte{byte(i >> 16), byte(i >> 8), byte(i)})
	}
	for _, c := range []struct {
		order string
		at    func(i int) int
	}{
		{"ascending", func(i int) int { return i }},
		{"descending", func(i int) int { return many - 1 - i }},
		{"mixed", func(i int) int { return i * 40503 % many }},
	} {
		l := skip.New()
		for i := range many {
			at := c.at(i)
			put(t, l, name(at), "v", 1+bits.TrailingZeros(uint(at+1)), true)
		}
		size(t, l, many)
		for i := range many {
			has(t, l, name(i), "v")
		}
		for h := range api.MaxHeight {
			keys := l.Lane(h)
			if len(keys) != many>>h || !slices.IsSorted(keys) {
				t.Errorf("%s: Lane(%d) has %d keys; want %d", c.order, h, len(keys), many>>h)
			}
		}
	}
}

// P1, P9.1: lists whose towers all have one height are slow, but right.
func TestOneHeight(t *testing.T) {
	for _, height := range []int{1, 6, api.MaxHeight} {
		l := skip.New()
		const many = 3000
		for i := range many {
			put(t, l, strconv.Itoa(i*1009%many), strconv.Itoa(i), height, true)
		}
		for i := range many {
			has(t, l, strconv.Itoa(i*1009%many), strconv.Itoa(i))
		}
		size(t, l, many)
		if n := len(l.Lane(height - 1)); n != many {
			t.Errorf("Lane(%d) has %d keys", height-1, n)
		}
		lane(t, l, height)
	}
}
