package frame_test

import (
	"errors"
	"hash/crc32"
	"math/bits"
	"math/rand"
	"slices"
	"strings"
	"testing"

	"palinode/api"
	"palinode/frame"
	"palinode/pack"
)

// put is the frame of a string that must have one.
func put(t *testing.T, s string) string {
	t.Helper()
	b, err := frame.Put(s)
	if err != nil {
		t.Fatalf("Put of %d bytes: %v", len(s), err)
	}
	return b
}

// repeat is short for what long strings are made of.
func repeat(s string, many int) string { return strings.Repeat(s, many) }

// ascending is the 256 bytes in their order.
func ascending() string {
	var b []byte
	for i := range 256 {
		b = append(b, byte(i))
	}
	return string(b)
}

// noise is size bytes in no order, the same ones each time.
func noise(size int) string {
	b := make([]byte, size)
	rand.New(rand.NewSource(int64(size) + 1)).Read(b)
	return string(b)
}

// sumByDefinition is the checksum as the chapter defines it: bit by bit, with the input and the output reflected.
func sumByDefinition(s string) uint32 {
	sum := ^uint32(0)
	for i := range len(s) {
		sum ^= uint32(bits.Reverse8(s[i])) << 24
		for range 8 {
			top := sum >> 31
			sum <<= 1
			if top == 1 {
				sum ^= 0x1edc6f41
			}
		}
	}
	return ^bits.Reverse32(sum)
}

// P3.1: the sums that are published for CRC-32C.
func TestSum(t *testing.T) {
	for _, c := range []struct {
		s    string
		want uint32
	}{
		{"", 0},
		{"123456789", 0xe3069283},
		{"a", 0xc1d04330},
		{"abc", 0x364b3fb7},
		{repeat("\x00", 32), 0x8a9136aa},
		{repeat("\xff", 32), 0x62a8ab43},
		{ascending()[:32], 0x46dd794e},
		{"The quick brown fox jumps over the lazy dog", 0x22620404},
	} {
		if got := frame.Sum(c.s); got != c.want {
			t.Errorf("Sum(%q) = %08x; want %08x", c.s, got, c.want)
		}
	}
}

// P3.1: the sum of every string of up to two bytes, and of longer ones, is as it is defined.
func TestSumByDefinition(t *testing.T) {
	check := func(s string) {
		t.Helper()
		if got, want := frame.Sum(s), sumByDefinition(s); got != want {
			t.Fatalf("Sum(%.40x), %d bytes, = %08x; want %08x", s, len(s), got, want)
		}
	}
	all := ascending()
	for i := range all {
		check(all[i : i+1])
		check("\x00" + all[i:i+1])
		check(repeat(all[i:i+1], 5))
		for j := range all {
			check(all[i:i+1] + all[j:j+1])
		}
	}
	for size := range 300 {
		check(noise(size))
		check(repeat("\x00", size))
	}
	check(all)
	check(noise(1 << 16))
}

// P3.1: a sum has no limit of length, and bytes 0 in front or at the end count.
func TestSumOfLongStrings(t *testing.T) {
	table := crc32.MakeTable(crc32.Castagnoli)
	for _, size := range []int{api.MaxText - 1, api.MaxText, api.MaxText + 1, 3 * api.MaxText} {
		for _, s := range []string{noise(size), repeat("\x00", size), repeat("\xff", size)} {
			if got, want := frame.Sum(s), crc32.Checksum([]byte(s), table); got != want {
				t.Errorf("Sum of %d bytes = %08x; want %08x", size, got, want)
			}
		}
	}
	seen := map[uint32]string{}
	for _, s := range []string{"", "\x00", "\x00\x00", "a", "a\x00", "\x00a", "\x00a\x00"} {
		sum := frame.Sum(s)
		if other, ok := seen[sum]; ok {
			t.Errorf("%q and %q have the same sum", s, other)
		}
		seen[sum] = s
	}
}

// frames are strings and their frames.
var frames = []struct{ s, b string }{
	{"", "\x00\x00\x00\x00\x00"},
	{"a", "\x01\x01a\xc1\xd0\x43\x30"},
	{"abc", "\x01\x03abc\x36\x4b\x3f\xb7"},
	{"123456789", "\x01\x09123456789\xe3\x06\x92\x83"},
	{repeat("\x00", 32), "\x01\x20" + repeat("\x00", 32) + "\x8a\x91\x36\xaa"},
	{repeat("\xff", 32), "\x01\x20" + repeat("\xff", 32) + "\x62\xa8\xab\x43"},
}

// tails may stand behind a frame.
var tails = []string{"", "x", "\x00", "\x08", "\x00\x00\x00\x00\x00", "\x01\x01a\xc1\xd0\x43\x30", "rest of it"}

// P3.2: Put writes the bytes that the chapter says, and Take reads them and leaves the rest.
func TestFrames(t *testing.T) {
	for _, c := range frames {
		if b := put(t, c.s); b != c.b {
			t.Errorf("Put(%q) = %x; want %x", c.s, b, c.b)
		}
		for _, tail := range tails {
			s, rest, err := frame.Take(c.b + tail)
			if s != c.s || rest != tail || err != nil {
				t.Errorf("Take(%x) = %q, %q, %v; want %q, %q", c.b+tail, s, rest, err, c.s, tail)
			}
		}
	}
}

// P3.2, P3.3: a frame is the Text and the Sum of its string, at every size at which the length grows, up to MaxText.
func TestFramesOfAllSizes(t *testing.T) {
	sizes := []int{254, 255, 256, 257, 1<<16 - 1, 1 << 16, 1<<16 + 1, api.MaxText - 1, api.MaxText}
	for size := range 130 {
		sizes = append(sizes, size)
	}
	for _, size := range sizes {
		want := noise(size)
		text, err := pack.Text(want)
		if err != nil {
			t.Fatal(err)
		}
		sum := sumByDefinition(want)
		b := put(t, want)
		if b != text+string([]byte{byte(sum >> 24), byte(sum >> 16), byte(sum >> 8), byte(sum)}) {
			t.Errorf("Put of %d bytes: %d bytes, %.10x .. %x", size, len(b), b, b[len(b)-4:])
		}
		if s, rest, err := frame.Take(b + "tail"); s != want || rest != "tail" || err != nil {
			t.Errorf("Take of a frame of %d bytes: %d bytes, %q, %v", size, len(s), rest, err)
		}
	}
}

// P3.2: Put takes no string beyond MaxText.
func TestPutTooLong(t *testing.T) {
	for _, size := range []int{api.MaxText + 1, 2 * api.MaxText} {
		if b, err := frame.Put(repeat("x", size)); b != "" || err != api.ErrLong {
			t.Errorf("Put of %d bytes: %d bytes, %v; want ErrLong", size, len(b), err)
		}
	}
}

// bad begin with no frame.
var bad = []struct {
	b    string
	want error
}{
	// The error of the string, whatever follows.
	{"", api.ErrShort},
	{"\x01", api.ErrShort},
	{"\x01\x02", api.ErrShort},
	{"\x01\x02a", api.ErrShort},
	{"\x02\x01\x00" + repeat("x", 255), api.ErrShort},
	{"\x03\x10\x00\x00", api.ErrShort},
	{"\x08", api.ErrForm},
	{"\xff\x00\x00\x00\x00", api.ErrForm},
	{"\x01\x00\x00\x00\x00\x00", api.ErrForm},
	{"\x02\x00\x01a\xc1\xd0\x43\x30", api.ErrForm},
	{"\x07\x20\x00\x00\x00\x00\x00\x00\x00\x00\x00\x00", api.ErrForm},
	{"\x03\x10\x00\x01", api.ErrLong},
	{"\x03\x10\x00\x01" + repeat("x", api.MaxText+5), api.ErrLong},
	{"\x07\x1f\xff\xff\xff\xff\xff\xff", api.ErrLong},
	// Fewer than 4 bytes behind the string, whether or not they begin its sum.
	{"\x00", api.ErrShort},
	{"\x00\x00\x00\x00", api.ErrShort},
	{"\x00\xff\xff\xff", api.ErrShort},
	{"\x01\x01a", api.ErrShort},
	{"\x01\x01a\xc1", api.ErrShort},
	{"\x01\x01a\xc1\xd0", api.ErrShort},
	{"\x01\x01a\xc1\xd0\x43", api.ErrShort},
	{"\x01\x01axyz", api.ErrShort},
	// Another sum, in each of its bytes.
	{"\x00\x00\x00\x00\x01", api.ErrSum},
	{"\x00\x00\x00\x01\x00", api.ErrSum},
	{"\x00\x00\x01\x00\x00", api.ErrSum},
	{"\x00\x01\x00\x00\x00", api.ErrSum},
	{"\x00\xff\xff\xff\xff", api.ErrSum},
	{"\x01\x01a\xc1\xd0\x43\x31", api.ErrSum},
	{"\x01\x01a\xc1\xd0\x42\x30", api.ErrSum},
	{"\x01\x01a\xc1\xd1\x43\x30", api.ErrSum},
	{"\x01\x01a\x41\xd0\x43\x30", api.ErrSum},
	{"\x01\x01a\x30\x43\xd0\xc1", api.ErrSum},
	{"\x01\x01a\x3e\x2f\xbc\xcf", api.ErrSum},
	{"\x01\x01a\x00\x00\x00\x00", api.ErrSum},
	{"\x01\x01b\xc1\xd0\x43\x30", api.ErrSum},
	{"\x01\x01ax\xc1\xd0\x43\x30", api.ErrSum},
	{"\x01\x03abcxxxx\x36\x4b\x3f\xb7", api.ErrSum},
}

// P3.2: Take refuses what is no frame, with the error that comes first.
func TestTakeBad(t *testing.T) {
	for _, c := range bad {
		s, rest, err := frame.Take(c.b)
		if s != "" || rest != "" || err != c.want {
			t.Errorf("Take(%.20x) = %.20q, %.20q, %v; want %v", c.b, s, rest, err, c.want)
		}
		if !errors.Is(err, c.want) {
			t.Errorf("Take(%.20x): %v is not %v", c.b, err, c.want)
		}
	}
}

// P3.2: a sum is that of the string alone, not one of its length, too.
func TestSumOfTheStringAlone(t *testing.T) {
	sum := sumByDefinition("\x01\x01a")
	b := "\x01\x01a" + string([]byte{byte(sum >> 24), byte(sum >> 16), byte(sum >> 8), byte(sum)})
	if s, rest, err := frame.Take(b); s != "" || rest != "" || err != api.ErrSum {
		t.Errorf("Take(%x) = %q, %q, %v; want ErrSum", b, s, rest, err)
	}
}

// P3.2: a frame that is cut off anywhere is too short, a long one as well.
func TestTakeCutOff(t *testing.T) {
	for _, size := range []int{0, 1, 2, 9, 255, 256, 1000} {
		b := put(t, noise(size))
		for end := range b {
			if s, rest, err := frame.Take(b[:end]); s != "" || rest != "" || err != api.ErrShort {
				t.Fatalf("Take of %d bytes of %d = %q, %q, %v", end, len(b), s, rest, err)
			}
		}
	}
	b := put(t, noise(api.MaxText))
	for _, end := range []int{4, 5, len(b) - 5, len(b) - 4, len(b) - 1} {
		if s, rest, err := frame.Take(b[:end]); s != "" || rest != "" || err != api.ErrShort {
			t.Fatalf("Take of %d bytes of %d: %d bytes, %d bytes, %v", end, len(b), len(s), len(rest), err)
		}
	}
}

// P3.2: one Take behind the other reads a sequence of frames.
func TestTakeAfterTake(t *testing.T) {
	b := put(t, "ab") + put(t, "") + put(t, "c")
	for _, want := range []string{"ab", "", "c"} {
		s, rest, err := frame.Take(b)
		if s != want || err != nil {
			t.Fatalf("Take(%x) = %q, %v; want %q", b, s, err, want)
		}
		b = rest
	}
	if b != "" {
		t.Fatalf("%x is left", b)
	}
}

// lists are strings whose frames stand one behind the other.
var lists = [][]string{
	nil,
	{""},
	{"a"},
	{"", ""},
	{"a", ""},
	{"", "a"},
	{"ab", "", "c", "", ""},
	{"\x00", "\x08", "\x00\x00\x00\x00\x00", "\x01\x01a\xc1\xd0\x43\x30"},
	{repeat("x", 255), repeat("y", 256), ""},
	slices.Repeat([]string{""}, 1000),
	{repeat("z", api.MaxText), "z", repeat("z", api.MaxText)},
}

// join is the frames of texts, and where each of them begins, and the end.
func join(t *testing.T, texts []string) (string, []int) {
	t.Helper()
	var b strings.Builder
	var starts []int
	for _, s := range texts {
		starts = append(starts, b.Len())
		b.WriteString(put(t, s))
	}
	return b.String(), append(starts, b.Len())
}

// P3.2, P3.3: All reads the frames of every concatenation, and has its length as the index.
func TestAll(t *testing.T) {
	for _, texts := range lists {
		b, _ := join(t, texts)
		if got, at, err := frame.All(b); !slices.Equal(got, texts) || at != len(b) || err != nil {
			t.Errorf("All of %d frames, %d bytes: %d strings, %d, %v", len(texts), len(b), len(got), at, err)
		}
	}
}

// P3.2: All answers the strings ahead of what is no frame, where that begins, and Take's error.
func TestAllBad(t *testing.T) {
	for _, texts := range lists {
		head, starts := join(t, texts)
		last := starts[len(starts)-1]
		for _, c := range bad {
			if c.b == "" {
				continue
			}
			got, at, err := frame.All(head + c.b)
			if !slices.Equal(got, texts) || at != last || err != c.want {
				t.Errorf("All of %d frames and %.20x: %d strings, %d, %v; want %d, %v", len(texts), c.b, len(got), at, err, last, c.want)
			}
		}
	}
}

// P3.2: All stops at the first frame that Take does not accept, and reads none behind it.
func TestAllStops(t *testing.T) {
	texts := []string{"ab", "", "c", "d"}
	b, starts := join(t, texts)
	for i := range texts {
		last := []byte(b)
		last[starts[i+1]-1] ^= 1
		got, at, err := frame.All(string(last))
		if !slices.Equal(got, texts[:i]) || at != starts[i] || err != api.ErrSum {
			t.Errorf("All with another sum of frame %d = %q, %d, %v", i, got, at, err)
		}
		first := []byte(b)
		first[starts[i]] = 8
		got, at, err = frame.All(string(first))
		if !slices.Equal(got, texts[:i]) || at != starts[i] || err != api.ErrForm {
			t.Errorf("All with another length of frame %d = %q, %d, %v", i, got, at, err)
		}
	}
}

// P3.2: All of a sequence that is cut off: no error between two frames, ErrShort within one.
func TestAllCutOff(t *testing.T) {
	texts := []string{"ab", "", "c", noise(300)}
	b, starts := join(t, texts)
	many := 0
	for end := range len(b) + 1 {
		if end == starts[many+1] {
			many++
		}
		var want error = api.ErrShort
		if end == starts[many] {
			want = nil
		}
		got, at, err := frame.All(b[:end])
		if !slices.Equal(got, texts[:many]) || at != starts[many] || err != want {
			t.Fatalf("All of %d bytes of %d = %q, %d, %v; want %q, %d, %v", end, len(b), got, at, err, texts[:many], starts[many], want)
		}
		if end == len(b) {
			break
		}
	}
}

// P1, P3.2: a million frames take no longer than their bytes.
func TestAllOfMany(t *testing.T) {
	const many = 1 << 20
	b := repeat("\x00\x00\x00\x00\x00", many)
	if got, at, err := frame.All(b); len(got) != many || at != len(b) || err != nil {
		t.Errorf("%d strings, %d, %v", len(got), at, err)
	}
	if got, at, err := frame.All(b + "\x00"); len(got) != many || at != len(b) || err != api.ErrShort {
		t.Errorf("%d strings, %d, %v", len(got), at, err)
	}
}

// headSize is how many bytes of a frame stand ahead of a string of that size.
func headSize(t *testing.T, size int) int {
	t.Helper()
	return len(put(t, repeat("x", size))) - size - 4
}

// flip is b with the bits of change inverted that begin at a bit; a byte's bits count from the least one up, as the sum takes them.
func flip(b string, at int, change uint32) string {
	out := []byte(b)
	for ; change != 0; change >>= 1 {
		out[at/8] ^= byte(change&1) << (at % 8)
		at++
	}
	return string(out)
}

// refused checks that Take and All find another sum.
func refused(t *testing.T, b string) {
	t.Helper()
	if s, rest, err := frame.Take(b); s != "" || rest != "" || err != api.ErrSum {
		t.Fatalf("Take(%.40x) = %.20q, %.20q, %v; want ErrSum", b, s, rest, err)
	}
	if texts, at, err := frame.All(b); len(texts) != 0 || at != 0 || err != api.ErrSum {
		t.Fatalf("All(%.40x) = %.20q, %d, %v; want ErrSum", b, texts, at, err)
	}
}

// P3.3: whichever bit of the string, or of the sum, is inverted, Take tells it.
func TestEveryBit(t *testing.T) {
	for _, size := range []int{0, 1, 2, 3, 4, 5, 8, 64, 255, 256, 1000} {
		for _, s := range []string{noise(size), repeat("\x00", size), repeat("\xff", size)} {
			b, head := put(t, s), headSize(t, size)
			for bit := 8 * head; bit < 8*len(b); bit++ {
				refused(t, flip(b, bit, 1))
			}
		}
	}
	s := noise(api.MaxText)
	b, head := put(t, s), headSize(t, len(s))
	for _, bit := range []int{0, 1, 7, 8, 1 << 20, 8*len(s) - 8, 8*len(s) - 1} {
		refused(t, flip(b, 8*head+bit, 1))
	}
}

// P3.3: bursts of every length up to 32 bits at every place of a string: all of the short ones, some of the others.
func TestBursts(t *testing.T) {
	const size = 20
	b, head := put(t, noise(size)), headSize(t, size)
	random := rand.New(rand.NewSource(3))
	for length := 1; length <= 32; length++ {
		ends := uint32(1)<<(length-1) | 1
		for at := range 8*size - length + 1 {
			for inner := range uint32(1) << min(max(length-2, 0), 7) {
				if length > 9 {
					inner = random.Uint32()
				}
				refused(t, flip(b, 8*head+at, ends|inner<<1&(ends-1)))
			}
			refused(t, flip(b, 8*head+at, ends))
			refused(t, flip(b, 8*head+at, ends|(ends-1)))
		}
	}
}

// P3.3: all bursts, told by algebra: what single bits do to a sum adds up, and within 32 bits in a row no sum of some is none. Were a byte's bits counted from the greatest one down, this would not hold for every place.
func TestBurstsAreIndependent(t *testing.T) {
	const size = 40
	s := noise(size)
	sum := frame.Sum(s)
	for at := range 8*size - 31 {
		var basis [33]uint32
		for i := range 32 {
			change := frame.Sum(flip(s, at+i, 1)) ^ sum
			for change != 0 && basis[bits.Len32(change)] != 0 {
				change ^= basis[bits.Len32(change)]
			}
			if change == 0 {
				t.Fatalf("some change of the 32 bits from %d on leaves the sum", at)
			}
			basis[bits.Len32(change)] = change
		}
	}
}

// reframe checks P3.2, P3.3 for arbitrary bytes: what is taken was put; P1, P2: what is not ends with an error and zero values, and All does what Take after Take does.
func reframe(t *testing.T, b string) {
	t.Helper()
	var want []string
	left := b
	var last error
	for left != "" {
		s, rest, err := frame.Take(left)
		if err != nil {
			if s != "" || rest != "" || err != api.ErrShort && err != api.ErrForm && err != api.ErrLong && err != api.ErrSum {
				t.Fatalf("Take(%x) = %q, %q, %v", left, s, rest, err)
			}
			last = err
			break
		}
		if put(t, s)+rest != left {
			t.Fatalf("Take(%x) = %q, %q", left, s, rest)
		}
		want, left = append(want, s), rest
	}
	got, at, err := frame.All(b)
	if !slices.Equal(got, want) || at != len(b)-len(left) || err != last {
		t.Fatalf("All(%x) = %q, %d, %v; want %q, %d, %v", b, got, at, err, want, len(b)-len(left), last)
	}
}

// P3.2, P3.3: every string of up to 7 telling bytes, among them frames and sequences that are broken off.
func TestReframe(t *testing.T) {
	telling := []byte{0, 1, 2, 8, 'a'}
	var walk func(b []byte)
	walk = func(b []byte) {
		reframe(t, string(b))
		if len(b) == 7 {
			return
		}
		for _, c := range telling {
			walk(append(b, c))
		}
	}
	walk(make([]byte, 0, 7))
}

// P3.3: what Put has written comes back, behind other frames and ahead of others, and bytes of it changed never come back as another string of that length.
func TestBackAndForth(t *testing.T) {
	random := rand.New(rand.NewSource(4))
	for range 2000 {
		texts := make([]string, random.Intn(5))
		for i := range texts {
			texts[i] = noise(random.Intn(70))
		}
		b, starts := join(t, texts)
		if got, at, err := frame.All(b); !slices.Equal(got, texts) || at != len(b) || err != nil {
			t.Fatalf("All(%x) = %q, %d, %v; want %q", b, got, at, err, texts)
		}
		if len(texts) == 0 {
			continue
		}
		i := random.Intn(len(texts))
		head := headSize(t, len(texts[i]))
		where := starts[i] + head + random.Intn(starts[i+1]-starts[i]-head)
		broken := []byte(b)
		broken[where] ^= byte(1 + random.Intn(255))
		if got, at, err := frame.All(string(broken)); !slices.Equal(got, texts[:i]) || at != starts[i] || err != api.ErrSum {
			t.Fatalf("All(%x) = %q, %d, %v; want %q", broken, got, at, err, texts[:i])
		}
	}
}

// P3.2, P3.3: whatever the fuzzer finds (without it, the seeds).
func FuzzReframe(f *testing.F) {
	for _, c := range frames {
		f.Add(c.b)
		f.Add(c.b + c.b)
		f.Add(c.b + "\x00")
	}
	f.Add("\x01\x01b\xc1\xd0\x43\x30")
	f.Fuzz(reframe)
}

// P3.1, P3.3: whatever strings the fuzzer finds have the sum of the definition, and frames that come back.
func FuzzPut(f *testing.F) {
	for _, c := range frames {
		f.Add(c.s, c.b)
	}
	f.Fuzz(func(t *testing.T, s, tail string) {
		if got, want := frame.Sum(s), sumByDefinition(s); got != want {
			t.Fatalf("Sum(%x) = %08x; want %08x", s, got, want)
		}
		if got, rest, err := frame.Take(put(t, s) + tail); got != s || rest != tail || err != nil {
			t.Fatalf("Take(Put(%x) + %x) = %x, %x, %v", s, tail, got, rest, err)
		}
	})
}

// P3, P4: lists of two results share no memory, up to their capacity, and the same call answers the same.
func TestMemory(t *testing.T) {
	texts := []string{"a", "", "b"}
	b, _ := join(t, texts)
	one, _, _ := frame.All(b)
	two, _, _ := frame.All(b)
	one = one[:cap(one)]
	for i := range one {
		if i >= len(texts) && one[i] != "" {
			t.Errorf("%q behind the strings", one[i])
		}
		one[i] = "overwritten"
	}
	if !slices.Equal(two, texts) {
		t.Errorf("two results share memory: %q", two)
	}
	if again, at, err := frame.All(b); !slices.Equal(again, texts) || at != len(b) || err != nil {
		t.Errorf("the same call answered otherwise: %q, %d, %v", again, at, err)
	}
}
