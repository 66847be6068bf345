package pack_test

import (
	"math"
	"slices"
	"strings"
	"testing"

	"palinode/api"
	"palinode/pack"
)

// must is the value of an encoding that may not fail.
func must(t *testing.T, s string, err error) string {
	t.Helper()
	if err != nil {
		t.Fatal(err)
	}
	return s
}

func num(t *testing.T, n int) string {
	t.Helper()
	s, err := pack.Num(n)
	return must(t, s, err)
}

func text(t *testing.T, s string) string {
	t.Helper()
	b, err := pack.Text(s)
	return must(t, b, err)
}

func row(t *testing.T, texts ...string) string {
	t.Helper()
	b, err := pack.Row(texts)
	return must(t, b, err)
}

// numbers are those at which an encoding grows, and the ones beside them, with their encodings.
var numbers = []struct {
	n int
	b string
}{
	{0, "\x00"},
	{1, "\x01\x01"},
	{5, "\x01\x05"},
	{127, "\x01\x7f"},
	{128, "\x01\x80"},
	{255, "\x01\xff"},
	{256, "\x02\x01\x00"},
	{0x1234, "\x02\x12\x34"},
	{1<<16 - 1, "\x02\xff\xff"},
	{1 << 16, "\x03\x01\x00\x00"},
	{0x123456, "\x03\x12\x34\x56"},
	{1<<24 - 1, "\x03\xff\xff\xff"},
	{1 << 24, "\x04\x01\x00\x00\x00"},
	{0x12345678, "\x04\x12\x34\x56\x78"},
	{1<<32 - 1, "\x04\xff\xff\xff\xff"},
	{1 << 32, "\x05\x01\x00\x00\x00\x00"},
	{0x123456789a, "\x05\x12\x34\x56\x78\x9a"},
	{1<<40 - 1, "\x05\xff\xff\xff\xff\xff"},
	{1 << 40, "\x06\x01\x00\x00\x00\x00\x00"},
	{0x123456789abc, "\x06\x12\x34\x56\x78\x9a\xbc"},
	{1<<48 - 1, "\x06\xff\xff\xff\xff\xff\xff"},
	{1 << 48, "\x07\x01\x00\x00\x00\x00\x00\x00"},
	{0x123456789abcde, "\x07\x12\x34\x56\x78\x9a\xbc\xde"},
	{api.MaxNumber - 1, "\x07\x1f\xff\xff\xff\xff\xff\xfe"},
	{api.MaxNumber, "\x07\x1f\xff\xff\xff\xff\xff\xff"},
}

// P1.1: Num writes the bytes that the chapter says, and ReadNum reads them and leaves the rest.
func TestNumbers(t *testing.T) {
	for _, c := range numbers {
		if b, err := pack.Num(c.n); b != c.b || err != nil {
			t.Errorf("Num(%d) = %x, %v; want %x", c.n, b, err, c.b)
		}
		for _, tail := range []string{"", "\x00", "\x08", "rest of it"} {
			n, rest, err := pack.ReadNum(c.b + tail)
			if n != c.n || rest != tail || err != nil {
				t.Errorf("ReadNum(%x) = %d, %q, %v; want %d, %q", c.b+tail, n, rest, err, c.n, tail)
			}
		}
	}
}

// P1.1: Num takes nothing beyond its limits.
func TestNumOutOfRange(t *testing.T) {
	for _, n := range []int{-1, -256, math.MinInt, api.MaxNumber + 1, 1 << 56, math.MaxInt} {
		if b, err := pack.Num(n); b != "" || err != api.ErrArg {
			t.Errorf("Num(%d) = %x, %v; want ErrArg", n, b, err)
		}
	}
}

// badNumbers begin with no number.
var badNumbers = []struct {
	b    string
	want error
}{
	{"", api.ErrShort},
	{"\x08", api.ErrForm},
	{"\x08\x01\x02\x03\x04\x05\x06\x07\x08", api.ErrForm},
	{"\x80", api.ErrForm},
	{"\xff", api.ErrForm},
	{"\x01", api.ErrShort},
	{"\x02\x01", api.ErrShort},
	{"\x07\x01\x02\x03\x04\x05\x06", api.ErrShort},
	// Too few bytes are told ahead of what those bytes are.
	{"\x02\x00", api.ErrShort},
	{"\x07\xff\xff\xff\xff\xff\xff", api.ErrShort},
	{"\x01\x00", api.ErrForm},
	{"\x02\x00\x05", api.ErrForm},
	{"\x07\x00\x01\x02\x03\x04\x05\x06", api.ErrForm},
	{"\x07\x20\x00\x00\x00\x00\x00\x00", api.ErrForm},
	{"\x07\xff\xff\xff\xff\xff\xff\xff", api.ErrForm},
}

// P1.1: ReadNum refuses what is no number, with the error that comes first.
func TestReadNumBad(t *testing.T) {
	for _, c := range badNumbers {
		n, rest, err := pack.ReadNum(c.b)
		if n != 0 || rest != "" || err != c.want {
			t.Errorf("ReadNum(%x) = %d, %q, %v; want %v", c.b, n, rest, err, c.want)
		}
	}
}

// P1.1, P1.4: among all strings of up to 3 bytes ReadNum takes those that begin with an encoding, and no others.
func TestReadNumEveryShortString(t *testing.T) {
	encodings := map[string]int{}
	for n := range 1 << 16 {
		encodings[num(t, n)] = n
	}
	if len(encodings) != 1<<16 {
		t.Fatalf("%d encodings of %d numbers", len(encodings), 1<<16)
	}
	check := func(b string) {
		want, head := 0, ""
		for i := 1; i <= len(b); i++ {
			if n, ok := encodings[b[:i]]; ok {
				want, head = n, b[:i]
			}
		}
		n, rest, err := pack.ReadNum(b)
		if head == "" && err == nil || head != "" && (n != want || head+rest != b || err != nil) {
			t.Fatalf("ReadNum(%x) = %d, %x, %v", b, n, rest, err)
		}
	}
	check("")
	for i := range 1 << 8 {
		check(string([]byte{byte(i)}))
	}
	for i := range 1 << 16 {
		check(string([]byte{byte(i >> 8), byte(i)}))
	}
	for first := range 9 {
		for i := range 1 << 16 {
			check(string([]byte{byte(first), byte(i >> 8), byte(i)}))
		}
	}
}

// P1.2: Text writes the length and the bytes, and ReadText reads them and leaves the rest.
func TestTexts(t *testing.T) {
	for _, c := range []struct{ s, b string }{
		{"", "\x00"},
		{"ab", "\x01\x02ab"},
		{"\x00", "\x01\x01\x00"},
		{"\xff\xfe", "\x01\x02\xff\xfe"},
		{"grün", "\x01\x05gr\xc3\xbcn"},
		{strings.Repeat("x", 255), "\x01\xff" + strings.Repeat("x", 255)},
		{strings.Repeat("x", 256), "\x02\x01\x00" + strings.Repeat("x", 256)},
		{strings.Repeat("x", 1<<16), "\x03\x01\x00\x00" + strings.Repeat("x", 1<<16)},
		{strings.Repeat("x", api.MaxText), "\x03\x10\x00\x00" + strings.Repeat("x", api.MaxText)},
	} {
		if b, err := pack.Text(c.s); b != c.b || err != nil {
			t.Errorf("Text of %d bytes: %d bytes, %v", len(c.s), len(b), err)
		}
		for _, tail := range []string{"", "\x00", "rest of it"} {
			s, rest, err := pack.ReadText(c.b + tail)
			if s != c.s || rest != tail || err != nil {
				t.Errorf("ReadText of %d bytes: %d bytes, %q, %v", len(c.b+tail), len(s), rest, err)
			}
		}
	}
}

// P1.2: Text takes no string beyond MaxText.
func TestTextTooLong(t *testing.T) {
	for _, size := range []int{api.MaxText + 1, 2 * api.MaxText} {
		if b, err := pack.Text(strings.Repeat("x", size)); b != "" || err != api.ErrLong {
			t.Errorf("Text of %d bytes: %d bytes, %v; want ErrLong", size, len(b), err)
		}
	}
}

// P1.2: ReadText refuses what is no string, with the error that comes first.
func TestReadTextBad(t *testing.T) {
	for _, c := range []struct {
		b    string
		want error
	}{
		{"\x01\x01", api.ErrShort},
		{"\x01\x03ab", api.ErrShort},
		{"\x02\x01\x00" + strings.Repeat("x", 255), api.ErrShort},
		{"\x03\x10\x00\x00", api.ErrShort},
		{"\x03\x10\x00\x00" + strings.Repeat("x", api.MaxText-1), api.ErrShort},
		// A length beyond the limit is told ahead of the bytes that are missing.
		{"\x03\x10\x00\x01", api.ErrLong},
		{"\x03\x10\x00\x01" + strings.Repeat("x", api.MaxText+1), api.ErrLong},
		{"\x07\x1f\xff\xff\xff\xff\xff\xff", api.ErrLong},
	} {
		s, rest, err := pack.ReadText(c.b)
		if s != "" || rest != "" || err != c.want {
			t.Errorf("ReadText(%.20x) = %q, %q, %v; want %v", c.b, s, rest, err, c.want)
		}
	}
	for _, c := range badNumbers {
		if s, rest, err := pack.ReadText(c.b); s != "" || rest != "" || err != c.want {
			t.Errorf("ReadText(%x) = %q, %q, %v; want %v", c.b, s, rest, err, c.want)
		}
	}
}

// P1.3: Row writes the number of strings and each of them, and ReadRow reads them.
func TestRows(t *testing.T) {
	for _, c := range []struct {
		texts []string
		b     string
	}{
		{nil, "\x00"},
		{[]string{""}, "\x01\x01\x00"},
		{[]string{"a", ""}, "\x01\x02\x01\x01a\x00"},
		{[]string{"ab", "c", "\x00\xff"}, "\x01\x03\x01\x02ab\x01\x01c\x01\x02\x00\xff"},
		{[]string{"same", "same"}, "\x01\x02\x01\x04same\x01\x04same"},
		{make([]string, 255), "\x01\xff" + strings.Repeat("\x00", 255)},
		{make([]string, 256), "\x02\x01\x00" + strings.Repeat("\x00", 256)},
		{make([]string, 1000), "\x02\x03\xe8" + strings.Repeat("\x00", 1000)},
		{slices.Repeat([]string{"x"}, 1000), "\x02\x03\xe8" + strings.Repeat("\x01\x01x", 1000)},
	} {
		if b, err := pack.Row(c.texts); b != c.b || err != nil {
			t.Errorf("Row(%.5q) = %.20x, %v; want %.20x", c.texts, b, err, c.b)
		}
		if texts, err := pack.ReadRow(c.b); !slices.Equal(texts, c.texts) || err != nil {
			t.Errorf("ReadRow(%.20x) = %.5q, %v; want %.5q", c.b, texts, err, c.texts)
		}
	}
	if b, err := pack.Row([]string{}); b != "\x00" || err != nil {
		t.Errorf("Row of the empty list = %x, %v", b, err)
	}
}

// P1.3: a row may have as many bytes as MaxText, and no more.
func TestRowLongest(t *testing.T) {
	// Beside the bytes of its one string, a row has 2 for how many there are, and 4 for the length.
	x := strings.Repeat("x", api.MaxText-6)
	b := row(t, x)
	if len(b) != api.MaxText {
		t.Fatalf("a row of %d bytes", len(b))
	}
	if texts, err := pack.ReadRow(b); !slices.Equal(texts, []string{x}) || err != nil {
		t.Errorf("ReadRow of the longest row: %d strings, %v", len(texts), err)
	}
	half := strings.Repeat("y", api.MaxText/2-5)
	if b := row(t, half, half); len(b) != api.MaxText {
		t.Errorf("a row of %d bytes", len(b))
	}
	for _, texts := range [][]string{
		{x + "x"},
		{half, half + "y"},
		{strings.Repeat("x", api.MaxText)},
		{"", strings.Repeat("x", api.MaxText+1), ""},
		{strings.Repeat("x", api.MaxText), strings.Repeat("x", api.MaxText)},
		slices.Repeat([]string{strings.Repeat("x", 1046)}, 1000),
		slices.Repeat([]string{x}, 1000),
	} {
		if b, err := pack.Row(texts); b != "" || err != api.ErrLong {
			t.Errorf("Row of %d strings: %d bytes, %v; want ErrLong", len(texts), len(b), err)
		}
	}
	for _, size := range []int{1001, 1 << 16} {
		if b, err := pack.Row(make([]string, size)); b != "" || err != api.ErrLong {
			t.Errorf("Row of %d strings: %d bytes, %v; want ErrLong", size, len(b), err)
		}
	}
}

// P1.3: ReadRow refuses what is no row, with the error that comes first.
func TestReadRowBad(t *testing.T) {
	for _, c := range []struct {
		b    string
		want error
	}{
		{"\x01\x01", api.ErrShort},
		{"\x01\x02\x01\x01a", api.ErrShort},
		{"\x01\x01\x01", api.ErrShort},
		{"\x01\x01\x01\x02a", api.ErrShort},
		{"\x01\x02\x01\x01a\x01", api.ErrShort},
		{"\x01\x01\x08", api.ErrForm},
		{"\x01\x01\x02\x00\x05hello", api.ErrForm},
		{"\x01\x01\x03\x10\x00\x01", api.ErrLong},
		{"\x00\x00", api.ErrForm},
		{"\x01\x01\x01\x01ab", api.ErrForm},
		{"\x01\x02\x00\x00\x00", api.ErrForm},
		// A fault in a string is told ahead of what is behind it, and ahead of a later one.
		{"\x01\x02\x08\x01", api.ErrForm},
		{"\x01\x02\x01\x05\x08", api.ErrShort},
		{"\x02\x03\xe8" + strings.Repeat("\x00", 999), api.ErrShort},
		{"\x02\x03\xe8" + strings.Repeat("\x00", 1001), api.ErrForm},
		// Too many strings are told ahead of the strings.
		{"\x02\x03\xe9", api.ErrLong},
		{"\x02\x03\xe9" + strings.Repeat("\x00", 1001), api.ErrLong},
		{"\x02\x03\xe9\x08", api.ErrLong},
		{"\x07\x1f\xff\xff\xff\xff\xff\xff", api.ErrLong},
		// Too many bytes are told ahead of everything.
		{"\x08" + strings.Repeat("x", api.MaxText), api.ErrLong},
		{strings.Repeat("\x00", api.MaxText+1), api.ErrLong},
		{"\x08" + strings.Repeat("x", api.MaxText-1), api.ErrForm},
		{strings.Repeat("\x00", api.MaxText), api.ErrForm},
	} {
		if texts, err := pack.ReadRow(c.b); len(texts) != 0 || err != c.want {
			t.Errorf("ReadRow(%.20x) = %.5q, %v; want %v", c.b, texts, err, c.want)
		}
	}
	for _, c := range badNumbers {
		if texts, err := pack.ReadRow(c.b); len(texts) != 0 || err != c.want {
			t.Errorf("ReadRow(%x) = %q, %v; want %v", c.b, texts, err, c.want)
		}
	}
}

// P1.4: every number of a walk through all sizes, with strings and rows made from them, comes back as it was.
func TestBackAndForth(t *testing.T) {
	for n := 0; n <= api.MaxNumber; n += n/3 + 1 {
		b := num(t, n)
		if got, rest, err := pack.ReadNum(b + b); got != n || rest != b || err != nil {
			t.Fatalf("ReadNum(Num(%d)) = %d, %x, %v", n, got, rest, err)
		}
		if s, rest, err := pack.ReadText(text(t, b) + b); s != b || rest != b || err != nil {
			t.Fatalf("ReadText(Text(%x)) = %x, %x, %v", b, s, rest, err)
		}
		texts := []string{b, "", text(t, b), b}
		if got, err := pack.ReadRow(row(t, texts...)); !slices.Equal(got, texts) || err != nil {
			t.Fatalf("ReadRow(Row(%x)) = %x, %v", texts, got, err)
		}
	}
}

// P1.4: a row within a row comes back, and a sequence of different values is read one by one.
func TestNested(t *testing.T) {
	inner := row(t, "a", "", "\x00\x01")
	outer, err := pack.ReadRow(row(t, inner, inner))
	if err != nil || !slices.Equal(outer, []string{inner, inner}) {
		t.Fatalf("%x, %v", outer, err)
	}
	b := num(t, 300) + text(t, "ab") + num(t, 0) + text(t, "")
	n, b, err := pack.ReadNum(b)
	if n != 300 || err != nil {
		t.Fatal(n, err)
	}
	s, b, err := pack.ReadText(b)
	if s != "ab" || err != nil {
		t.Fatal(s, err)
	}
	if n, b, err = pack.ReadNum(b); n != 0 || err != nil {
		t.Fatal(n, err)
	}
	if s, b, err = pack.ReadText(b); s != "" || b != "" || err != nil {
		t.Fatal(s, b, err)
	}
}

// reencode checks P1.4 for arbitrary bytes: what decodes encodes to the bytes it came from; P1, P2: what does not decode ends with an error and zero values.
func reencode(t *testing.T, b string) {
	t.Helper()
	n, rest, err := pack.ReadNum(b)
	if err == nil && num(t, n)+rest != b || err != nil && (n != 0 || rest != "") {
		t.Fatalf("ReadNum(%x) = %d, %x, %v", b, n, rest, err)
	}
	s, rest, err := pack.ReadText(b)
	if err == nil && text(t, s)+rest != b || err != nil && (s != "" || rest != "") {
		t.Fatalf("ReadText(%x) = %x, %x, %v", b, s, rest, err)
	}
	texts, err := pack.ReadRow(b)
	if err == nil && row(t, texts...) != b || err != nil && len(texts) != 0 {
		t.Fatalf("ReadRow(%x) = %x, %v", b, texts, err)
	}
}

// P1.4: every string of up to 6 bytes from a few telling ones.
func TestReencode(t *testing.T) {
	telling := []byte{0, 1, 2, 3, 7, 8, 0xff}
	var walk func(b []byte)
	walk = func(b []byte) {
		reencode(t, string(b))
		if len(b) == 6 {
			return
		}
		for _, c := range telling {
			walk(append(b, c))
		}
	}
	walk(make([]byte, 0, 6))
}

// P1.4: whatever the fuzzer finds (without it, the seeds).
func FuzzReencode(f *testing.F) {
	for _, b := range []string{"", "\x00", "\x01\x02ab", "\x02\x00\x05", "\x01\x02\x01\x01a\x00", "\x07\x1f\xff\xff\xff\xff\xff\xff"} {
		f.Add(b)
	}
	f.Fuzz(reencode)
}

// P3: Row leaves its argument alone, up to its capacity; lists of two results share no memory, nor do lists and arguments.
func TestMemory(t *testing.T) {
	all := []string{"a", "b", "c", "spare"}
	b := row(t, all[:3]...)
	if !slices.Equal(all, []string{"a", "b", "c", "spare"}) {
		t.Errorf("Row changed its argument: %q", all)
	}
	all[0] = "changed"
	one, _ := pack.ReadRow(b)
	two, _ := pack.ReadRow(b)
	one = one[:cap(one)]
	for i := range one {
		one[i] = "overwritten"
	}
	if !slices.Equal(two, []string{"a", "b", "c"}) {
		t.Errorf("two results share memory: %q", two)
	}
	if again, err := pack.ReadRow(b); !slices.Equal(again, two) || err != nil {
		t.Errorf("the same call answered otherwise: %q, %v", again, err)
	}
}
