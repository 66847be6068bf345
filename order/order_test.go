package order_test

import (
	"math"
	"slices"
	"strings"
	"testing"

	"palinode/api"
	"palinode/order"
)

func n(i int) api.Part    { return api.Part{N: i} }
func s(x string) api.Part { return api.Part{Text: true, S: x} }

func list(parts ...api.Part) []api.Part { return parts }

// key is the key of parts that must have one.
func key(t *testing.T, parts ...api.Part) string {
	t.Helper()
	k, err := order.Key(parts)
	if err != nil {
		t.Fatalf("Key(%v): %v", parts, err)
	}
	return k
}

const (
	five    = "\x01\x00\x00\x00\x00\x00\x00\x05"
	largest = "\x01\x1f\xff\xff\xff\xff\xff\xff"
)

// keys are parts and their key.
var keys = []struct {
	parts []api.Part
	key   string
}{
	{nil, ""},
	{list(n(0)), "\x01\x00\x00\x00\x00\x00\x00\x00"},
	{list(n(5)), five},
	{list(n(255)), "\x01\x00\x00\x00\x00\x00\x00\xff"},
	{list(n(256)), "\x01\x00\x00\x00\x00\x00\x01\x00"},
	{list(n(0x123456789abcd)), "\x01\x01\x23\x45\x67\x89\xab\xcd"},
	{list(n(api.MaxNumber)), largest},
	{list(s("")), "\x02\x00\x00"},
	{list(s("ab")), "\x02ab\x00\x00"},
	{list(s("\x00")), "\x02\x00\xff\x00\x00"},
	{list(s("\x00\x00")), "\x02\x00\xff\x00\xff\x00\x00"},
	{list(s("a\x00b")), "\x02a\x00\xffb\x00\x00"},
	{list(s("\x00a")), "\x02\x00\xffa\x00\x00"},
	{list(s("\xff")), "\x02\xff\x00\x00"},
	{list(s("\x00\xff")), "\x02\x00\xff\xff\x00\x00"},
	{list(s("\x01\x02\xfe\x80")), "\x02\x01\x02\xfe\x80\x00\x00"},
	{list(s("grün")), "\x02gr\xc3\xbcn\x00\x00"},
	{list(n(5), s("a\x00")), five + "\x02a\x00\xff\x00\x00"},
	{list(s("a"), n(5)), "\x02a\x00\x00" + five},
	{list(s(""), s(""), s("b")), "\x02\x00\x00\x02\x00\x00\x02b\x00\x00"},
	{list(n(5), n(5), n(api.MaxNumber)), five + five + largest},
	{slices.Repeat(list(n(5)), 10), strings.Repeat(five, 10)},
	{slices.Repeat(list(s("")), 26), strings.Repeat("\x02\x00\x00", 26)},
	{list(s(strings.Repeat("x", 77))), "\x02" + strings.Repeat("x", 77) + "\x00\x00"},
	{list(s(strings.Repeat("\x00", 38) + "x")), "\x02" + strings.Repeat("\x00\xff", 38) + "x\x00\x00"},
	{list(n(5), s(strings.Repeat("x", 69))), five + "\x02" + strings.Repeat("x", 69) + "\x00\x00"},
}

// P2.1, P2.3: Key writes the bytes that the chapter says, and Split reads them.
func TestKeys(t *testing.T) {
	for _, c := range keys {
		if k, err := order.Key(c.parts); k != c.key || err != nil {
			t.Errorf("Key(%v) = %x, %v; want %x", c.parts, k, err, c.key)
		}
		if parts, err := order.Split(c.key); !slices.Equal(parts, c.parts) || err != nil {
			t.Errorf("Split(%x) = %v, %v; want %v", c.key, parts, err, c.parts)
		}
	}
	if k, err := order.Key([]api.Part{}); k != "" || err != nil {
		t.Errorf("Key of the empty list = %x, %v", k, err)
	}
}

// P2.1: the field that a part's kind does not use counts for nothing, whatever it is.
func TestUnusedFields(t *testing.T) {
	long := strings.Repeat("x\x00", 100)
	for _, unused := range []int{1, -1, api.MaxNumber + 1, math.MinInt, math.MaxInt} {
		p := api.Part{Text: true, N: unused, S: "a"}
		if k, err := order.Key(list(p)); k != "\x02a\x00\x00" || err != nil {
			t.Errorf("Key(%v) = %x, %v", p, k, err)
		}
		if order.Before(list(p), list(s("a"))) || order.Before(list(s("a")), list(p)) {
			t.Errorf("%v is not %v", p, s("a"))
		}
		if !order.Before(list(p), list(s("b"))) || order.Before(list(s("b")), list(p)) {
			t.Errorf("%v is not ahead of %v", p, s("b"))
		}
	}
	p := api.Part{N: 5, S: long}
	if k, err := order.Key(slices.Repeat(list(p), 10)); k != strings.Repeat(five, 10) || err != nil {
		t.Errorf("Key of ten numbers with a string = %x, %v", k, err)
	}
	if order.Before(list(p), list(n(5))) || order.Before(list(n(5)), list(p)) {
		t.Errorf("a number with a string is not that number")
	}
	if !order.Before(list(p), list(n(6))) || !order.Before(list(n(4)), list(p)) {
		t.Errorf("a number with a string is in another place than that number")
	}
}

// P2.1: Key takes no number beyond the limits, wherever it stands, and says so ahead of anything else.
func TestKeyOutOfRange(t *testing.T) {
	long := s(strings.Repeat("x", 100))
	for _, bad := range []int{-1, -256, math.MinInt, api.MaxNumber + 1, 1 << 56, math.MaxInt} {
		for _, parts := range [][]api.Part{
			{n(bad)},
			{n(bad), n(5)},
			{n(5), n(bad)},
			{s("a"), n(bad), s("b")},
			{{N: bad, S: "x"}},
			{long, n(bad)},
			{n(bad), long},
			append(slices.Repeat(list(n(5)), 20), n(bad)),
			slices.Repeat(list(n(bad)), 20),
		} {
			if k, err := order.Key(parts); k != "" || err != api.ErrArg {
				t.Errorf("Key(%v) = %x, %v; want ErrArg", parts, k, err)
			}
		}
	}
}

// P2.1: Key makes no key of more than MaxKey bytes; TestKeys has those of MaxKey bytes.
func TestKeyTooLong(t *testing.T) {
	for _, parts := range [][]api.Part{
		{s(strings.Repeat("x", 78))},
		{s(strings.Repeat("\x00", 39))},
		{s(strings.Repeat("\x00", 38) + "xx")},
		{s(strings.Repeat("x", 76) + "\x00")},
		{s(strings.Repeat("x", api.MaxText+1))},
		{n(5), s(strings.Repeat("x", 70))},
		{s(strings.Repeat("x", 70)), n(5)},
		{s(strings.Repeat("x", 75)), s("")},
		slices.Repeat(list(n(5)), 11),
		slices.Repeat(list(s("")), 27),
		slices.Repeat(list(s("")), 1<<16),
		append(slices.Repeat(list(n(5)), 10), s("")),
	} {
		if k, err := order.Key(parts); k != "" || err != api.ErrLong {
			t.Errorf("Key(%.20v) = %x, %v; want ErrLong", parts, k, err)
		}
	}
}

// P2.1: Split refuses what is no key, with the error that comes first.
func TestSplitBad(t *testing.T) {
	for _, c := range []struct {
		key  string
		want error
	}{
		{"\x00", api.ErrForm},
		{"\x03", api.ErrForm},
		{"\xff", api.ErrForm},
		{"a", api.ErrForm},
		{"\x00\x00\x00\x00\x00\x00\x00\x00", api.ErrForm},
		{"\x01", api.ErrShort},
		{"\x01\x00", api.ErrShort},
		{"\x01\x00\x00\x00\x00\x00\x00", api.ErrShort},
		{"\x01\x20\x00\x00\x00\x00\x00\x00", api.ErrForm},
		{"\x01\xff\xff\xff\xff\xff\xff\xff", api.ErrForm},
		// Only a complete number is too great.
		{"\x01\xff\xff\xff\xff\xff\xff", api.ErrShort},
		{"\x02", api.ErrShort},
		{"\x02a", api.ErrShort},
		{"\x02a\x00", api.ErrShort},
		{"\x02\x00", api.ErrShort},
		{"\x02\x00\xff", api.ErrShort},
		{"\x02\x00\xff\x00", api.ErrShort},
		{"\x02\xff\xff", api.ErrShort},
		{"\x02" + strings.Repeat("x", api.MaxKey-1), api.ErrShort},
		{"\x02" + strings.Repeat("x", api.MaxKey-2) + "\x00", api.ErrShort},
		{"\x02a\x00\x05", api.ErrForm},
		{"\x02\x00\x01", api.ErrForm},
		{"\x02\x00\x02\x00\x00", api.ErrForm},
		{"\x02\x00\xfe", api.ErrForm},
		{"\x02\x00\xff\x00\x05", api.ErrForm},
		{"\x02a\x00\x05\x00", api.ErrForm},
		{"\x02a\x00\x00\x00", api.ErrForm},
		{"\x02a\x00\x00\xff", api.ErrForm},
		{"\x02a\x00\x00b", api.ErrForm},
		{five + "\x00", api.ErrForm},
		{five + "\x01", api.ErrShort},
		{five + five[:7], api.ErrShort},
		{five + "\x02", api.ErrShort},
		{"\x02a\x00\x00\x02b\x00", api.ErrShort},
		// The first fault counts, not a later one.
		{"\x03\x02\x00", api.ErrForm},
		{"\x02a\x00\x05\x02b", api.ErrForm},
		{"\x01\xff\xff\xff\xff\xff\xff\xff\x02", api.ErrForm},
		{"\x02a\x00\x00\x01\xff\xff\xff\xff\xff\xff\xff", api.ErrForm},
		// Too many bytes are told ahead of everything.
		{strings.Repeat("\x00", api.MaxKey), api.ErrForm},
		{strings.Repeat("\x00", api.MaxKey+1), api.ErrLong},
		{strings.Repeat("\x03", api.MaxKey+1), api.ErrLong},
		{strings.Repeat(five, 10) + "\x02", api.ErrLong},
		{strings.Repeat(five, 11), api.ErrLong},
		{"\x02" + strings.Repeat("x", 78) + "\x00\x00", api.ErrLong},
		{strings.Repeat("\x02\x00\x00", 27), api.ErrLong},
		{strings.Repeat("x", api.MaxText), api.ErrLong},
	} {
		if parts, err := order.Split(c.key); len(parts) != 0 || err != c.want {
			t.Errorf("Split(%.90x) = %v, %v; want %v", c.key, parts, err, c.want)
		}
	}
}

// P2.2: Behind is the least string behind all that begin with head.
func TestBehind(t *testing.T) {
	for head, want := range map[string]string{
		"":                                "",
		"\xff":                            "",
		"\xff\xff\xff":                    "",
		"\x00":                            "\x01",
		"a":                               "b",
		"a\x00":                           "a\x01",
		"ab":                              "ac",
		"a\xfe":                           "a\xff",
		"\xfe":                            "\xff",
		"\x7f":                            "\x80",
		"a\xff":                           "b",
		"a\xff\xff\xff":                   "b",
		"\x00\xff":                        "\x01",
		"a\xffb":                          "a\xffc",
		"a\xffb\xff":                      "a\xffc",
		"\xffa":                           "\xffb",
		"\xffa\xff":                       "\xffb",
		"\xff\x00\xff":                    "\xff\x01",
		"\xff\xfe\xff":                    "\xff\xff",
		"\x80\xff":                        "\x81",
		"gr\xc3\xbc":                      "gr\xc3\xbd",
		"\xef\xbf\xbd":                    "\xef\xbf\xbe",
		strings.Repeat("x", 500):          strings.Repeat("x", 499) + "y",
		"a" + strings.Repeat("\xff", 500): "b",
		strings.Repeat("\xff", 500):       "",
	} {
		if got := order.Behind(head); got != want {
			t.Errorf("Behind(%x) = %x; want %x", head, got, want)
		}
	}
}

// stringsOf are the strings of up to size bytes from an alphabet, in ascending order.
func stringsOf(alphabet string, size int) []string {
	all := []string{""}
	for from := 0; size > 0; size-- {
		to := len(all)
		for _, head := range all[from:to] {
			for i := range len(alphabet) {
				all = append(all, head+alphabet[i:i+1])
			}
		}
		from = to
	}
	slices.Sort(all)
	return all
}

// P2.2: Behind, held against its definition: all strings with the head are less, and whatever is less than it is less than one of them.
func TestBehindIsLeast(t *testing.T) {
	all := stringsOf("\x00\x01\xfe\xff", 4)
	tail := strings.Repeat("\xff", 8)
	for _, head := range stringsOf("\x00\x01\xfe\xff", 3) {
		behind := order.Behind(head)
		if none := strings.Count(head, "\xff") == len(head); none != (behind == "") {
			t.Fatalf("Behind(%x) = %x", head, behind)
		}
		if behind == "" {
			continue
		}
		for _, x := range all {
			if strings.HasPrefix(x, head) && x >= behind {
				t.Fatalf("Behind(%x) = %x, but not behind %x", head, behind, x)
			}
			if x < behind && x > head+tail {
				t.Fatalf("Behind(%x) = %x, but %x is less, and behind, too", head, behind, x)
			}
		}
	}
}

// P2.2: all keys that begin with a head, and only those, are from that head on and ahead of Behind of it.
func TestBehindOfKeys(t *testing.T) {
	head := key(t, s("k"), n(255))
	behind := order.Behind(head)
	for _, parts := range [][]api.Part{
		{s("k"), n(255)}, {s("k"), n(255), n(0)}, {s("k"), n(255), n(api.MaxNumber)}, {s("k"), n(255), s("\xff\xff")},
	} {
		if k := key(t, parts...); k < head || k >= behind {
			t.Errorf("%v is not between %x and %x", parts, head, behind)
		}
	}
	for _, parts := range [][]api.Part{
		nil, {n(255)}, {s("k")}, {s("k"), n(254), s("\xff")}, {s("k"), n(256)}, {s("k"), s("")}, {s("k\x00"), n(255)}, {s("l"), n(255)},
	} {
		if k := key(t, parts...); k >= head && k < behind {
			t.Errorf("%v is between %x and %x", parts, head, behind)
		}
	}
}

// ascending are sequences in their order: each comes ahead of all behind it.
var ascending = [][]api.Part{
	nil,
	{n(0)},
	{n(0), n(0)},
	{n(0), n(0), n(0)},
	{n(0), n(1)},
	{n(0), s("")},
	{n(1)},
	{n(1), n(0)},
	{n(2)},
	{n(255)},
	{n(256)},
	{n(256), s("z")},
	{n(257)},
	{n(1 << 16)},
	{n(1 << 40)},
	{n(api.MaxNumber - 1)},
	{n(api.MaxNumber)},
	{n(api.MaxNumber), s("\xff")},
	{s("")},
	{s(""), n(0)},
	{s(""), n(api.MaxNumber)},
	{s(""), s("")},
	{s(""), s("\xff")},
	{s("\x00")},
	{s("\x00"), n(3)},
	{s("\x00"), s("")},
	{s("\x00\x00")},
	{s("\x00\x01")},
	{s("\x00\xff")},
	{s("\x01")},
	{s("\x02")},
	{s("a")},
	{s("a"), n(3)},
	{s("a"), n(3), s("b")},
	{s("a"), s("b")},
	{s("a\x00")},
	{s("a\x00b")},
	{s("aa")},
	{s("ab")},
	{s("ab"), n(0)},
	{s("b")},
	{s("\x7f")},
	{s("\x80")},
	{s("\xff")},
	{s("\xff\x00")},
	{s("\xff\xff")},
}

// P2.2, P2.3: Before is the order of the sequences, and the order of their keys.
func TestBefore(t *testing.T) {
	for i, a := range ascending {
		for j, b := range ascending {
			if got := order.Before(a, b); got != (i < j) {
				t.Errorf("Before(%v, %v) = %v", a, b, got)
			}
			if ka, kb := key(t, a...), key(t, b...); (ka < kb) != (i < j) {
				t.Errorf("the keys of %v and %v are %x and %x", a, b, ka, kb)
			}
		}
	}
	if order.Before(nil, []api.Part{}) || order.Before([]api.Part{}, nil) {
		t.Errorf("the empty sequence comes ahead of itself")
	}
}

// P2.2: Before takes numbers and strings that Key refuses.
func TestBeforeBeyondLimits(t *testing.T) {
	long := strings.Repeat("x", api.MaxText)
	rows := [][]api.Part{
		{n(math.MinInt)},
		{n(math.MinInt + 1)},
		{n(-1)},
		{n(0)},
		{n(api.MaxNumber + 1)},
		{n(math.MaxInt)},
		{s(long)},
		{s(long), n(-1)},
		{s(long + "\x00")},
		{s(long + "x")},
		slices.Repeat(list(s("y")), 1<<16),
		append(slices.Repeat(list(s("y")), 1<<16), n(-1)),
	}
	for i, a := range rows {
		for j, b := range rows {
			if got := order.Before(a, b); got != (i < j) {
				t.Errorf("Before of rows %d and %d = %v", i, j, got)
			}
		}
	}
}

// sequences are those of up to size of a few telling parts.
func sequences(size int) [][]api.Part {
	telling := list(n(0), n(1), n(255), n(256), n(api.MaxNumber), s(""), s("\x00"), s("\x00\xff"), s("\x01"), s("a"), s("a\x00"), s("\xff"))
	all := [][]api.Part{nil}
	for from := 0; size > 0; size-- {
		to := len(all)
		for _, head := range all[from:to] {
			for _, p := range telling {
				all = append(all, append(slices.Clone(head), p))
			}
		}
		from = to
	}
	return all
}

// P2.3: of all sequences of up to two telling parts, Before and the order of the keys say the same, and the keys split into the parts.
func TestOrderOfKeys(t *testing.T) {
	all := sequences(2)
	made := make([]string, len(all))
	for i, parts := range all {
		made[i] = key(t, parts...)
		if got, err := order.Split(made[i]); !slices.Equal(got, parts) || err != nil {
			t.Fatalf("Split(Key(%v)) = %v, %v", parts, got, err)
		}
	}
	for i, a := range all {
		for j, b := range all {
			if order.Before(a, b) != (made[i] < made[j]) || (i == j) != (made[i] == made[j]) {
				t.Fatalf("Before(%v, %v) = %v; the keys are %x, %x", a, b, order.Before(a, b), made[i], made[j])
			}
		}
	}
}

// rejoin checks P2.3 for arbitrary bytes: what splits makes the same key again; P1, P2: what does not ends with an error and no parts.
func rejoin(t *testing.T, k string) {
	t.Helper()
	parts, err := order.Split(k)
	switch {
	case err == nil:
		if again, err := order.Key(parts); again != k || err != nil {
			t.Fatalf("Key(Split(%x)) = %x, %v; the parts are %v", k, again, err, parts)
		}
		for _, p := range parts {
			if p.Text && p.N != 0 || !p.Text && p.S != "" {
				t.Fatalf("Split(%x) = %v", k, parts)
			}
		}
	case len(parts) != 0 || err != api.ErrForm && err != api.ErrShort && err != api.ErrLong:
		t.Fatalf("Split(%x) = %v, %v", k, parts, err)
	case (err == api.ErrLong) != (len(k) > api.MaxKey):
		t.Fatalf("Split of %d bytes: %v", len(k), err)
	}
}

// P2.3: all strings of up to 6 telling bytes, alone and behind a number, whose last bytes they may be.
func TestRejoin(t *testing.T) {
	for _, tail := range stringsOf("\x00\x01\x02\x03a\xff", 6) {
		rejoin(t, tail)
		rejoin(t, five+tail)
		rejoin(t, five[:4]+tail)
	}
}

// P2.1: a key that is cut off anywhere but between two parts is too short; one with a part behind it is a key still.
func TestCutOff(t *testing.T) {
	for _, parts := range sequences(2) {
		k := key(t, parts...)
		ends := map[int]int{}
		for i := range len(parts) + 1 {
			ends[len(key(t, parts[:i]...))] = i + 1
		}
		for size := range len(k) + 1 {
			got, err := order.Split(k[:size])
			many := ends[size] - 1
			if many < 0 && (err != api.ErrShort || len(got) != 0) || many >= 0 && (err != nil || !slices.Equal(got, parts[:many])) {
				t.Fatalf("Split(%x) = %v, %v", k[:size], got, err)
			}
		}
	}
}

// P2.3: whatever the fuzzer finds (without it, the seeds).
func FuzzRejoin(f *testing.F) {
	for _, c := range keys {
		f.Add(c.key)
	}
	f.Add("\x02a\x00\x05")
	f.Fuzz(rejoin)
}

// P2.2, P2.3: whatever the fuzzer finds for two sequences (without it, the seeds).
func FuzzOrder(f *testing.F) {
	f.Add("a", 1, "a\x00", 2, uint8(0))
	f.Add("", 0, "\x00", api.MaxNumber, uint8(7))
	f.Add("\x00\xff", 256, "\x00", 255, uint8(9))
	f.Fuzz(func(t *testing.T, x string, i int, y string, j int, kinds uint8) {
		a := list(api.Part{Text: kinds&1 != 0, N: i, S: x}, api.Part{Text: kinds&2 != 0, N: j, S: y})
		b := list(api.Part{Text: kinds&4 != 0, N: j, S: y}, api.Part{Text: kinds&8 != 0, N: i, S: x})
		if order.Before(a, a) || order.Before(a, b) && order.Before(b, a) {
			t.Fatalf("Before is no order for %v and %v", a, b)
		}
		ka, err := order.Key(a)
		if err != nil {
			return
		}
		kb, err := order.Key(b)
		if err == nil && order.Before(a, b) != (ka < kb) {
			t.Fatalf("Before(%v, %v) = %v; the keys are %x, %x", a, b, order.Before(a, b), ka, kb)
		}
		rejoin(t, ka)
		if behind := order.Behind(ka); behind <= ka || behind <= ka+"\xff\xff" {
			t.Fatalf("Behind(%x) = %x", ka, behind)
		}
	})
}

// P3: arguments are left alone, up to their capacity, and lists of two results share no memory.
func TestMemory(t *testing.T) {
	all := list(n(5), s("a\x00"), n(1), s("spare"))
	kept := slices.Clone(all)
	k := key(t, all[:3]...)
	order.Before(all[:3], all[:2])
	order.Before(all[:2], all[:3])
	if !slices.Equal(all, kept) {
		t.Errorf("an argument was changed: %v", all)
	}
	one, _ := order.Split(k)
	two, _ := order.Split(k)
	one = one[:cap(one)]
	for i := range one {
		one[i] = s("overwritten")
	}
	if !slices.Equal(two, kept[:3]) {
		t.Errorf("two results share memory: %v", two)
	}
	if again, err := order.Split(k); !slices.Equal(again, two) || err != nil {
		t.Errorf("the same call answered otherwise: %v, %v", again, err)
	}
}
