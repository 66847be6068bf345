package define_test

import (
	"errors"
	"math"
	"slices"
	"strings"
	"testing"
	"unicode/utf8"

	"palinode/api"
	"palinode/define"
	"palinode/pack"
)

// letters are 20 bytes that names may have, which is as many as they may have.
const letters = "a-b0z9-yx-87--qrstu5"

// step is a step.
func step(retry, timeout int) api.Step { return api.Step{Retry: retry, Timeout: timeout} }

// def is a definition.
func def(name string, steps ...api.Step) api.Def { return api.Def{Name: name, Steps: steps} }

// times is so many steps of an ordinary kind, no two of them the same.
func times(many int) []api.Step {
	var l []api.Step
	for i := range many {
		l = append(l, step(i%6, 1+i))
	}
	return l
}

// defs are definitions that are valid, and such as are not.
func defs() (good, bad []api.Def) {
	good = []api.Def{
		def("pay", step(2, 30)),
		def("a", step(0, 1)),
		def("-", step(5, 10000)),
		def("0", step(1, 255)),
		def("ship-9", step(2, 30), step(0, 5)),
		def("ship-9", step(0, 5), step(2, 30)),
		def("same", step(1, 1), step(1, 1), step(1, 1)),
		def(letters[:19], times(5)...),
		def(letters, times(6)...),
		def(letters, step(5, 10000), step(5, 9999), step(0, 256), step(4, 4096), step(5, 10000), step(3, 300)),
	}
	bad = []api.Def{
		{},
		def("pay"),
		def("", step(2, 30)),
		def("Pay", step(2, 30)),
		def(letters+"a", step(2, 30)),
		def("pay", times(7)...),
		def("pay", step(-1, 30)),
		def("pay", step(6, 30)),
		def("pay", step(2, 0)),
		def("pay", step(2, -1)),
		def("pay", step(2, 10001)),
		def("pay", step(30, 2), step(2, 30)),
	}
	return good, bad
}

// right checks what each call tells of a definition that is valid.
func right(t *testing.T, d api.Def) {
	t.Helper()
	if !define.Name(d.Name) || !define.Right(d) {
		t.Errorf("Name(%q), Right(%v) = %t, %t; want true, true", d.Name, d, define.Name(d.Name), define.Right(d))
	}
	if got, want := define.Tries(d), modelTries(d); got != want {
		t.Errorf("Tries(%v) = %d; want %d", d, got, want)
	}
	stands(t, d, bytesOf(d))
}

// wrong checks what each call tells of a definition that is not valid, and that the bytes that it would have are none.
func wrong(t *testing.T, d api.Def) {
	t.Helper()
	if define.Right(d) {
		t.Errorf("Right(%.300v) = true", d)
	}
	if got := define.Tries(d); got != 0 {
		t.Errorf("Tries(%.300v) = %d; want 0", d, got)
	}
	if b, err := define.Encode(d); b != "" || err != api.ErrArg || !errors.Is(err, api.ErrArg) {
		t.Errorf("Encode(%.300v) = %x, %v; want nothing, ErrArg", d, b, err)
	}
	no(t, bytesOf(d))
}

// stands checks that a definition has these bytes, and that they are read as it.
func stands(t *testing.T, d api.Def, want string) {
	t.Helper()
	if b, err := define.Encode(d); b != want || err != nil {
		t.Errorf("Encode(%v) = %x, %v; want %x", d, b, err, want)
	}
	if got, err := define.Decode(want); !same(got, d) || err != nil {
		t.Errorf("Decode(%x) = %v, %v; want %v", want, got, err, d)
	}
}

// no checks that bytes are not the encoding of a definition.
func no(t *testing.T, b string) {
	t.Helper()
	d, err := define.Decode(b)
	if d.Name != "" || len(d.Steps) > 0 || err != api.ErrForm || !errors.Is(err, api.ErrForm) {
		t.Errorf("Decode(%.200x) = %.200v, %v; want nothing, ErrForm", b, d, err)
	}
}

// names checks that a string is a name, and may name a definition.
func names(t *testing.T, s string) {
	t.Helper()
	if !define.Name(s) {
		t.Errorf("Name(%q) = false", s)
	}
	right(t, def(s, step(2, 30)))
}

// namesNot checks that a string is no name, and may not name a definition.
func namesNot(t *testing.T, s string) {
	t.Helper()
	if define.Name(s) {
		t.Errorf("Name(%.200q) = true", s)
	}
	wrong(t, def(s, step(2, 30)))
}

// P18.1: the chapter's examples.
func TestExamples(t *testing.T) {
	stands(t, def("pay", step(2, 30)), "\x01\x03\x70\x61\x79\x01\x01\x01\x02\x01\x1e")
	if define.Name("a_b") {
		t.Error("Name(a_b) = true")
	}
	if got := define.Tries(def("x", step(2, 30), step(0, 5))); got != 8 {
		t.Errorf("Tries = %d; want 8", got)
	}
}

// P18.1: definitions of ordinary kinds, and of such as are not valid.
func TestDefs(t *testing.T) {
	good, bad := defs()
	for _, d := range good {
		right(t, d)
	}
	for _, d := range bad {
		wrong(t, d)
	}
}

// P18.1: names of ordinary kinds.
func TestName(t *testing.T) {
	for _, s := range []string{"a", "z", "0", "9", "-", "a-9", "pay", "order-2026", "--", "007", "-a-", "abcdefghijklmnopqrst", "uvwxyz0123456789-", strings.Repeat("-", 20), letters} {
		names(t, s)
	}
	for _, s := range []string{"", "A", "a_b", "a b", " a", "a ", "a.b", "a/b", "a\n", "a\x00", "\x00", "Pay", "paY", "abcdefghijklmnopqrstu", "a–b", "é", "ａ", "１", "٣", "\xff", "a\x80"} {
		namesNot(t, s)
	}
}

// P18.1: each byte, alone and at each place of names of all lengths.
func TestNameBytes(t *testing.T) {
	fine := 0
	for c := range 256 {
		one := string([]byte{byte(c)})
		check := namesNot
		if strings.Contains("abcdefghijklmnopqrstuvwxyz0123456789-", one) {
			check = names
			fine++
		}
		for size := range 20 {
			for at := range size + 1 {
				check(t, letters[:at]+one+letters[at:size])
			}
		}
	}
	if fine != 37 {
		t.Errorf("the test has %d bytes of names; want 37", fine)
	}
}

// P18.1: runes of several bytes are no bytes of names, also those whose last eight bits are those of a letter.
func TestNameRunes(t *testing.T) {
	for r := range rune(1 << 13) {
		if r >= utf8.RuneSelf {
			namesNot(t, string(r))
		}
	}
	for c := range rune(128) {
		for _, high := range []rune{0x100, 0x200, 0xff00, 0x10000, 0x10ff00} {
			namesNot(t, "a"+string(high+c))
		}
	}
}

// P18.1: how long a name may be.
func TestNameLength(t *testing.T) {
	for n := 1; n <= 20; n++ {
		names(t, strings.Repeat("n", n))
	}
	namesNot(t, "")
	for n := 21; n <= 600; n++ {
		namesNot(t, strings.Repeat("n", n))
	}
	for _, n := range []int{1 << 16, 1<<16 + 1, 1<<20 - 1, 1 << 20, 1<<20 + 1, 1<<24 + 5} {
		namesNot(t, strings.Repeat("n", n))
	}
}

// P18.1: how many steps there may be.
func TestSteps(t *testing.T) {
	for n := 1; n <= 6; n++ {
		right(t, def("pay", times(n)...))
	}
	wrong(t, api.Def{Name: "pay", Steps: nil})
	wrong(t, api.Def{Name: "pay", Steps: []api.Step{}})
	wrong(t, api.Def{Name: "pay", Steps: times(6)[:0]})
	for _, n := range []int{7, 8, 9, 10, 12, 100, 255, 256, 257, 262, 1 << 16, 1<<16 + 1} {
		wrong(t, def("pay", times(n)...))
	}
}

// beyond are numbers far from those that a step may have.
var beyond = []int{math.MinInt, math.MinInt + 1, math.MinInt + 256, -1 << 53, -1 << 32, -1<<32 + 1, -256, -255, -2, -1, 1 << 16, 1<<16 + 1, 1 << 32, 1<<32 + 1, 1 << 48, api.MaxNumber, api.MaxNumber + 1, 1<<56 - 1, 1 << 56, math.MaxInt - 1, math.MaxInt}

// P18.1: the retries and timeouts that a step may have, at each place.
func TestStep(t *testing.T) {
	for many := 1; many <= 6; many++ {
		for at := range many {
			with := func(s api.Step) api.Def {
				l := times(many)
				l[at] = s
				return def("pay", l...)
			}
			for n := range 6 {
				right(t, with(step(n, 30)))
			}
			for _, n := range append(beyond, 6, 7, 8, 10, 100, 255, 256, 257, 261, 10000) {
				wrong(t, with(step(n, 30)))
			}
			for _, n := range []int{1, 2, 3, 5, 6, 127, 128, 255, 256, 257, 4096, 9998, 9999, 10000} {
				right(t, with(step(2, n)))
			}
			for _, n := range append(beyond, 0, 10001, 10002, 10016, 16384, 65535) {
				wrong(t, with(step(2, n)))
			}
		}
	}
}

// P18.1: definitions and their bytes.
func TestBytes(t *testing.T) {
	stands(t, def("a", step(0, 1)), "\x01\x01a\x01\x01\x00\x01\x01")
	stands(t, def("-", step(5, 10000)), "\x01\x01-\x01\x01\x01\x05\x02\x27\x10")
	stands(t, def("a-9", step(1, 255), step(0, 256)), "\x01\x03a-9\x01\x02\x01\x01\x01\xff\x00\x02\x01\x00")
	stands(t, def("abcdefghijklmnopqrst", step(5, 10000), step(4, 9999), step(3, 258), step(2, 3), step(1, 2), step(0, 1)),
		"\x01\x14abcdefghijklmnopqrst\x01\x06"+"\x01\x05\x02\x27\x10"+"\x01\x04\x02\x27\x0f"+"\x01\x03\x02\x01\x02"+"\x01\x02\x01\x03"+"\x01\x01\x01\x02"+"\x00\x01\x01")
}

// P18.1: the bytes are those that package pack writes for each part.
func TestBytesOfPack(t *testing.T) {
	good, _ := defs()
	for _, d := range good {
		want, err := pack.Text(d.Name)
		numbers := []int{len(d.Steps)}
		for _, s := range d.Steps {
			numbers = append(numbers, s.Retry, s.Timeout)
		}
		for _, n := range numbers {
			b, no := pack.Num(n)
			want, err = want+b, errors.Join(err, no)
		}
		if err != nil {
			t.Fatal(err)
		}
		stands(t, d, want)
	}
}

// P18.1: a text that is cut off, or has more behind its end, at each place of an encoding; two of them are none.
func TestDecodeEnds(t *testing.T) {
	good, _ := defs()
	for _, d := range good {
		b := bytesOf(d)
		for at := range b {
			no(t, b[:at])
			if at > 0 {
				no(t, b[at:])
			}
		}
		for _, more := range []string{"\x00", "\x01", "\x01\x01", "\x00\x01\x01", "\x08", "x", "\xff", b, strings.Repeat("\x00", 1000)} {
			no(t, b+more)
			no(t, more+b)
		}
	}
}

// P18.1: numbers that package pack would not write, and others that take the wrong place, at each place of an encoding.
func TestDecodeBad(t *testing.T) {
	parts := []string{"\x01\x03", "pay", "\x01\x02", "\x01\x02", "\x01\x1e", "\x01\x05", "\x02\x01\x00"}
	stands(t, def("pay", step(2, 30), step(5, 256)), strings.Join(parts, ""))
	for i, part := range parts {
		head, tail := strings.Join(parts[:i], ""), strings.Join(parts[i+1:], "")
		no(t, head)
		no(t, head+tail)
		for _, bad := range []string{"\x08", "\x09\x01", "\xff", "\x01\x00", "\x02\x00\x01", "\x02\x00" + part[1:], "\x08\x00\x00\x00\x00\x00\x00\x00\x01", "\x07\x20\x00\x00\x00\x00\x00\x00", "\x07\xff\xff\xff\xff\xff\xff\xff", "\x07\x1f\xff\xff\xff\xff\xff\xff", "\x05\x01\x00\x00\x00\x02", part + "\x00", part + part} {
			no(t, head+bad+tail)
		}
	}
}

// P18.1: how long a name is, and how many steps there are, must be what is there.
func TestDecodeMany(t *testing.T) {
	for many := range 10 {
		for said := range 260 {
			steps := strings.Repeat("\x01\x01\x01\x01", many)
			if b := "\x01\x01a" + num(said) + steps; said != many || many < 1 || many > 6 {
				no(t, b)
			} else {
				stands(t, def("a", slices.Repeat([]api.Step{step(1, 1)}, many)...), b)
			}
		}
	}
	for size := range 30 {
		for said := range 260 {
			name := strings.Repeat("n", size)
			if b := num(said) + name + "\x01\x01\x00\x01\x01"; said != size || size < 1 || size > 20 {
				no(t, b)
			} else {
				stands(t, def(name, step(0, 1)), b)
			}
		}
	}
}

// P18.1, P1: names and lists of steps that are said to be long must end soon, be they there or not.
func TestDecodeLong(t *testing.T) {
	for _, n := range []int{7, 256, 1 << 16, 1 << 20, 1<<20 + 1, 1 << 32, 1 << 40, api.MaxNumber} {
		for range 1000 {
			no(t, num(n))
			no(t, num(n)+"a\x01\x01\x00\x01\x01")
			no(t, "\x01\x01a"+num(n))
			no(t, "\x01\x01a"+num(n)+"\x00\x01\x01")
		}
	}
	for _, n := range []int{1 << 20, 1<<20 + 1, 1 << 22} {
		no(t, num(n)+strings.Repeat("n", n)+"\x01\x01\x00\x01\x01")
		no(t, "\x01\x01a"+num(n)+strings.Repeat("\x00\x01\x01", n))
		no(t, strings.Repeat("\x00", n))
		no(t, strings.Repeat("\x01", n))
	}
}

// P18.1: how many commands there may be, twice one and the retries of each step.
func TestTries(t *testing.T) {
	for _, c := range []struct {
		retries []int
		want    int
	}{
		{[]int{0}, 2}, {[]int{1}, 4}, {[]int{5}, 12}, {[]int{0, 0}, 4}, {[]int{2, 0}, 8}, {[]int{0, 2}, 8}, {[]int{0, 1, 2, 3, 4, 5}, 42}, {[]int{0, 0, 0, 0, 0, 0}, 12}, {[]int{5, 5, 5, 5, 5, 5}, 72},
	} {
		for _, timeout := range []int{1, 30, 10000} {
			d := def("x")
			for _, n := range c.retries {
				d.Steps = append(d.Steps, step(n, timeout))
			}
			if got := define.Tries(d); got != c.want {
				t.Errorf("Tries(%v) = %d; want %d", d, got, c.want)
			}
		}
	}
	// One that is not valid has none, even if all its steps or all else is so.
	for _, d := range []api.Def{{}, def("x"), def("", step(2, 30)), def("X", step(2, 30)), def("x", times(7)...), def("x", step(2, 30), step(2, 0)), def("x", step(2, 30), step(-1, 30)), def("x", step(2, 10001)), def("x", step(math.MaxInt, 1)), def("x", step(math.MaxInt/2, 1), step(math.MaxInt/2, 1))} {
		if got := define.Tries(d); got != 0 {
			t.Errorf("Tries(%v) = %d; want 0", d, got)
		}
	}
}

// P3: no call changes the steps of a definition, nor the memory behind them.
func TestArguments(t *testing.T) {
	whole := times(6)
	kept := slices.Clone(whole)
	for n := range 7 {
		d := api.Def{Name: "pay", Steps: whole[:n]}
		define.Right(d)
		define.Tries(d)
		define.Encode(d)
		if !slices.Equal(whole, kept) {
			t.Fatalf("the %d steps have become %v", n, whole)
		}
	}
}

// P3: the steps that Decode answers are new memory up to their capacity, whatever becomes of those of another answer.
func TestNewMemory(t *testing.T) {
	good, _ := defs()
	for _, d := range good {
		b := bytesOf(d)
		first, _ := define.Decode(b)
		second, _ := define.Decode(b)
		all := first.Steps[:cap(first.Steps)]
		for i := range all {
			all[i] = step(-7, -7)
		}
		_ = append(second.Steps[:0], first.Steps...)
		third, err := define.Decode(b)
		if !same(third, d) || err != nil {
			t.Errorf("Decode(%x) = %v, %v; want %v", b, third, err, d)
		}
		stands(t, d, b)
	}
}

// P3: what is written of a definition stays, whatever becomes of its steps.
func TestEncodeKept(t *testing.T) {
	steps := times(3)
	b, err := define.Encode(def("pay", steps...))
	want := bytesOf(def("pay", times(3)...))
	clear(steps)
	if b != want || err != nil {
		t.Errorf("Encode = %x, %v; want %x", b, err, want)
	}
}
