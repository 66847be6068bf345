package define_test

import (
	"math"
	"slices"
	"strings"
	"testing"

	"palinode/api"
	"palinode/define"
)

// named is what the chapter's words say of a name.
func named(s string) bool {
	for i := range len(s) {
		if !strings.Contains("abcdefghijklmnopqrstuvwxyz0123456789-", s[i:i+1]) {
			return false
		}
	}
	return len(s) >= 1 && len(s) <= 20
}

// valid is what the chapter's words say of a definition.
func valid(d api.Def) bool {
	for _, s := range d.Steps {
		if s.Retry < 0 || s.Retry > 5 || s.Timeout < 1 || s.Timeout > 10000 {
			return false
		}
	}
	return named(d.Name) && len(d.Steps) >= 1 && len(d.Steps) <= 6
}

// modelTries is how many commands there may be, counted one by one, of a definition that is valid.
func modelTries(d api.Def) int {
	n := 0
	for range 2 {
		for _, s := range d.Steps {
			for range s.Retry {
				n++
			}
			n++
		}
	}
	return n
}

// num is a number as bytes, as chapter 1 writes it; one below 0 has eight digits, which no number has.
func num(n int) string {
	var digits []byte
	for u := uint64(n); u > 0; u /= 256 {
		digits = append([]byte{byte(u % 256)}, digits...)
	}
	return string([]byte{byte(len(digits))}) + string(digits)
}

// bytesOf is the bytes of a definition, be it valid or not.
func bytesOf(d api.Def) string {
	parts := []string{num(len(d.Name)), d.Name, num(len(d.Steps))}
	for _, s := range d.Steps {
		parts = append(parts, num(s.Retry), num(s.Timeout))
	}
	return strings.Join(parts, "")
}

// bytesIn takes numbers from the front of bytes, as chapter 1 reads them.
type bytesIn struct {
	b   string
	bad bool
}

func (in *bytesIn) take(n int) string {
	if n > len(in.b) {
		in.bad = true
		return ""
	}
	s := in.b[:n]
	in.b = in.b[n:]
	return s
}

func (in *bytesIn) num() int {
	size := in.take(1)
	if in.bad || size[0] > 7 {
		in.bad = true
		return 0
	}
	digits := in.take(int(size[0]))
	n := 0
	for _, digit := range []byte(digits) {
		n = n*256 + int(digit)
	}
	if digits != "" && digits[0] == 0 || n > 1<<53-1 {
		in.bad = true
		return 0
	}
	return n
}

// modelDecode is the definition that bytes are, and whether they are one.
func modelDecode(b string) (api.Def, bool) {
	in := &bytesIn{b: b}
	var d api.Def
	d.Name = in.take(in.num())
	for many := in.num(); many > 0 && !in.bad; many-- {
		retry := in.num()
		d.Steps = append(d.Steps, api.Step{Retry: retry, Timeout: in.num()})
	}
	if in.bad || in.b != "" || !valid(d) {
		return api.Def{}, false
	}
	return d, true
}

// same tells whether two definitions are the same, be an empty list nil or not.
func same(a, b api.Def) bool { return a.Name == b.Name && slices.Equal(a.Steps, b.Steps) }

// agrees holds what the calls tell of a definition against the model, and tells whether it is valid.
func agrees(t *testing.T, d api.Def) bool {
	t.Helper()
	ok := valid(d)
	if got, want := define.Name(d.Name), named(d.Name); got != want {
		t.Fatalf("Name(%.100q) = %t; want %t", d.Name, got, want)
	}
	if got := define.Right(d); got != ok {
		t.Fatalf("Right(%.200v) = %t; want %t", d, got, ok)
	}
	var tries int
	var b string
	var no error = api.ErrArg
	if ok {
		tries, b, no = modelTries(d), bytesOf(d), nil
	}
	if got := define.Tries(d); got != tries {
		t.Fatalf("Tries(%.200v) = %d; want %d", d, got, tries)
	}
	if got, err := define.Encode(d); got != b || err != no {
		t.Fatalf("Encode(%.200v) = %x, %v; want %x, %v", d, got, err, b, no)
	}
	// What an invalid definition would be written as is no encoding either.
	decodes(t, bytesOf(d))
	return ok
}

// decodes holds the definition of some bytes against the model, checks that it is written as these bytes, and tells whether they are one.
func decodes(t *testing.T, b string) bool {
	t.Helper()
	want, ok := modelDecode(b)
	var no error
	if !ok {
		no = api.ErrForm
	}
	d, err := define.Decode(b)
	if !same(d, want) || err != no {
		t.Fatalf("Decode(%.200x) = %.200v, %v; want %v, %v", b, d, err, want, no)
	}
	if again, err := define.Encode(d); ok && (again != b || err != nil) {
		t.Fatalf("Encode(%v) = %x, %v; want %x", d, again, err, b)
	}
	return ok
}

// P18.1: all names of up to three bytes out of those at the ends of what a name may have, and beside them.
func TestEverySmallName(t *testing.T) {
	bytes := []byte("az09-`{/:,.AZ_ \x00\x7f\x80\xff")
	names := []string{""}
	for i := 0; i < len(names); i++ {
		agrees(t, api.Def{Name: names[i], Steps: []api.Step{{Retry: 1, Timeout: 1}}})
		for _, c := range bytes {
			if len(names[i]) < 3 {
				names = append(names, names[i]+string([]byte{c}))
			}
		}
	}
}

// P18.1: all definitions with up to four steps out of a few, of which some are valid, and more steps of these that are the same.
func TestEveryFewSteps(t *testing.T) {
	var all []api.Step
	for _, retry := range []int{-1, 0, 5, 6} {
		for _, timeout := range []int{0, 1, 10000, 10001} {
			all = append(all, api.Step{Retry: retry, Timeout: timeout})
		}
	}
	right := 0
	lists := [][]api.Step{nil}
	for i := 0; i < len(lists); i++ {
		l := lists[i]
		for _, d := range []api.Def{{Name: "a", Steps: l}, {Name: "a-9", Steps: slices.Concat(l, l)}, {Name: "A", Steps: l}} {
			if agrees(t, d) {
				right++
			}
		}
		for _, s := range all {
			if len(l) < 4 {
				lists = append(lists, append(slices.Clip(l), s))
			}
		}
	}
	// Of the four steps that are valid there are so many lists of 1 to 4, and of 1 to 3 twice.
	if want := 4 + 16 + 64 + 256 + 4 + 16 + 64; right != want {
		t.Errorf("%d definitions are valid; want %d", right, want)
	}
}

// P18.1: all definitions with the six numbers of retries.
func TestEveryRetry(t *testing.T) {
	d := api.Def{Name: "x", Steps: make([]api.Step, 6)}
	for n := range 6 * 6 * 6 * 6 * 6 * 6 {
		for i := range d.Steps {
			d.Steps[i] = api.Step{Retry: n % 6, Timeout: 1 + i*1999}
			n /= 6
		}
		if !agrees(t, d) {
			t.Fatalf("the test's %v is not valid", d)
		}
	}
}

// P18.1: all timeouts, and many beyond.
func TestEveryTimeout(t *testing.T) {
	right := 0
	for n := -300; n < 1<<17; n++ {
		if agrees(t, api.Def{Name: "x", Steps: []api.Step{{Timeout: n}}}) {
			right++
		}
	}
	if right != 10000 {
		t.Errorf("%d timeouts are valid; want 10000", right)
	}
}

// P18.1: all texts of up to nine bytes out of those that the shortest encodings have, and one more.
func TestEveryShortText(t *testing.T) {
	found := 0
	var extend func(b []byte)
	extend = func(b []byte) {
		if decodes(t, string(b)) {
			found++
		}
		for _, c := range []byte{0, 1, 2, 'a'} {
			if len(b) < 9 {
				extend(append(b, c))
			}
		}
	}
	extend(make([]byte, 0, 9))
	// All of them have one step. With the name a and the retry 0 its timeout is one of 3 of one byte, or one of 8 of two; the retries 1 and 2, and the name aa, leave room for those of one byte only.
	if want := 3 + 8 + 2*3 + 3; found != want {
		t.Errorf("%d texts are encodings; want %d", found, want)
	}
}

// P18.1: each byte of some encodings becomes each other one, goes, or has another one ahead of it.
func TestEveryByteChanged(t *testing.T) {
	good, _ := defs()
	for _, d := range good {
		b := bytesOf(d)
		if !decodes(t, b) {
			t.Fatalf("the test's %v is not valid", d)
		}
		for at := range len(b) + 1 {
			for c := range 256 {
				one := string([]byte{byte(c)})
				decodes(t, b[:at]+one+b[at:])
				if at < len(b) {
					decodes(t, b[:at]+one+b[at+1:])
				}
			}
			decodes(t, b[:at])
			decodes(t, b[at:])
			decodes(t, b[:at]+b[min(at+1, len(b)):])
		}
	}
}

// script is bytes that say what a definition is; behind its end it says zeros.
type script struct{ b []byte }

func (s *script) next() int {
	if len(s.b) == 0 {
		return 0
	}
	c := s.b[0]
	s.b = s.b[1:]
	return int(c)
}

// number is mostly one from least to most, else one at the limits or beyond.
func (s *script) number(least, most int) int {
	if c := s.next(); c < 230 {
		return least + (c*256+s.next())%(most-least+1)
	}
	l := []int{least - 1, most + 1, least, most, -1, math.MinInt, math.MaxInt, 1 << 32, 256, api.MaxNumber, api.MaxNumber + 1}
	return l[s.next()%len(l)]
}

// name is mostly one that is valid.
func (s *script) name() string {
	var b []byte
	for range s.next() % 23 {
		c := s.next()
		switch {
		case c < 200:
			b = append(b, "abcdefghijklmnopqrstuvwxyz0123456789-"[c%37])
		case c < 202:
			b = append(b, byte(s.next()))
		default:
			b = append(b, '-')
		}
	}
	return string(b)
}

// def is a definition.
func (s *script) def() api.Def {
	d := api.Def{Name: s.name()}
	for range s.next() % 8 {
		retry := s.number(0, 5)
		d.Steps = append(d.Steps, api.Step{Retry: retry, Timeout: s.number(1, 10000)})
	}
	return d
}

// FuzzDef looks for definitions that are told or written otherwise than the chapter's words say, or do not come back (P18.1).
func FuzzDef(f *testing.F) {
	f.Add([]byte{})
	f.Add([]byte("\x03pay\x01\x00\x02\x00\x1d"))
	f.Add([]byte("\x04pay-\x06\x00\x00\x00\x00\x00\x01\x01\x00\x00\x02\x02\x00\x00\x03\xff\x00\x00\x04\xff\x01\xff\x05\xff\x06"))
	f.Add([]byte("\x16abcdefghijklmnopqrstuv\x07"))
	f.Add([]byte("\x02\xc8A\xc9\xe1\x02\xff\x05\xff\x06\xff\x07\xff\x08"))
	f.Fuzz(func(t *testing.T, b []byte) { agrees(t, (&script{b}).def()) })
}

// FuzzDecode looks for bytes that are read as a definition that they are not, or refused as one that they are (P18.1).
func FuzzDecode(f *testing.F) {
	good, bad := defs()
	for _, d := range slices.Concat(good, bad) {
		f.Add([]byte(bytesOf(d)))
	}
	f.Fuzz(func(t *testing.T, b []byte) { decodes(t, string(b)) })
}
