package root_test

import (
	"math/rand"
	"testing"

	"palinode/api"
)

// numbersOf is the numbers of a root as the chapter lists them.
func numbersOf(r api.Root) []int {
	l := []int{r.Seq, r.Next, r.Current, len(r.Files)}
	for _, f := range r.Files {
		l = append(l, f.ID, f.At, f.Many)
	}
	return l
}

// join is numbers as bytes, one behind the other, as chapter 1 writes them.
func join(l []int) string {
	var b []byte
	for _, n := range l {
		var digits []byte
		for ; n > 0; n /= 256 {
			digits = append([]byte{byte(n % 256)}, digits...)
		}
		b = append(append(b, byte(len(digits))), digits...)
	}
	return string(b)
}

// bytesOf is the bytes of a root, be it valid or not.
func bytesOf(r api.Root) string { return join(numbersOf(r)) }

// encodable tells whether all numbers of a root are some that have bytes.
func encodable(r api.Root) bool {
	for _, n := range numbersOf(r) {
		if n < 0 || n > 1<<53-1 {
			return false
		}
	}
	return true
}

// valid is what the chapter's words say of a root, sector by sector.
func valid(total int, r api.Root) bool {
	if total < 0 || total > 4000 || !encodable(r) || r.Seq == 0 || r.Next == 0 || len(r.Files) > 24 {
		return false
	}
	ids, sectors := map[int]int{}, map[int]int{}
	for i, f := range r.Files {
		if f.ID < 1 || f.ID > r.Next-1 || i > 0 && r.Files[i-1].ID >= f.ID {
			return false
		}
		ids[f.ID]++
		if f.At < 18 || f.Many < 1 || f.Many > 4000 {
			return false
		}
		for at := f.At; at < f.At+f.Many; at++ {
			sectors[at]++
			if at >= total || sectors[at] > 1 {
				return false
			}
		}
	}
	return r.Current == 0 || ids[r.Current] == 1
}

// agrees holds what the calls answer to a root against the model (P6.1, P6.3).
func agrees(t *testing.T, total int, r api.Root) {
	t.Helper()
	if valid(total, r) {
		right(t, total, r)
	} else {
		wrong(t, total, r)
	}
}

// P6.1, P6.3: all roots of up to two files out of a few small numbers.
func TestEverySmall(t *testing.T) {
	var all []api.File
	for id := range 4 {
		for at := 17; at <= 20; at++ {
			for many := range 4 {
				all = append(all, api.File{ID: id, At: at, Many: many})
			}
		}
	}
	each := func(total int, l ...api.File) {
		for next := range 5 {
			for current := range 4 {
				agrees(t, total, api.Root{Seq: 1, Next: next, Current: current, Files: l})
			}
		}
	}
	for total := 19; total <= 21; total++ {
		each(total)
		for _, a := range all {
			each(total, a)
			for _, b := range all {
				each(total, a, b)
			}
		}
	}
}

// arrange is a disk and a root from bytes: one that is valid, then changed at one place or none.
func arrange(b []byte) (int, api.Root) {
	next := func() int {
		if len(b) == 0 {
			return 0
		}
		n := int(b[0])
		b = b[1:]
		return n
	}
	change, place, total := next(), next(), 18+next()
	r := api.Root{Seq: next() + 1}
	id, at := 0, 18
	for len(b) > 0 {
		id += next()%3 + 1
		at += next() % 3
		f := api.File{ID: id, At: at, Many: next()%20 + 1}
		at += f.Many
		r.Files = append(r.Files, f)
	}
	r.Next = id + 1
	if len(r.Files) > 0 {
		f := &r.Files[place%len(r.Files)]
		r.Current = f.ID
		alter(&r, f, change)
	}
	return total + at, r
}

// alter changes one thing of a root, or of one of its files, or none.
func alter(r *api.Root, f *api.File, change int) {
	switch change {
	case 1:
		f.ID--
	case 2:
		f.ID++
	case 3:
		f.At--
	case 4:
		f.Many++
	case 5:
		f.Many = 0
	case 6:
		r.Current++
	case 7:
		r.Next--
	case 8:
		r.Current = 0
	case 9:
		f.At, r.Files[0].At = r.Files[0].At, f.At
	}
}

// P6.1, P6.3: many roots, those that are a little wrong, too, the same ones each time.
func TestArranged(t *testing.T) {
	source := rand.New(rand.NewSource(6))
	right := 0
	for range 20000 {
		b := make([]byte, 4+source.Intn(80))
		source.Read(b)
		b[0] %= 12
		total, r := arrange(b)
		if valid(total, r) {
			right++
		}
		agrees(t, total, r)
	}
	if right < 5000 || right > 15000 {
		t.Errorf("of 20000 roots %d are valid: too few of a kind", right)
	}
}

// P6.1, P6.3: whatever root the fuzzer makes (without it, the seeds).
func FuzzRoot(f *testing.F) {
	for change := range byte(10) {
		f.Add([]byte{change, 1, 5, 3, 0, 0, 2, 1, 0, 4, 0, 2, 1})
	}
	f.Fuzz(func(t *testing.T, b []byte) {
		total, r := arrange(b)
		agrees(t, total, r)
	})
}

// readNumber is the number that b begins with, as chapter 1 reads it.
func readNumber(b string) (n int, rest string, err error) {
	switch {
	case b == "":
		return 0, "", api.ErrShort
	case b[0] > 7:
		return 0, "", api.ErrForm
	case len(b)-1 < int(b[0]):
		return 0, "", api.ErrShort
	case b[0] == 0:
		return 0, b[1:], nil
	case b[1] == 0 || b[0] == 7 && b[1] > 0x1f:
		return 0, "", api.ErrForm
	}
	for _, digit := range []byte(b[1 : 1+b[0]]) {
		n = n*256 + int(digit)
	}
	return n, b[1+b[0]:], nil
}

// decode is what the chapter's words say of bytes: the root that they are, or the error.
func decode(total int, b string) (api.Root, error) {
	if len(b) > 512 {
		return api.Root{}, api.ErrLong
	}
	l := make([]int, 4, 4+3*24)
	for i := 0; i < len(l); i++ {
		n, rest, err := readNumber(b)
		if err != nil {
			return api.Root{}, err
		}
		l[i], b = n, rest
		if i == 3 && n > 24 {
			return api.Root{}, api.ErrLong
		} else if i == 3 {
			l = l[:4+3*n]
		}
	}
	if b != "" {
		return api.Root{}, api.ErrForm
	}
	r := api.Root{Seq: l[0], Next: l[1], Current: l[2], Files: files(l[4:]...)}
	if !valid(total, r) {
		return api.Root{}, api.ErrArg
	}
	return r, nil
}

// decodes holds what Decode answers against the model (P6.1), and checks that a root is written as the bytes that it was read from (P6.3).
func decodes(t *testing.T, total int, b string) {
	t.Helper()
	r, err := decode(total, b)
	if err != nil {
		refuses(t, total, b, err)
		return
	}
	stands(t, total, r, b)
}

// P6.1, P6.3: the bytes of roots, with each byte changed to each other one, left out, or doubled.
func TestEveryByte(t *testing.T) {
	for _, r := range []api.Root{plain(), {Seq: 300, Next: 2}, {Seq: api.MaxNumber, Next: 1 << 32, Current: 1 << 24, Files: files(256, 18, 256, 1<<24, 300, 3000)}} {
		for _, total := range []int{30, 4000} {
			b := bytesOf(r)
			for at := range b {
				for i := range 256 {
					decodes(t, total, b[:at]+string([]byte{byte(i)})+b[at+1:])
				}
				decodes(t, total, b[:at]+b[at+1:])
				decodes(t, total, b[:at]+b[at:at+1]+b[at:])
			}
		}
	}
}

// P6.1, P6.3: whatever bytes the fuzzer finds (without it, the seeds).
func FuzzDecode(f *testing.F) {
	for _, b := range []string{"", bytesOf(plain()), bytesOf(plain()) + "x", bytesOf(plain())[:7], bytesOf(many(24)), bytesOf(many(25)), "\x01\x01\x01\x02\x00\x01\x19"} {
		f.Add(30, b)
		f.Add(50, b)
	}
	f.Fuzz(decodes)
}
