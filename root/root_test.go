package root_test

import (
	"math"
	"reflect"
	"slices"
	"strings"
	"testing"

	"palinode/api"
	"palinode/root"
)

// files is a list of files, written as the ID, the first sector and how many, three numbers a file.
func files(threes ...int) []api.File {
	var l []api.File
	for i := 0; i+2 < len(threes); i += 3 {
		l = append(l, api.File{ID: threes[i], At: threes[i+1], Many: threes[i+2]})
	}
	return l
}

// plain is a root of an ordinary kind: on a disk of 30 sectors it is valid.
func plain() api.Root {
	return api.Root{Seq: 7, Next: 10, Current: 4, Files: files(2, 24, 1, 4, 18, 5, 9, 25, 5)}
}

// many is a root of so many files of a sector each.
func many(n int) api.Root {
	r := api.Root{Seq: 1, Next: n + 1}
	for i := range n {
		r.Files = append(r.Files, api.File{ID: i + 1, At: root.First + i, Many: 1})
	}
	return r
}

// same tells whether two roots are the same, be an empty list nil or not.
func same(a, b api.Root) bool {
	return a.Seq == b.Seq && a.Next == b.Next && a.Current == b.Current && slices.Equal(a.Files, b.Files)
}

// stands checks that r is valid, that it has these bytes, and that they are read as r.
func stands(t *testing.T, total int, r api.Root, want string) {
	t.Helper()
	if !root.Right(total, r) {
		t.Errorf("Right(%d, %v) = false", total, r)
	}
	if b, err := root.Encode(total, r); b != want || err != nil {
		t.Errorf("Encode(%d, %v) = %x, %v; want %x", total, r, b, err, want)
	}
	if got, err := root.Decode(total, want); !same(got, r) || err != nil {
		t.Errorf("Decode(%d, %x) = %v, %v; want %v", total, want, got, err, r)
	}
}

// right checks that r is valid, and that its bytes, as the tests write them, are those of Encode.
func right(t *testing.T, total int, r api.Root) {
	t.Helper()
	stands(t, total, r, bytesOf(r))
}

// wrong checks that no call takes r, or the bytes that it would have.
func wrong(t *testing.T, total int, r api.Root) {
	t.Helper()
	if root.Right(total, r) {
		t.Errorf("Right(%d, %v) = true", total, r)
	}
	if b, err := root.Encode(total, r); b != "" || err != api.ErrArg {
		t.Errorf("Encode(%d, %v) = %x, %v; want ErrArg", total, r, b, err)
	}
	if len(r.Files) <= api.MaxFiles && encodable(r) {
		refuses(t, total, bytesOf(r), api.ErrArg)
	}
}

// refuses checks that Decode answers an error and nothing else.
func refuses(t *testing.T, total int, b string, want error) {
	t.Helper()
	if r, err := root.Decode(total, b); !reflect.DeepEqual(r, api.Root{}) || err != want {
		t.Errorf("Decode(%d, %x) = %v, %v; want %v", total, b, r, err, want)
	}
}

// changed is the ordinary root behind a change.
func changed(change func(r *api.Root)) api.Root {
	r := plain()
	change(&r)
	return r
}

// beyond are numbers that nothing in a root may be.
var beyond = []int{math.MinInt, math.MinInt + 1, -1 << 53, -1 << 32, -2, -1, api.MaxNumber + 1, 1<<56 - 1, 1 << 56, math.MaxInt - 1, math.MaxInt}

// P6.1: First is where the files begin.
func TestFirst(t *testing.T) {
	if root.First != 18 {
		t.Errorf("First = %d", root.First)
	}
}

// P6.1: roots and their bytes.
func TestBytes(t *testing.T) {
	stands(t, 30, api.Root{Seq: 1, Next: 2, Current: 1, Files: files(1, 18, 3)}, "\x01\x01\x01\x02\x01\x01\x01\x01\x01\x01\x01\x12\x01\x03")
	stands(t, 30, api.Root{Seq: 1, Next: 1}, "\x01\x01\x01\x01\x00\x00")
	stands(t, 30, api.Root{Seq: 1, Next: 1, Files: []api.File{}}, "\x01\x01\x01\x01\x00\x00")
	stands(t, 30, api.Root{Seq: 2, Next: 2}, "\x01\x02\x01\x02\x00\x00")
	stands(t, 30, api.Root{Seq: 3, Next: 2, Files: files(1, 18, 12)}, "\x01\x03\x01\x02\x00\x01\x01\x01\x01\x01\x12\x01\x0c")
	stands(t, 30, plain(), "\x01\x07\x01\x0a\x01\x04\x01\x03\x01\x02\x01\x18\x01\x01\x01\x04\x01\x12\x01\x05\x01\x09\x01\x19\x01\x05")
	stands(t, api.MaxSectors,
		api.Root{Seq: api.MaxNumber, Next: api.MaxNumber, Current: api.MaxNumber - 1, Files: files(256, 257, 3743, api.MaxNumber-1, 18, 239)},
		"\x07\x1f\xff\xff\xff\xff\xff\xff\x07\x1f\xff\xff\xff\xff\xff\xff\x07\x1f\xff\xff\xff\xff\xff\xfe\x01\x02"+
			"\x02\x01\x00\x02\x01\x01\x02\x0e\x9f"+"\x07\x1f\xff\xff\xff\xff\xff\xfe\x01\x12\x01\xef")
}

// P6.1: the longest root keeps within the 512 bytes.
func TestLongest(t *testing.T) {
	r := api.Root{Seq: api.MaxNumber, Next: api.MaxNumber, Current: api.MaxNumber - 1}
	for i := range api.MaxFiles {
		r.Files = append(r.Files, api.File{ID: api.MaxNumber - api.MaxFiles + i, At: 300 * (i%12 + 1), Many: 256})
		if i >= 12 { // twelve files of 256 sectors leave too little between them for such ones again
			r.Files[i].At, r.Files[i].Many = 300*(i%12+1)+256, 44
		}
	}
	right(t, api.MaxSectors, r)
	if b, _ := root.Encode(api.MaxSectors, r); len(b) != 26+12*14+12*13 {
		t.Errorf("%d bytes", len(b))
	}
}

// P6.1: Seq and Next are from 1 to MaxNumber.
func TestSeqAndNext(t *testing.T) {
	for _, n := range []int{1, 2, 255, 256, 1 << 32, 1<<53 - 2, api.MaxNumber} {
		right(t, 30, api.Root{Seq: n, Next: 1})
		right(t, 30, api.Root{Seq: 1, Next: n})
		right(t, 30, changed(func(r *api.Root) { r.Seq = n }))
	}
	for _, n := range append(beyond, 0) {
		wrong(t, 30, api.Root{Seq: n, Next: 1})
		wrong(t, 30, api.Root{Seq: 1, Next: n})
		wrong(t, 30, api.Root{Seq: n, Next: n})
		wrong(t, 30, changed(func(r *api.Root) { r.Seq = n }))
		wrong(t, 30, changed(func(r *api.Root) { r.Next = n }))
	}
}

// P6.1: the IDs ascend strictly, from 1 to Next - 1.
func TestIDs(t *testing.T) {
	with := func(next int, ids ...int) api.Root {
		r := api.Root{Seq: 1, Next: next}
		for i, id := range ids {
			r.Files = append(r.Files, api.File{ID: id, At: 19 + 2*i, Many: 2})
		}
		return r
	}
	for _, ids := range [][]int{{1}, {9}, {1, 2, 3, 4, 5}, {5, 9}, {1, 9}, {1, 5, 9}} {
		right(t, 30, with(10, ids...))
		wrong(t, 30, with(ids[len(ids)-1], ids...))
		right(t, 30, with(ids[len(ids)-1]+1, ids...))
		right(t, 30, with(api.MaxNumber, ids...))
	}
	right(t, 30, with(api.MaxNumber, 1, api.MaxNumber-1))
	wrong(t, 30, with(api.MaxNumber, 1, api.MaxNumber))
	for _, ids := range [][]int{
		{0}, {10}, {11}, {0, 1}, {9, 10}, {1, 1}, {1, 1, 2}, {1, 2, 2}, {2, 1}, {1, 3, 2}, {9, 8, 7}, {1, 2, 3, 1}, {5, 0}, {10, 1},
	} {
		wrong(t, 30, with(10, ids...))
	}
	for _, id := range beyond {
		wrong(t, 30, with(10, id))
		wrong(t, 30, with(10, 1, id))
		wrong(t, 30, with(10, id, 9))
		wrong(t, 30, with(id, id))
	}
	wrong(t, 30, with(1, 1))
	wrong(t, 30, with(1, 0))
}

// P6.1: Current is 0 or the ID of a file.
func TestCurrent(t *testing.T) {
	for _, id := range []int{0, 2, 4, 9} {
		right(t, 30, changed(func(r *api.Root) { r.Current = id }))
	}
	for _, id := range append(beyond, 1, 3, 5, 8, 10, 11, 18, 24, api.MaxNumber) {
		wrong(t, 30, changed(func(r *api.Root) { r.Current = id }))
		wrong(t, 30, api.Root{Seq: 1, Next: 10, Current: id})
		wrong(t, 30, api.Root{Seq: 1, Next: api.MaxNumber, Current: id})
	}
	wrong(t, 30, api.Root{Seq: 1, Next: 1, Current: 1})
}

// P6.1: there are at most MaxFiles files.
func TestManyFiles(t *testing.T) {
	for n := range api.MaxFiles + 1 {
		right(t, root.First+n, many(n))
		if n > 0 {
			wrong(t, root.First+n-1, many(n))
		}
	}
	for _, n := range []int{api.MaxFiles + 1, 200, 201, 256, 1000} {
		wrong(t, api.MaxSectors, many(n))
	}
	wrong(t, api.MaxSectors, api.Root{Seq: 1, Next: 2, Files: make([]api.File, 1<<20)})
}

// P6.1: the files lie on the disk, behind its first 18 sectors, apart from each other, in any order.
func TestRuns(t *testing.T) {
	one := func(at, many int) api.Root { return api.Root{Seq: 1, Next: 2, Files: files(1, at, many)} }
	two := func(at, many, at2, many2 int) api.Root {
		return api.Root{Seq: 1, Next: 9, Current: 3, Files: files(3, at, many, 8, at2, many2)}
	}
	for _, r := range []api.Root{one(18, 1), one(18, 12), one(29, 1), two(18, 6, 24, 6), two(24, 6, 18, 6), two(29, 1, 18, 1), two(18, 1, 19, 11)} {
		right(t, 30, r)
	}
	for _, r := range []api.Root{
		one(17, 1), one(17, 2), one(9, 3), one(1, 1), one(0, 1), one(0, 18), one(0, 30), one(18, 0), one(29, 0), one(30, 0), one(18, 13), one(29, 2), one(30, 1), one(31, 1),
		two(18, 6, 23, 1), two(23, 1, 18, 6), two(18, 1, 18, 1), two(18, 12, 20, 1), two(20, 1, 18, 12), two(18, 1, 17, 1), two(17, 1, 18, 1), two(18, 1, 19, 12),
		two(18, 1, 20, 0), two(20, 0, 18, 1), two(18, 5, 20, 0),
	} {
		wrong(t, 30, r)
	}
	right(t, api.MaxSectors, one(18, api.MaxSectors-18))
	right(t, api.MaxSectors, one(api.MaxSectors-1, 1))
	wrong(t, api.MaxSectors, one(18, api.MaxSectors-17))
	wrong(t, api.MaxSectors, one(api.MaxSectors, 1))
	for _, n := range append(beyond, api.MaxNumber, 1<<32+18, 1<<32) {
		wrong(t, 30, one(n, 1))
		wrong(t, 30, one(18, n))
		wrong(t, 30, one(n, n))
		wrong(t, 30, two(18, 1, n, 1))
		wrong(t, 30, two(n, 1, 18, 1))
		wrong(t, 30, two(18, 1, 20, n))
		for _, m := range beyond {
			wrong(t, 30, one(n, m))
			wrong(t, 30, two(18, 1, n, m))
		}
	}
}

// P6.1, P6: a disk has from 0 to MaxSectors sectors, be there files on it or not.
func TestTotal(t *testing.T) {
	none := api.Root{Seq: 1, Next: 1}
	for _, total := range []int{0, 1, 17, 18, 19, 30, api.MaxSectors - 1, api.MaxSectors} {
		right(t, total, none)
	}
	for _, total := range []int{math.MinInt, -api.MaxSectors, -1, api.MaxSectors + 1, 1 << 32, 1<<32 + 30, math.MaxInt} {
		wrong(t, total, none)
		wrong(t, total, plain())
		wrong(t, total, many(1))
	}
	for total := range 40 {
		if total < 30 {
			wrong(t, total, plain())
		} else {
			right(t, total, plain())
		}
	}
}

// badNumbers are bytes that begin with no number, and the errors that they have.
var badNumbers = []struct {
	b    string
	want error
}{
	{"\x08", api.ErrForm},
	{"\xff\x01", api.ErrForm},
	{"\x01\x00", api.ErrForm},
	{"\x02\x00\x05", api.ErrForm},
	{"\x07\x20\x00\x00\x00\x00\x00\x00", api.ErrForm},
	{"\x07\xff\xff\xff\xff\xff\xff\xff", api.ErrForm},
	{"", api.ErrShort},
	{"\x01", api.ErrShort},
	{"\x02\x00", api.ErrShort},
	{"\x07\x01\x02\x03\x04\x05\x06", api.ErrShort},
}

// P6.1: Decode tells the error of the first number that is none, whatever the numbers ahead of it are, and whatever is behind.
func TestDecodeBadNumbers(t *testing.T) {
	for _, l := range [][]int{
		numbersOf(plain()),
		{0, 0, 77, 3, 0, 0, 0, 0, 0, 0, 0, 0, 0},
		{1, 1, 0, 24, 5, 5, 5, 4, 4, 4},
	} {
		for at := range l {
			for _, c := range badNumbers {
				refuses(t, 30, join(l[:at])+c.b, c.want)
				if c.want == api.ErrForm {
					for _, behind := range []string{"\x00", "\x01", "\x08", "\x01\x05\x01\x05", strings.Repeat("\x08", 400)} {
						refuses(t, 30, join(l[:at])+c.b+behind, c.want)
					}
				}
			}
		}
	}
}

// P6.1: Decode needs all of a root's bytes.
func TestDecodeShort(t *testing.T) {
	for _, r := range []api.Root{plain(), many(api.MaxFiles), {Seq: api.MaxNumber, Next: api.MaxNumber}} {
		b := bytesOf(r)
		for cut := range b {
			refuses(t, api.MaxSectors, b[:cut], api.ErrShort)
			refuses(t, -1, b[:cut], api.ErrShort)
		}
	}
}

// P6.1: Decode takes nothing behind a root, be the root valid or not.
func TestDecodeLeftOver(t *testing.T) {
	for _, r := range []api.Root{plain(), many(api.MaxFiles), {Seq: 1, Next: 1}, {}, {Seq: 1, Next: 1, Current: 1}, {Seq: 1, Next: 2, Files: files(1, 17, 1)}} {
		for _, behind := range []string{"\x00", "x", "\x08", "\x01", "\x01\x01\x01\x12\x01\x01", bytesOf(r)} {
			for _, total := range []int{-1, 0, 30, api.MaxSectors} {
				refuses(t, total, bytesOf(r)+behind, api.ErrForm)
			}
		}
	}
}

// P6.1: too many files are told as soon as their number is read, ahead of everything behind it.
func TestDecodeManyFiles(t *testing.T) {
	for _, n := range []int{api.MaxFiles + 1, 26, 31, 200, 255, 256, 1 << 32, 1<<32 + 1, 1 << 48, api.MaxNumber} {
		for _, front := range [][]int{{1, 2, 0}, {0, 0, 99}, {api.MaxNumber, api.MaxNumber, 1}} {
			for _, behind := range []string{"", "\x00", "\x01", "\x08", "\x01\x01\x01\x12\x01\x01", strings.Repeat("\x00", 3*n%400)} {
				refuses(t, 30, join(append(front, n))+behind, api.ErrLong)
			}
		}
		refuses(t, -1, join([]int{1, 2, 0, n}), api.ErrLong)
	}
	refuses(t, 30, join(numbersOf(many(25))), api.ErrLong)
	refuses(t, api.MaxSectors, join([]int{1, 2, 0, api.MaxFiles}), api.ErrShort)
	refuses(t, api.MaxSectors, join([]int{1, 2, 0, api.MaxFiles})+"\x08", api.ErrForm)
}

// P6.1: more than 512 bytes are told ahead of everything.
func TestDecodeLong(t *testing.T) {
	for _, front := range []string{"", "\x00", "\x08", "\x01\x00", bytesOf(plain()), bytesOf(many(api.MaxFiles)), join([]int{1, 1, 0, 25})} {
		for _, size := range []int{513, 514, 1024, 1 << 20} {
			for _, fill := range []string{"\x00", "\x08"} {
				refuses(t, 30, front+strings.Repeat(fill, size-len(front)), api.ErrLong)
				refuses(t, -1, front+strings.Repeat(fill, size-len(front)), api.ErrLong)
			}
		}
	}
	for _, size := range []int{500, 511, 512} {
		refuses(t, 30, bytesOf(plain())+strings.Repeat("\x00", size-len(bytesOf(plain()))), api.ErrForm)
		refuses(t, 30, strings.Repeat("\x00", size), api.ErrForm)
		refuses(t, 30, strings.Repeat("\x08", size), api.ErrForm)
		// Twenty-four files have numbers of 8 bytes, so that the last byte of 512 is still one of them.
		l := append([]int{1, 1, 0, api.MaxFiles}, slices.Repeat([]int{api.MaxNumber}, 3*api.MaxFiles)...)
		refuses(t, 30, join(l)[:size], api.ErrShort)
	}
}

// P3: arguments are left alone, up to their capacity, and a root that was decoded keeps none of them.
func TestMemory(t *testing.T) {
	whole := slices.Concat(plain().Files, files(8, 30, 1, 5, 17, 0))
	before := slices.Clone(whole)
	for n := range len(whole) + 1 {
		r := plain()
		r.Files = whole[:n]
		root.Right(30, r)
		root.Encode(30, r)
		if !slices.Equal(whole, before) {
			t.Fatalf("%v became %v", before, whole)
		}
	}
	b := bytesOf(plain())
	one, _ := root.Decode(30, b)
	two, err := root.Decode(30, b)
	overwritten := one.Files[:cap(one.Files)]
	for i := range overwritten {
		overwritten[i] = api.File{ID: -7}
	}
	if !same(two, plain()) || err != nil {
		t.Errorf("two results share memory: %v, %v", two, err)
	}
	stands(t, 30, plain(), b)
}
