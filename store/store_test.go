package store_test

import (
	"errors"
	"math"
	"slices"
	"strconv"
	"strings"
	"testing"

	"palinode/api"
	"palinode/disk"
	"palinode/store"
	"palinode/volume"
)

// The examples of the chapter.
func TestExamples(t *testing.T) {
	s, err := store.Format(newDisk(t, 1500))
	fine(t, "Format", err)
	for i, l := range [][]api.Change{{{Key: "a", Value: "1"}}, {{Key: "a", Value: "2"}, {Key: "b", Value: "3"}}} {
		if n, err := s.Write(l); n != i+1 || err != nil {
			t.Fatalf("Write = %d, %v", n, err)
		}
	}
	for seq, want := range map[int]string{1: "1", 9: "2"} {
		if v, ok, err := s.Get("a", seq); v != want || !ok || err != nil {
			t.Errorf("Get(a, %d) = %q, %t, %v", seq, v, ok, err)
		}
	}
	n, err := s.Write(nil)
	refuses(t, "Write of no changes", err, api.ErrArg)
	s.Want()
	steps := 0
	for more := true; more; steps++ {
		more, err = s.Step()
		fine(t, "Step", err)
	}
	l, err := s.Scan("", "", 9, 9)
	if n != 0 || steps < 2 || err != nil || !slices.Equal(l, []api.Entry{{Key: "a", Seq: 2, Value: "2"}, {Key: "b", Seq: 2, Value: "3"}}) {
		t.Errorf("%d; %d steps; Scan = %v, %v", n, steps, l, err)
	}
}

// P17.1: what Format leaves on a disk, be it new, or with a store or anything else on it.
func TestFormat(t *testing.T) {
	used := born(t, 400)
	for i := range 60 {
		used.put("v", strconv.Itoa(i))
		used.settle()
	}
	junk := newDisk(t, 158)
	for sector := range 158 {
		fine(t, "Write to the disk", junk.Write(sector, strings.Repeat("x", 64)))
	}
	for _, d := range []*disk.Disk{newDisk(t, 158), newDisk(t, 159), newDisk(t, 4000), used.d, junk} {
		s, err := store.Format(d)
		fine(t, "Format", err)
		p := &life{t, d, s, newModel()}
		for range 2 {
			p.check()
			clean(t, d, s)
			if v := s.Version(); len(v.Tables) != 0 || len(v.Logs) != 1 || v.Seq != 0 {
				t.Fatalf("Version() = %v", v)
			}
			if p.step() {
				t.Fatal("a new store has something to do")
			}
			d.Crash(nil, -1, 0)
			s, err = store.Open(d)
			fine(t, "Open", err)
			p.s = s
		}
		p.put("1", "a")
		p.check()
		p.reopen()
		p.check()
	}
}

// P17.1, P2: a disk with too few sectors is refused, and stays as it is.
func TestFormatRefuses(t *testing.T) {
	for size, code := range map[int]api.Errno{1: api.ErrArg, 17: api.ErrArg, 18: api.ErrFull, 98: api.ErrFull, 157: api.ErrFull} {
		d := newDisk(t, size)
		if size >= 18 {
			v, err := volume.Format(d)
			fine(t, "Format of the volume", err)
			if size > 18 {
				_, err = v.Make(size - 18)
				fine(t, "Make", err)
			}
		}
		was, writes := all(t, d), d.Writes()
		s, err := store.Format(d)
		fault(t, "Format", err, code)
		if s != nil || d.Writes() != writes || !slices.Equal(all(t, d), was) {
			t.Errorf("Format of %d sectors: %v, %d writes", size, s, d.Writes()-writes)
		}
	}
}

// P17.1: Format without power, from any write on.
func TestFormatWithoutPower(t *testing.T) {
	for fuse := range 200 {
		d := newDisk(t, 200)
		d.Fuse(fuse)
		s, err := store.Format(d)
		if err == nil {
			if fuse < 140 {
				t.Fatalf("Format with %d writes", fuse)
			}
			return
		}
		down(t, "Format", err)
		if s != nil {
			t.Fatalf("Format: %v, %v", s, err)
		}
		d.Crash([]int{1, 1, 1, 1}, fuse%5, fuse%64)
		// What is there is no store yet, or a complete one.
		if s, err = store.Open(d); err == nil {
			p := &life{t, d, s, newModel()}
			p.check()
		} else if s != nil || !errors.Is(err, api.ErrNone) && !errors.Is(err, api.ErrForm) {
			t.Fatalf("Open: %v, %v", s, err)
		}
	}
	t.Fatal("Format makes more than 200 writes")
}

// rightBatches are batches that may be written.
var rightBatches = [][]api.Change{
	{{Key: "a"}},
	{{Key: "\x00"}, {Key: "\x00\x00", Value: "\x00"}, {Key: "\xff", Drop: true}},
	{{Key: "b", Value: "2"}, {Key: "a", Value: "1"}, {Key: "ab", Drop: true}},
	{{Key: strings.Repeat("k", 80), Value: strings.Repeat("v", 300)}, {Key: strings.Repeat("k", 79), Value: "v"}},
	puts("v", strings.Split(strings.Repeat("k", 39)+"lm", "")[38:]...),
	forty("", 40),
	{{Key: "a", Drop: true}, {Key: "b", Drop: true}},
}

// forty is changes of as many keys.
func forty(value string, many int) []api.Change {
	var l []api.Change
	for i := range many {
		l = append(l, api.Change{Key: string([]byte{'k', byte(200 - i)}), Value: value})
	}
	return l
}

// P17.2: batches are numbered one after the other, and seen from their numbers on, at once and for good.
func TestWrite(t *testing.T) {
	p := born(t, 1500)
	for _, l := range rightBatches {
		was := slices.Clone(l)
		p.snap()
		p.write(l...)
		p.check()
		if !slices.Equal(l, was) {
			t.Fatalf("%v was changed to %v", was, l)
		}
	}
	// No sync is lacking.
	p.d.Crash(nil, -1, 0)
	p.reopen()
	p.check()
}

// P17.2: batches that may not be written, and change nothing.
func TestWriteRefuses(t *testing.T) {
	p := born(t, 1500)
	p.put("1", "a", "b")
	good := api.Change{Key: "g", Value: "v"}
	var lists [][]api.Change
	for _, bad := range []api.Change{
		{}, {Value: "v"}, {Drop: true}, {Key: strings.Repeat("k", 81)}, {Key: strings.Repeat("k", 81), Drop: true}, {Key: strings.Repeat("k", 1<<20)},
		{Key: "k", Value: strings.Repeat("v", 301)}, {Key: "k", Drop: true, Value: "v"}, {Key: "k", Value: strings.Repeat("v", 1<<20)}, good,
	} {
		lists = append(lists, []api.Change{bad, good}, []api.Change{good, {Key: "z"}, bad}, []api.Change{{Key: "h"}, bad, good})
	}
	lists = append(lists, nil, []api.Change{}, forty("v", 41), forty(strings.Repeat("v", 300), 41), make([]api.Change, 1<<20),
		[]api.Change{{Key: "a", Value: "1"}, {Key: "b"}, {Key: "a", Drop: true}}, append(forty("v", 39), api.Change{Key: "k\xc8", Value: "w"}))
	was := all(t, p.d)
	for _, l := range lists {
		n, err := p.s.Write(l)
		fault(t, "Write", err, api.ErrArg)
		if n != 0 {
			t.Fatalf("Write = %d", n)
		}
		p.check()
	}
	if !slices.Equal(all(t, p.d), was) {
		t.Error("the disk is another one")
	}
	p.put("2", "a")
	p.check()
}

// sized is a batch of many changes whose keys and values have so many bytes together.
func sized(many, bytes int) []api.Change {
	l := forty("", many)
	bytes -= 2 * many
	for i := range l {
		n := min(bytes, api.MaxValue)
		l[i].Value = strings.Repeat("v", n)
		bytes -= n
	}
	return l
}

// P17.2: a batch that no log has room for is ErrLong, ahead of ErrStall, and behind ErrArg. One that a new log has room for is never ErrLong.
func TestWriteTooLong(t *testing.T) {
	most := 0
	for bytes := 1500; bytes < 4400; bytes++ {
		p := born(t, 158)
		err := p.try(sized(40, bytes))
		if err == nil && (most == 0 || most == bytes-1) {
			most = bytes
			continue
		}
		refuses(t, "Write", err, api.ErrLong)
		if bytes == most+1 || bytes%500 == 0 {
			p.check()
			p.put("1", "a")
			// The log has less room now, and still the batch is too long for any.
			refuses(t, "Write", p.try(sized(40, bytes)), api.ErrLong)
			refuses(t, "Write", p.try(sized(40, most)), api.ErrStall)
			refuses(t, "Write", p.try(sized(40, bytes)), api.ErrLong)
			p.check()
			bad := append(sized(39, bytes), api.Change{})
			fault(t, "Write", p.try(bad), api.ErrArg)
			p.check()
		}
	}
	if most < 3000 {
		t.Errorf("a batch of %d bytes is too long", most+1)
	}
	// Not a byte of a log is given away: its 59 sectors behind a mark.
	var l []api.Entry
	for _, c := range sized(40, most) {
		l = append(l, api.Entry{Key: c.Key, Seq: 1, Value: c.Value})
	}
	slices.Reverse(l)
	if n := len(batch(t, l...)); n != 59*64 {
		t.Errorf("the longest batch has %d bytes", n)
	}
	for _, value := range []int{100, 200, 300} {
		p := born(t, 1500)
		refuses(t, "Write", p.try(forty(strings.Repeat("v", value), 40)), api.ErrLong)
		p.check()
	}
}

// P17.2: as the log has less and less room, batches are ErrStall, and change nothing; a flush makes room for them.
func TestWriteStalls(t *testing.T) {
	for _, bytes := range []int{2, 100, 300, 900, 1500, 2000, 3000} {
		p := born(t, 1500)
		l := sized(max(1, bytes/100), bytes)
		for range 5 {
			n := 0
			for ; p.try(l) == nil; n++ {
				p.check()
			}
			if n < 1 || n > 40 {
				t.Fatalf("%d batches of %d bytes were written before one was refused", n, bytes)
			}
			was := all(t, p.d)
			refuses(t, "Write", p.try(l), api.ErrStall)
			if !slices.Equal(all(t, p.d), was) {
				t.Fatal("the disk is another one")
			}
			p.check()
			// Without Want: the Write has asked for it.
			p.rest()
			p.write(l...)
			p.check()
			p.settle()
		}
	}
}

// P17.2, P17.4: a Write that waits has asked for a flush, however little is in memory.
func TestStallAsksForAFlush(t *testing.T) {
	p := born(t, 1500)
	p.put("1", "a")
	if p.step() {
		t.Fatal("there is something to do")
	}
	refuses(t, "Write", p.try(sized(40, 3400)), api.ErrStall)
	if !p.step() || countLevel(p.s.Version(), 0) != 1 {
		t.Fatalf("no flush: %v", p.s.Version())
	}
	p.write(sized(40, 3400)...)
	p.check()
}

// seqs are numbers that may be asked for.
var seqs = []int{math.MinInt, math.MinInt + 1, -1 << 53, -1 << 32, -2, -1, 0, 1, 2, 3, 4, 5, 6, 7, 8, 1 << 32, api.MaxNumber - 1, api.MaxNumber, api.MaxNumber + 1, math.MaxInt - 1, math.MaxInt}

// layered is a store whose keys are in memory, in some tables, or in both.
func layered(t *testing.T) *life {
	t.Helper()
	p := born(t, 1500)
	for i := range 12 {
		p.snap()
		n := strconv.Itoa(i)
		p.write(api.Change{Key: "a", Value: n}, api.Change{Key: "b" + n, Value: n}, api.Change{Key: "c", Drop: i%2 == 0}, api.Change{Key: "d" + strconv.Itoa(i-3), Drop: true}, api.Change{Key: "d" + n, Value: ""}, api.Change{Key: "e\xff" + n, Value: strings.Repeat(n, 130)})
		if i < 11 && i != 4 {
			p.flush()
		}
		if i == 4 || i == 8 {
			p.settle()
		}
	}
	if countLevel(p.s.Version(), 0) != 2 || countLevel(p.s.Version(), 1) < 1 {
		t.Fatalf("the tables are %v", p.s.Version())
	}
	return p
}

// P17.3: Get of all keys at all numbers, each of them held.
func TestGet(t *testing.T) {
	p := layered(t)
	p.check()
	for seq := range 12 {
		for _, key := range p.m.keys() {
			p.sameGet(key, seq)
		}
	}
}

// P17.3: Scan of all ranges, with all limits, at all numbers.
func TestScan(t *testing.T) {
	p := layered(t)
	keys := []string{"", "\x00", "a", "a\x00", "b", "b1", "b10", "c", "d", "d1", "d9", "e", "e\xff", "e\xff3", "e\xff\xff", "f", "\xff", strings.Repeat("\xff", 99)}
	for seq := range 13 {
		for _, from := range keys {
			for _, to := range keys {
				for _, most := range []int{0, 1, 2, 3, 7, 40, math.MaxInt} {
					p.sameScan(from, to, seq, most)
				}
			}
		}
	}
	for _, most := range []int{-1, -2, math.MinInt, -1 << 32} {
		for _, seq := range seqs {
			l, err := p.s.Scan("a", "z", seq, most)
			refuses(t, "Scan", err, api.ErrArg)
			if len(l) != 0 {
				t.Fatalf("Scan = %v", l)
			}
		}
	}
}

// P17.3, P1: numbers at which nothing is promised do no harm; those behind the last one mean the newest state.
func TestAnySeq(t *testing.T) {
	p := layered(t)
	for seq := range 12 {
		p.free(seq)
	}
	p.put("9", "x", "y")
	for range 3 {
		for _, seq := range seqs {
			if seq >= p.m.seq() {
				p.sameGet("a", seq)
				p.sameScan("", "", seq, 99)
				continue
			}
			_, _, err := p.s.Get("a", seq)
			fine(t, "Get", err)
			_, err = p.s.Scan("", "", seq, 99)
			fine(t, "Scan", err)
		}
		p.settle()
		p.check()
	}
}

// P17.3: an empty store has no key, at no number.
func TestNothing(t *testing.T) {
	p := born(t, 158)
	for _, seq := range seqs {
		for _, key := range []string{"", "a", strings.Repeat("k", 1000)} {
			if v, ok, err := p.s.Get(key, seq); v != "" || ok || err != nil {
				t.Errorf("Get(%q, %d) = %q, %t, %v", key, seq, v, ok, err)
			}
			if l, err := p.s.Scan(key, "", seq, 9); len(l) != 0 || err != nil {
				t.Errorf("Scan(%q, %d) = %v, %v", key, seq, l, err)
			}
		}
	}
}

// P17.3: each snapshot needs a Free of its own, and there is none of other numbers.
func TestSnapAndFree(t *testing.T) {
	p := born(t, 1500)
	for _, seq := range seqs {
		p.free(seq)
	}
	p.snap()
	p.snap()
	p.put("1", "a")
	p.snap()
	p.put("2", "a")
	for _, seq := range seqs {
		if seq != 0 && seq != 1 {
			p.free(seq)
		}
	}
	for range 3 {
		p.free(0)
		p.check()
	}
	p.free(1)
	p.free(1)
	p.snap()
	p.free(2)
	p.free(2)
	// No snapshot outlasts the store.
	p.snap()
	p.reopen()
	p.free(2)
	p.check()
}

// P17.3: what a snapshot holds is told after any work in the background, as long as it is held.
func TestSnapshotsOutlastWork(t *testing.T) {
	p := born(t, 1500)
	var held []int
	for i := range 50 {
		if i%7 == 3 {
			held = append(held, p.snap(), p.snap())
		}
		if i%11 == 10 {
			p.free(held[0])
			held = held[1:]
		}
		p.write(api.Change{Key: "a", Value: strconv.Itoa(i)}, api.Change{Key: "b", Drop: i%3 == 0}, api.Change{Key: "c" + strconv.Itoa(i%4), Value: strings.Repeat("c", i)})
		if i%4 == 0 {
			p.settle()
		}
		p.check()
	}
}

// P3: results are new memory, up to their capacity.
func TestNewMemory(t *testing.T) {
	p := layered(t)
	for range 2 {
		for _, most := range []int{0, 1, 5, 99} {
			l, err := p.s.Scan("", "", math.MaxInt, most)
			fine(t, "Scan", err)
			l = l[:cap(l)]
			for i := range l {
				l[i] = api.Entry{Key: "x", Seq: 99, Value: "y"}
			}
		}
		v := p.s.Version()
		v.Tables = v.Tables[:cap(v.Tables)]
		for i := range v.Tables {
			v.Tables[i] = api.Meta{ID: 77, Min: "x", Max: "y"}
		}
		v.Logs = v.Logs[:cap(v.Logs)]
		for i := range v.Logs {
			v.Logs[i] = 77
		}
		p.check()
	}
	l := puts("v", "b", "a", "c")
	p.write(l...)
	for i := range l {
		l[i] = api.Change{Key: "z", Drop: true}
	}
	p.check()
	p.settle()
	p.check()
}
