package store_test

import (
	"errors"
	"math/rand"
	"slices"
	"strconv"
	"strings"
	"testing"

	"palinode/api"
	"palinode/merge"
	"palinode/pick"
	"palinode/version"
	"palinode/volume"
	"palinode/wal"
)

// P17.4: a flush makes one table of the entries in memory, all of them, and a new log, and loses the log.
func TestFlush(t *testing.T) {
	p := born(t, 1500)
	for round := range 2 {
		var want []api.Entry
		for i := range 4 {
			p.put(strconv.Itoa(i), "a", "b"+strconv.Itoa(i))
			want = append(want, api.Entry{Key: "b" + strconv.Itoa(i), Seq: p.m.seq(), Value: strconv.Itoa(i)})
			want = slices.Insert(want, 0, api.Entry{Key: "a", Seq: p.m.seq(), Value: strconv.Itoa(i)})
		}
		p.write(api.Change{Key: "c", Drop: true})
		want = append(want, api.Entry{Key: "c", Seq: p.m.seq(), Drop: true})
		was := p.s.Version()
		p.flush()
		p.check()
		clean(t, p.d, p.s)
		v := p.s.Version()
		added := v.Tables[len(v.Tables)-1]
		if len(v.Tables) != round+1 || v.Seq != p.m.seq() || len(v.Logs) != 1 || v.Logs[0] == was.Logs[0] || !slices.Equal(v.Tables[:round], was.Tables) || added.Level != 0 {
			t.Fatalf("the version was %v, and is %v", was, v)
		}
		if got := entriesOf(t, p.d, p.s)[added.ID]; !slices.Equal(got, want) {
			t.Fatalf("the table has %v; want %v", got, want)
		}
		if p.step() {
			t.Fatal("there is more to do")
		}
	}
}

// P17.4: nothing begins a flush of an empty memory, nor of one that is not large; Want begins one, also if it was called when there was nothing to flush, and once.
func TestWant(t *testing.T) {
	p := born(t, 1500)
	quiet := func() {
		t.Helper()
		was := p.s.Version()
		if p.step() || !sameVersion(p.s.Version(), was) {
			t.Fatalf("the version was %v, and is %v", was, p.s.Version())
		}
	}
	quiet()
	p.s.Want()
	quiet()
	quiet()
	p.put("1", "a")
	if !p.step() || len(p.s.Version().Tables) != 1 {
		t.Fatalf("no flush: %v", p.s.Version())
	}
	quiet()
	p.put("2", "a")
	quiet()
	p.s.Want()
	p.s.Want()
	if !p.step() || len(p.s.Version().Tables) != 2 {
		t.Fatalf("no flush: %v", p.s.Version())
	}
	p.put("3", "a")
	quiet()
	p.check()
	// What Want asked for is not on the disk.
	p.s.Want()
	p.reopen()
	quiet()
	p.check()
}

// P17.4: a memory that is large is flushed without being asked, before there is no room in the log; also behind an Open.
func TestLargeMemory(t *testing.T) {
	for _, bytes := range []int{2, 60, 500} {
		for _, anew := range []bool{false, true} {
			p := born(t, 1500)
			if p.step() {
				t.Fatal("there is something to do")
			}
			n := 0
			for len(p.s.Version().Tables) == 0 {
				fine(t, "Write", p.try(sized(1, min(bytes, 302)))) // never ErrStall
				if anew {
					p.reopen()
				}
				p.step()
				n++
			}
			if n < 2 {
				t.Errorf("one batch of %d bytes is a large memory", bytes)
			}
			p.check()
			clean(t, p.d, p.s)
		}
	}
}

// jobOf checks that a version differs from another one as a job says, and tells the entries of the job's tables and those that came of them.
func jobOf(t *testing.T, was, is api.Version, before, after map[int][]api.Entry) (job api.Job, in [][]api.Entry, out []api.Entry) {
	t.Helper()
	job, ok := pick.Pick(was)
	if !ok {
		t.Fatalf("nothing was to be compacted in %v", was)
	}
	gone := slices.Concat(job.In, job.Under)
	for _, m := range was.Tables {
		if slices.Contains(gone, m.ID) {
			in = append(in, before[m.ID])
		} else if !slices.Contains(is.Tables, m) {
			t.Fatalf("%v lacks in %v; the job is %v", m, is, job)
		}
	}
	for _, m := range is.Tables {
		if slices.Contains(was.Tables, m) {
			if slices.Contains(gone, m.ID) {
				t.Fatalf("%v is still in %v; the job is %v", m, is, job)
			}
			continue
		}
		if m.Level != job.Level+1 {
			t.Fatalf("%v came of %v", m, job)
		}
		out = append(out, after[m.ID]...)
	}
	if !slices.Equal(was.Logs, is.Logs) || was.Seq != is.Seq {
		t.Fatalf("the version was %v, and is %v", was, is)
	}
	return job, in, out
}

// compacts makes steps until the job that is due is done, and checks what came of it. It tells the level, and how many steps it took.
func (p *life) compacts() (int, int) {
	p.t.Helper()
	was, before := p.s.Version(), entriesOf(p.t, p.d, p.s)
	steps := 0
	for sameVersion(p.s.Version(), was) {
		if !p.step() {
			p.t.Fatal("there is nothing to do")
		}
		steps++
		p.check()
	}
	clean(p.t, p.d, p.s)
	job, in, out := jobOf(p.t, was, p.s.Version(), before, entriesOf(p.t, p.d, p.s))
	merged, err := merge.Merge(in)
	fine(p.t, "Merge", err)
	var keep []int
	for seq := range p.m.held {
		keep = append(keep, seq)
	}
	want, err := merge.Fold(merged, keep, job.Bottom)
	fine(p.t, "Fold", err)
	if !slices.Equal(out, want) {
		p.t.Fatalf("%v came of %v by %v; want %v", out, in, job, want)
	}
	return job.Level, steps
}

// P17.4: each compaction is that of Pick, and leaves of its tables what Fold does, whatever is held.
func TestCompaction(t *testing.T) {
	levels := map[int]int{}
	for seed := range 5 {
		r := scripts(int64(seed))[seed]
		p := born(t, 4000)
		for range 130 {
			for range 8 {
				p.try(r.batch())
			}
			p.flush()
			if r.Intn(3) == 0 && len(p.m.held) < 9 {
				p.snap()
			}
			p.free(p.m.seq() - r.Intn(30))
			for {
				if _, ok := pick.Pick(p.s.Version()); !ok {
					break
				}
				n, _ := p.compacts()
				levels[n]++
			}
			if p.step() {
				t.Fatal("something was done, and nothing was due")
			}
			if len(p.s.Version().Tables) > 18 {
				break
			}
		}
	}
	if levels[0] < 50 || levels[1] < 20 || levels[2] < 3 {
		t.Errorf("compactions by levels: %v", levels)
	}
}

// P17.4: what is gone, or hidden and not held, is not in the tables anymore.
func TestCompactionForgets(t *testing.T) {
	p := born(t, 1500)
	count := func(key string) int {
		n := 0
		for _, l := range entriesOf(t, p.d, p.s) {
			for _, e := range l {
				if e.Key == key {
					n++
				}
			}
		}
		return n
	}
	three := func(l ...api.Change) {
		for range 3 {
			p.write(l...)
			p.flush()
		}
		p.rest()
		p.check()
	}
	three(puts("1", "a", "b", "z")...)
	if count("a") != 1 || count("b") != 1 {
		t.Errorf("%d versions of a, %d of b", count("a"), count("b"))
	}
	held := p.snap()
	three(api.Change{Key: "a", Drop: true}, api.Change{Key: "b", Value: "2"})
	if count("a") != 2 || count("b") != 2 {
		t.Errorf("%d versions of a, %d of b; 3 are held", count("a"), count("b"))
	}
	p.free(held)
	three(puts("1", "0", "zz")...)
	if count("a") != 0 || count("b") != 1 || count("z") != 1 {
		t.Errorf("%d versions of a, %d of b, %d of z", count("a"), count("b"), count("z"))
	}
	// Tables of which nothing is left.
	three(api.Change{Key: "0", Drop: true}, api.Change{Key: "b", Drop: true}, api.Change{Key: "z", Drop: true}, api.Change{Key: "zz", Drop: true})
	if v := p.s.Version(); len(v.Tables) != 0 || v.Seq != p.m.seq() {
		t.Errorf("the version is %v", v)
	}
	clean(t, p.d, p.s)
	p.reopen()
	p.check()
}

// P17.4: a flush goes ahead of a compaction that has not begun, and that is begun if nothing is to be flushed.
func TestFlushGoesAhead(t *testing.T) {
	p := born(t, 1500)
	for i := range 5 {
		p.put(strconv.Itoa(i), "a")
		p.flush()
	}
	p.put("x", "b")
	was := p.s.Version()
	p.compacts()
	if countLevel(was, 0) != 5 || countLevel(p.s.Version(), 0) != 0 {
		t.Fatalf("the version is %v", p.s.Version())
	}
	if p.step() {
		t.Fatal("there is more to do")
	}
	p.check()
}

// big is a store with so many tables of level 0, all of them full.
func big(t *testing.T, tables int) *life {
	t.Helper()
	p := born(t, 4000)
	for i := range tables {
		for j := range 10 {
			p.put(strings.Repeat(string([]byte{byte(i), byte(j)}), 150), "k"+strconv.Itoa(i*17%10)+strconv.Itoa(j))
		}
		p.flush()
	}
	return p
}

// P17.4: a compaction of very much is done in several steps, and goes on whatever comes between them.
func TestCompactionInSteps(t *testing.T) {
	p := big(t, 19)
	if _, steps := p.compacts(); steps < 2 {
		t.Fatalf("%d steps", steps)
	}
	p = big(t, 19)
	was := p.s.Version()
	p.step()
	for i := 0; sameVersion(was, p.s.Version()); i++ {
		if i > 50 {
			t.Fatal("it does not come to an end")
		}
		p.snap()
		p.put(strconv.Itoa(i), "k00", "new")
		p.write(api.Change{Key: "k01", Drop: i%2 == 0})
		p.s.Want()
		p.check()
		// Although Want was called, it is the compaction that goes on.
		if !p.step() || countLevel(p.s.Version(), 0) > 0 && !sameVersion(was, p.s.Version()) {
			t.Fatalf("the version was %v, and is %v", was, p.s.Version())
		}
		p.check()
	}
	clean(t, p.d, p.s)
	if countLevel(p.s.Version(), 1) < 2 {
		t.Fatalf("the version is %v", p.s.Version())
	}
	if !p.step() || countLevel(p.s.Version(), 0) != 1 {
		t.Fatalf("no flush: %v", p.s.Version())
	}
	p.rest()
	p.check()
}

// P17.4: a store that is opened while a compaction was in progress has none of it.
func TestOpenWhileCompacting(t *testing.T) {
	p := big(t, 19)
	was := p.s.Version()
	p.step()
	if !sameVersion(was, p.s.Version()) || len(files(t, p.d)) <= len(was.Tables)+2 {
		t.Fatal("the compaction is not in progress")
	}
	p.reopen()
	p.check()
	clean(t, p.d, p.s)
	p.rest()
	p.check()
	clean(t, p.d, p.s)
}

// fillManifest appends edits that change nothing to the manifest on a disk, until it has room for fewer bytes.
func fillManifest(t *testing.T, p *life, room int) {
	t.Helper()
	v, err := volume.Open(p.d)
	fine(t, "Open of the volume", err)
	_, l, err := wal.Open(v, v.Root().Current)
	fine(t, "Open of the manifest", err)
	b, err := version.Encode(api.Edit{})
	fine(t, "Encode", err)
	for l.Room() >= room {
		if l.Room() < 64 {
			b = ""
			break
		}
		fine(t, "Append", l.Append(b))
	}
	p.reopen()
}

// P17.1, P17.4: a manifest that is full is made anew, as often as needed, by flushes and by compactions.
func TestManifestIsMadeAnew(t *testing.T) {
	p := born(t, 1500)
	seen := map[int]int{}
	for i := range 60 {
		p.put(strconv.Itoa(i), strings.Repeat(strconv.Itoa(i%10), 80), "k")
		p.flush()
		_, f := manifest(t, p.d)
		seen[f.ID]++
		if i%7 == 6 {
			p.rest()
			_, f = manifest(t, p.d)
			seen[f.ID]++
		}
		p.check()
		clean(t, p.d, p.s)
	}
	if len(seen) < 3 {
		t.Errorf("manifests: %v", seen)
	}
	for room := -1; room < 600; room += 30 {
		for _, flush := range []bool{true, false} {
			p := born(t, 1500)
			for i := range 3 {
				p.put(strconv.Itoa(i), strings.Repeat("k", 80), "a"+strings.Repeat(strconv.Itoa(i), 79))
				p.flush()
			}
			if flush {
				p.put("3", "x")
			}
			fillManifest(t, p, max(room, 0))
			was := p.s.Version()
			p.check()
			p.s.Want()
			if !p.step() || sameVersion(was, p.s.Version()) {
				t.Fatalf("the version was %v, and is %v", was, p.s.Version())
			}
			p.check()
			clean(t, p.d, p.s)
			p.reopen()
			p.check()
		}
	}
}

// P17.4: more versions of a key than a table may have are not compacted, as long as all of them are held; that does no harm, and ends when they are let go.
func TestVeryManyVersions(t *testing.T) {
	p := born(t, 4000)
	full, stalled := 0, 0
	for full == 0 || stalled == 0 {
		p.s.Snap()
		if p.try(puts(strconv.Itoa(p.m.seq()+1), "k")) != nil {
			stalled++
			for range 3 {
				if _, err := p.s.Step(); err != nil {
					refuses(t, "Step", err, api.ErrFull)
					full++
				}
				clean(t, p.d, p.s)
			}
		}
		if p.m.seq() > 4000 {
			t.Fatalf("%d versions, %d steps were ErrFull", p.m.seq(), full)
		}
	}
	if p.m.seq() < 1500 {
		t.Errorf("ErrFull at %d versions", p.m.seq())
	}
	for seq := range p.m.seq() {
		if v, ok, err := p.s.Get("k", seq+1); v != strconv.Itoa(seq+1) || !ok || err != nil {
			t.Fatalf("Get at %d = %q, %t, %v", seq+1, v, ok, err)
		}
	}
	p.reopen()
	p.rest()
	p.put("x", "k")
	p.settle()
	p.check()
	entries := entriesOf(t, p.d, p.s)
	for _, m := range p.s.Version().Tables {
		if m.Level > 0 && len(entries[m.ID]) > 1 {
			t.Errorf("table %v has %d versions", m, len(entries[m.ID]))
		}
	}
}

// P17.4: few steps in a row do something, however much has piled up.
func TestStepsEnd(t *testing.T) {
	most := 0
	for seed := range 6 {
		r := script{rand.New(rand.NewSource(int64(seed))), 2000, 290, seed % 3 * 30}
		p := born(t, 4000)
		for round := range 12 {
			for i := range 19 {
				for p.try(r.batch()) == nil {
				}
				if i < 1+18*(round%2) {
					p.s.Want()
					p.maybeStep()
				}
			}
			steps := 0
			for p.s.Want(); ; steps++ {
				more, err := p.s.Step()
				if err != nil && !errors.Is(err, api.ErrFull) {
					t.Fatal(err)
				}
				if !more {
					break
				}
			}
			most = max(most, steps)
		}
		p.check()
	}
	if most > 100 || most < 5 {
		t.Errorf("up to %d steps in a row did something", most)
	}
}
