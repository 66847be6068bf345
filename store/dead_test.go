package store_test

import (
	"slices"
	"strconv"
	"testing"

	"palinode/api"
	"palinode/disk"
	"palinode/store"
)

// dead checks that a store is dead: what it may still be asked it answers as it was, and nothing is done.
func dead(t *testing.T, s *store.Store, d *disk.Disk, v api.Version, seq int) {
	t.Helper()
	writes := d.Writes()
	for _, l := range append(rightBatches, nil, puts("v", "a", "a"), forty("v", 41), sized(40, 4000)) {
		n, err := s.Write(l)
		refuses(t, "Write of a dead store", err, api.ErrDown)
		if n != 0 {
			t.Errorf("Write = %d", n)
		}
	}
	for _, n := range seqs {
		value, ok, err := s.Get("a", n)
		refuses(t, "Get of a dead store", err, api.ErrDown)
		l, err := s.Scan("", "", n, 9)
		refuses(t, "Scan of a dead store", err, api.ErrDown)
		_, err = s.Scan("", "", 9, n)
		refuses(t, "Scan of a dead store", err, api.ErrDown)
		if value != "" || ok || len(l) != 0 {
			t.Errorf("Get = %q, %t; Scan = %v", value, ok, l)
		}
	}
	s.Want()
	for range 3 {
		more, err := s.Step()
		refuses(t, "Step of a dead store", err, api.ErrDown)
		if more {
			t.Error("Step = true")
		}
	}
	if !s.Dead() || s.Seq() != seq || !sameVersion(s.Version(), v) || s.Snap() != seq || !s.Free(seq) || s.Free(seq+1) {
		t.Errorf("dead %t, Seq %d, Version %v", s.Dead(), s.Seq(), s.Version())
	}
	if d.Writes() != writes {
		t.Errorf("a dead store made %d writes", d.Writes()-writes)
	}
}

// dies checks that a store dies of a call, for good, also when the power is back and another store is at work.
func dies(t *testing.T, p *life, name string, layer int, err error) {
	t.Helper()
	wraps(t, name+" without power", err, api.ErrDown, layer)
	down(t, name+" without power", err)
	s, v, seq := p.s, p.s.Version(), p.m.seq()
	dead(t, s, p.d, v, seq)
	p.d.Crash(nil, -1, 0)
	was := all(t, p.d)
	dead(t, s, p.d, v, seq)
	if !slices.Equal(all(t, p.d), was) {
		t.Errorf("%s: a dead store changed the disk", name)
	}
	p.reopen()
	p.check()
	p.put("new", "a", "b")
	dead(t, s, p.d, v, seq)
	p.check()
	p.settle()
	dead(t, s, p.d, v, seq)
	p.check()
}

// P17.5: the power fails at the first write of a Write.
func TestDeadByWrite(t *testing.T) {
	p := born(t, 400)
	p.put("1", "a")
	p.d.Fuse(0)
	n, err := p.s.Write(puts("2", "a"))
	if n != 0 {
		t.Errorf("Write = %d", n)
	}
	dies(t, p, "Write", 8, err)
}

// P17.5: the power fails at the first write of a flush, and of a compaction.
func TestDeadByStep(t *testing.T) {
	for tables := range 5 {
		p := born(t, 600)
		for i := range tables {
			p.put(strconv.Itoa(i), "a")
			p.flush()
		}
		if tables < 3 {
			p.put("x", "b")
			p.s.Want()
		}
		p.check()
		p.d.Fuse(0)
		more, err := p.s.Step()
		if more {
			t.Error("Step = true")
		}
		dies(t, p, "Step", 7, err)
	}
}

// P17.5: what does not write does not find out that the power is off, and a store that has not noticed is alive.
func TestUnnoticed(t *testing.T) {
	p := born(t, 400)
	p.put("1", "a")
	p.d.Fuse(0)
	if p.d.Write(0, "x") != api.ErrDown {
		t.Fatal("the power is on")
	}
	p.sameGet("a", 1)
	_, err := p.s.Write(nil)
	refuses(t, "Write", err, api.ErrArg)
	refuses(t, "Write", p.try(sized(40, 4000)), api.ErrLong)
	if more, err := p.s.Step(); more || err != nil || p.s.Dead() {
		t.Fatalf("Step = %t, %v", more, err)
	}
	p.d.Crash(nil, -1, 0)
	p.put("2", "a")
	p.check()
	p.settle()
	p.check()
}

// P17.4, P17.5: on a disk without room for another log the keys keep their values, whatever is tried.
func TestFullDisk(t *testing.T) {
	for _, sectors := range []int{158, 217, 218} {
		p := born(t, sectors)
		for i := 0; p.try(puts(strconv.Itoa(i), "a", "b"+strconv.Itoa(i))) == nil; i++ {
		}
		p.snap()
		for range 3 {
			refuses(t, "Write", p.try(puts("x", "a")), api.ErrStall)
			p.s.Want()
			for range 3 {
				more, err := p.s.Step()
				wraps(t, "Step", err, api.ErrFull, 7)
				if more {
					t.Fatal("Step = true")
				}
				p.check()
				clean(t, p.d, p.s)
			}
			p.reopen()
			p.check()
		}
	}
}

// P17.5: a Step that lacks room, and in which the power fails when what it has made is deleted, tells that the power has failed.
func TestPowerFailsWhereRoomLacks(t *testing.T) {
	p := born(t, 218) // of the two files of a flush, only the log has room
	p.put("1", "a", "b")
	sectors := all(t, p.d)
	full, died := 0, 0
	for fuse := range 80 {
		p.d = diskOf(t, sectors)
		p.reopen()
		p.s.Want()
		p.d.Fuse(fuse)
		more, err := p.s.Step()
		if more {
			t.Fatal("Step = true")
		}
		if p.s.Dead() {
			down(t, "Step", err)
			died++
			p.d.Crash(nil, -1, 0)
			p.reopen()
		} else {
			wraps(t, "Step", err, api.ErrFull, 7)
			full++
		}
		p.check()
		clean(t, p.d, p.s)
	}
	if full < 5 || died < 60 {
		t.Errorf("%d steps were ErrFull, %d ErrDown", full, died)
	}
}

// P17.4, P17.5: a disk that fills up, first without room for a table, then for a log. What was written stays, and batches that a log has room for are still written.
func TestDiskFillsUp(t *testing.T) {
	for _, sectors := range []int{219, 240, 300, 400, 700} {
		p := born(t, sectors)
		full, stalled := 0, 0
		for i := range 150 {
			if p.try(puts(string(rune('0'+i%10)), "a", "k"+strconv.Itoa(i), "l"+strconv.Itoa(i*7%150))) != nil {
				stalled++
			}
			was := p.s.Version()
			more, err := p.s.Step()
			if err != nil {
				fault(t, "Step", err, api.ErrFull)
				full++
				if more || !sameVersion(p.s.Version(), was) {
					t.Fatalf("Step = %t, %v; the version was %v, and is %v", more, err, was, p.s.Version())
				}
				p.check()
				clean(t, p.d, p.s)
			}
		}
		p.check()
		p.reopen()
		p.check()
		if sectors < 400 && (full == 0 || stalled == 0) || sectors == 700 && full+stalled > 0 {
			t.Errorf("%d sectors: %d steps were ErrFull, %d Writes ErrStall", sectors, full, stalled)
		}
	}
}

// P17.4: where tables of level 0 take all files there are, a compaction makes room for the flush, and nobody waits for ever.
func TestTooManyFiles(t *testing.T) {
	for _, values := range []int{1, 35} {
		p := born(t, 4000)
		full := 0
		for i := range 100 {
			p.write(sized(values, values*20+i)...)
			p.s.Want()
			_, err := p.s.Step()
			if err == nil {
				continue
			}
			refuses(t, "Step", err, api.ErrFull)
			full++
			if n := len(p.s.Version().Tables); n < 20 {
				t.Fatalf("no room beside %d tables", n)
			}
			p.check()
			clean(t, p.d, p.s)
			for countLevel(p.s.Version(), 0) > 0 {
				if !p.step() {
					t.Fatal("there is nothing to do")
				}
			}
			// What Want asked for is still asked for.
			if !p.step() || countLevel(p.s.Version(), 0) != 1 {
				t.Fatalf("no flush: %v", p.s.Version())
			}
		}
		if full < 3 {
			t.Errorf("%d steps were ErrFull", full)
		}
		p.check()
		p.reopen()
		p.check()
	}
}

// P17.4: also where tables take all files, the manifest can be made anew when it is full.
func TestTooManyFilesAndAFullManifest(t *testing.T) {
	p := born(t, 4000)
	for i := 0; ; i++ {
		p.put(strconv.Itoa(i), "a", "b"+strconv.Itoa(i))
		p.s.Want()
		if _, err := p.s.Step(); err != nil {
			refuses(t, "Step", err, api.ErrFull)
			break
		}
	}
	fillManifest(t, p, 64)
	_, was := manifest(t, p.d)
	p.s.Want()
	_, err := p.s.Step()
	refuses(t, "Step", err, api.ErrFull)
	p.rest()
	p.check()
	clean(t, p.d, p.s)
	if _, is := manifest(t, p.d); is.ID == was.ID || countLevel(p.s.Version(), 0) != 1 {
		t.Errorf("the manifest was %v, and is %v; %v", was, is, p.s.Version())
	}
}

// P17.4: a volume that is full of files, by another hand, has no room for a compaction.
func TestAllFilesTaken(t *testing.T) {
	for tables := 20; tables <= 22; tables++ {
		c := newCraft(t)
		e := api.Edit{AddLogs: []int{c.log(60)}, Seq: 30}
		for i := range tables {
			e.Add = append(e.Add, c.table(0, of("a", i+1)))
		}
		c.point(c.manifest(e))
		s := c.opens(30, of("a", tables))
		more, err := s.Step()
		if tables == 20 {
			fine(t, "Step", err)
		} else {
			refuses(t, "Step", err, api.ErrFull)
		}
		if more != (tables == 20) {
			t.Errorf("Step = %t", more)
		}
		c.opens(30, of("a", tables))
	}
}
