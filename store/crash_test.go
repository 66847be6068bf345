package store_test

import (
	"errors"
	"math/rand"
	"strconv"
	"strings"
	"testing"

	"palinode/api"
	"palinode/disk"
	"palinode/pick"
	"palinode/store"
)

// failure is how the power fails: at which write, which of the unsynced ones are kept, which one is torn, behind how many bytes.
type failure struct {
	fuse        int
	keeps       []int
	torn, bytes int
}

// crash lets the power go and come back.
func (f failure) crash(d *disk.Disk) { d.Crash(f.keeps, f.torn, f.bytes) }

// anyFailure is a failure at a write, with any choice of what is kept.
func anyFailure(r *rand.Rand, fuse int) failure {
	f := failure{fuse: fuse, torn: -1}
	kind := r.Intn(4) // none of the unsynced writes is kept, all are, any of them, or all but a few
	for range 140 {
		f.keeps = append(f.keeps, []int{0, 1, r.Intn(2), 1 - r.Intn(9)/8}[kind])
	}
	if r.Intn(3) > 0 {
		f.torn, f.bytes = r.Intn(1<<r.Intn(8)), r.Intn(65)
	}
	return f
}

// recovers checks that a disk on which the power has failed has the store with the model's state, or also with that batch if there is one, and tells it.
func recovers(t *testing.T, d *disk.Disk, m *model, l []api.Change) *life {
	t.Helper()
	s, err := store.Open(d)
	fine(t, "Open", err)
	p := &life{t, d, s, &model{append([]state(nil), m.states...), map[int]int{}}}
	if l != nil && s.Seq() == m.seq()+1 {
		p.m.write(l)
	}
	p.check()
	clean(t, d, s)
	return p
}

// goesOn checks that a store that was opened behind a failure is as good as any.
func (p *life) goesOn(n int) {
	p.t.Helper()
	if err := p.try(puts("on", "a", "on"+strconv.Itoa(n))); err != nil {
		refuses(p.t, "Write", err, api.ErrStall)
		p.rest()
		p.put("on", "a", "on"+strconv.Itoa(n))
	}
	p.check()
	if n%5 == 0 {
		p.settle()
		p.check()
	}
	p.d.Crash(nil, -1, 0)
	p.reopen()
	p.check()
	clean(p.t, p.d, p.s)
}

// scene is a disk with a store, and what is done to that: a batch is written, or else a flush is asked for and a step made.
type scene struct {
	sectors []string
	m       *model
	batch   []api.Change
}

// play does what is done in a scene, on a disk of its own, with the power failing at a write, and tells how that ended.
func (c scene) play(t *testing.T, f failure) (*disk.Disk, error) {
	t.Helper()
	d := diskOf(t, c.sectors)
	s, err := store.Open(d)
	fine(t, "Open", err)
	d.Fuse(f.fuse)
	if c.batch != nil {
		_, err = s.Write(c.batch)
	} else {
		s.Want()
		_, err = s.Step()
	}
	if err != nil {
		down(t, "without power", err)
	}
	if s.Dead() != (err != nil) {
		t.Fatalf("dead: %t, behind %v", s.Dead(), err)
	}
	f.crash(d)
	return d, err
}

// failEverywhere lets the power fail at every write of a scene, in so many ways each time, and tells how many writes the scene has.
func (c scene) failEverywhere(t *testing.T, r *rand.Rand, ways int) int {
	t.Helper()
	for fuse := 0; ; fuse++ {
		done := false
		for range ways {
			d, err := c.play(t, anyFailure(r, fuse))
			done = err == nil
			if done {
				p := recovers(t, d, c.m, c.batch)
				if c.batch != nil && p.m.seq() != c.m.seq()+1 {
					t.Fatalf("the batch was written, and is lost: %d", p.s.Seq())
				}
				p.goesOn(fuse)
				continue
			}
			if r.Intn(3) == 0 {
				failsInOpen(t, d, r)
			}
			recovers(t, d, c.m, c.batch).goesOn(fuse)
		}
		if done {
			return fuse
		}
	}
}

// failsInOpen lets the power fail while a store is opened.
func failsInOpen(t *testing.T, d *disk.Disk, r *rand.Rand) {
	t.Helper()
	f := anyFailure(r, r.Intn(150))
	d.Fuse(f.fuse)
	if s, err := store.Open(d); err != nil {
		down(t, "Open without power", err)
		if s != nil {
			t.Fatalf("Open = %v", s)
		}
	}
	f.crash(d)
}

// now is the scene that a life is in.
func (p *life) now(l []api.Change) scene {
	p.t.Helper()
	return scene{all(p.t, p.d), &model{append([]state(nil), p.m.states...), nil}, l}
}

// P17.7: the power fails at every write of each call of some lives, and then, at times, in the Open behind it. What is kept of the unsynced writes, and how one is torn, differs each time.
func TestEveryFailure(t *testing.T) {
	for seed, long := range []int{0, 79, 30, 79} {
		t.Run("", func(t *testing.T) {
			t.Parallel()
			r := script{rand.New(rand.NewSource(int64(seed))), 30, 80, long}
			p := born(t, 900)
			flushes, levels := 0, map[int]int{}
			for i := range 14 {
				l := r.batch()
				p.now(l).failEverywhere(t, r.Rand, 2)
				p.write(l...)
				if i%2 == 1 {
					p.now(nil).failEverywhere(t, r.Rand, 1)
					p.flush()
					flushes++
				}
				if job, ok := pick.Pick(p.s.Version()); ok && i%2 == 1 {
					p.now(nil).failEverywhere(t, r.Rand, 2)
					p.compacts()
					levels[job.Level]++
				}
			}
			if flushes < 6 || levels[0] < 2 {
				t.Errorf("%d flushes, compactions %v", flushes, levels)
			}
		})
	}
}

// P17.7: the power fails at every write of a flush, and of a compaction, that makes the manifest anew.
func TestEveryFailureWithANewManifest(t *testing.T) {
	for _, flush := range []bool{true, false} {
		t.Run("", func(t *testing.T) {
			t.Parallel()
			p := born(t, 700)
			for i := range 3 {
				p.put(strconv.Itoa(i), strings.Repeat("k", 80), "a"+strings.Repeat(strconv.Itoa(i), 79))
				p.flush()
			}
			if flush {
				p.put("3", "x")
			}
			fillManifest(t, p, 64)
			_, was := manifest(t, p.d)
			r := rand.New(rand.NewSource(17))
			writes := p.now(nil).failEverywhere(t, r, 4)
			p.s.Want()
			p.step()
			if _, is := manifest(t, p.d); is.ID == was.ID || writes < 80 {
				t.Errorf("the manifest was %v, and is %v; %d writes", was, is, writes)
			}
		})
	}
}

// P17.7: the power fails at any write of a compaction of several steps, and of the batches between them.
func TestFailuresBetweenSteps(t *testing.T) {
	p := big(t, 13)
	c := p.now(nil)
	r := rand.New(rand.NewSource(7))
	dead := 0
	for range 150 {
		d := diskOf(t, c.sectors)
		s, err := store.Open(d)
		fine(t, "Open", err)
		q := &life{t, d, s, &model{append([]state(nil), c.m.states...), map[int]int{}}}
		f := anyFailure(r, r.Intn(900))
		d.Fuse(f.fuse)
		l := puts("new", "k00", "k"+strconv.Itoa(f.fuse))
		for range 6 {
			if _, err = s.Step(); err != nil {
				l = nil // It was not in a Write.
				break
			}
			if err = q.try(l); err != nil {
				break
			}
		}
		if err != nil {
			down(t, "without power", err)
			dead++
		}
		f.crash(d)
		recovers(t, d, q.m, l).goesOn(f.fuse)
	}
	if dead < 50 {
		t.Errorf("%d of 150 stores died", dead)
	}
}

// P17.7, P17.5: long lives with a failure in every few calls, each one on what the ones before it have left.
func TestManyFailures(t *testing.T) {
	for seed := range 24 {
		t.Run("", func(t *testing.T) {
			t.Parallel()
			r := scripts(int64(seed))[seed%5]
			p := born(t, []int{158, 300, 600, 1500}[seed%4])
			died := 0
			for i := range 100 {
				f := anyFailure(r.Rand, r.Intn(200))
				p.d.Fuse(f.fuse)
				l, err := p.until(r)
				if err != nil {
					down(t, "without power", err)
					died++
				}
				f.crash(p.d)
				for r.Intn(3) == 0 {
					failsInOpen(t, p.d, r.Rand)
				}
				p = recovers(t, p.d, p.m, l)
				if i%9 == 0 {
					p.settleIfRoom()
					p.check()
				}
			}
			if died < 90 && p.d.Size() > 300 {
				t.Errorf("%d stores died", died)
			}
		})
	}
}

// until makes calls until the power fails, or for a while. If it failed in a Write, it tells its batch.
func (p *life) until(r script) ([]api.Change, error) {
	p.t.Helper()
	for range 30 {
		if r.Intn(3) > 0 {
			l := r.batch()
			if err := p.try(l); errors.Is(err, api.ErrDown) {
				return l, err
			}
			continue
		}
		if r.Intn(3) == 0 {
			p.s.Want()
		}
		if _, err := p.s.Step(); errors.Is(err, api.ErrDown) {
			return nil, err
		}
	}
	return nil, nil
}

// settleIfRoom does all work in the background for which there is room.
func (p *life) settleIfRoom() {
	p.t.Helper()
	p.s.Want()
	for n := 0; p.maybeStep(); n++ {
		if n > 400 {
			p.t.Fatal("it does not come to an end")
		}
	}
}

// P17.7, P17.1: the power fails at every write of an Open, of a disk with files that belong to nothing and with logs behind whose records something stands.
func TestEveryFailureOfOpen(t *testing.T) {
	p := born(t, 500)
	for i := range 4 {
		p.put(strconv.Itoa(i), "a", strings.Repeat("b", 10+i))
		p.flush()
	}
	p.put("5", "a")
	c := p.now(nil)
	r := rand.New(rand.NewSource(3))
	for _, left := range []int{0, 1, 3, 62, 70, 75, 80} {
		made := failure{left, []int{1, 0, 1, 1, 1, 0, 1, 1}, 2, 30}
		d, _ := c.play(t, made)
		sectors := all(t, d)
		for fuse := 0; ; fuse++ {
			opened := false
			for range 2 {
				d := diskOf(t, sectors)
				f := anyFailure(r, fuse)
				d.Fuse(fuse)
				s, err := store.Open(d)
				if opened = err == nil; opened {
					f.crash(d)
					q := &life{t, d, s, &model{c.m.states, map[int]int{}}}
					q.check()
					clean(t, d, s)
				} else {
					down(t, "Open without power", err)
					f.crash(d)
				}
				recovers(t, d, c.m, nil).goesOn(fuse)
			}
			if opened {
				break
			}
		}
	}
}
