package store_test

import (
	"errors"
	"maps"
	"math/rand"
	"slices"
	"strings"
	"testing"

	"palinode/api"
	"palinode/disk"
	"palinode/store"
)

// state is the newest entry of each key that has a value.
type state map[string]api.Entry

// model is a store as the chapter's words say, which forgets nothing.
type model struct {
	states []state // behind each change; the first one, behind none, is empty
	held   map[int]int
}

func newModel() *model { return &model{states: []state{{}}, held: map[int]int{}} }

// seq is how many batches were written.
func (m *model) seq() int { return len(m.states) - 1 }

// write writes a batch.
func (m *model) write(l []api.Change) {
	next := maps.Clone(m.states[m.seq()])
	for _, c := range l {
		delete(next, c.Key)
		if !c.Drop {
			next[c.Key] = api.Entry{Key: c.Key, Seq: m.seq() + 1, Value: c.Value}
		}
	}
	m.states = append(m.states, next)
}

// at is the state behind a change.
func (m *model) at(seq int) state { return m.states[min(seq, m.seq())] }

// scan is what Scan answers.
func (m *model) scan(from, to string, seq, most int) []api.Entry {
	var l []api.Entry
	for _, key := range slices.Sorted(maps.Keys(m.at(seq))) {
		if key >= from && (to == "" || key < to) && len(l) < most {
			l = append(l, m.at(seq)[key])
		}
	}
	return l
}

// seqs is the numbers at which something is promised.
func (m *model) seqs() []int {
	return append(slices.Sorted(maps.Keys(m.held)), m.seq(), m.seq()+1)
}

// keys is all keys that ever had a value, and some others.
func (m *model) keys() []string {
	all := state{"": {}, "\x00": {}, "no": {}, "\xff": {}, strings.Repeat("k", 81): {}}
	for _, s := range m.states {
		maps.Copy(all, s)
	}
	return slices.Sorted(maps.Keys(all))
}

// life is a store and its model.
type life struct {
	t *testing.T
	d *disk.Disk
	s *store.Store
	m *model
}

// born is the life of a new store on a disk of so many sectors.
func born(t *testing.T, sectors int) *life {
	t.Helper()
	d := newDisk(t, sectors)
	s, err := store.Format(d)
	fine(t, "Format", err)
	return &life{t, d, s, newModel()}
}

// write writes a batch, which must succeed.
func (p *life) write(l ...api.Change) {
	p.t.Helper()
	fine(p.t, "Write", p.try(l))
}

// try writes a batch, which may lack room or power; the model gets it if it was written.
func (p *life) try(l []api.Change) error {
	p.t.Helper()
	n, err := p.s.Write(l)
	if err == nil {
		p.m.write(l)
	}
	if err == nil && n != p.m.seq() || err != nil && n != 0 {
		p.t.Fatalf("Write = %d, %v; the model is at %d", n, err, p.m.seq())
	}
	return err
}

// put writes keys with a value.
func (p *life) put(value string, keys ...string) {
	p.t.Helper()
	p.write(puts(value, keys...)...)
}

// snap takes a snapshot.
func (p *life) snap() int {
	p.t.Helper()
	n := p.s.Snap()
	if n != p.m.seq() {
		p.t.Fatalf("Snap = %d; want %d", n, p.m.seq())
	}
	p.m.held[n]++
	return n
}

// free lets go of a snapshot.
func (p *life) free(seq int) {
	p.t.Helper()
	want := p.m.held[seq] > 0
	if got := p.s.Free(seq); got != want {
		p.t.Fatalf("Free(%d) = %t; want %t", seq, got, want)
	}
	if p.m.held[seq]--; p.m.held[seq] <= 0 {
		delete(p.m.held, seq)
	}
}

// step makes a step, which must succeed.
func (p *life) step() bool {
	p.t.Helper()
	more, err := p.s.Step()
	fine(p.t, "Step", err)
	return more
}

// rest makes steps until there is nothing to do, and tells how many did something.
func (p *life) rest() int {
	p.t.Helper()
	n := 0
	for ; p.step(); n++ {
		if n >= 400 {
			p.t.Fatal("it does not come to an end")
		}
	}
	return n
}

// settle does all work in the background.
func (p *life) settle() int {
	p.t.Helper()
	p.s.Want()
	return p.rest()
}

// flush makes a step that is a flush.
func (p *life) flush() {
	p.t.Helper()
	was := p.s.Version()
	p.s.Want()
	if !p.step() || len(level(p.s, 0)) != 1+countLevel(was, 0) {
		p.t.Fatalf("no flush: %v, then %v", was, p.s.Version())
	}
}

// reopen opens the store anew. Snapshots do not outlast that.
func (p *life) reopen() {
	p.t.Helper()
	s, err := store.Open(p.d)
	fine(p.t, "Open", err)
	p.s = s
	p.m.held = map[int]int{}
}

// check holds what the store tells against the model.
func (p *life) check() {
	p.t.Helper()
	if p.s.Seq() != p.m.seq() || p.s.Dead() {
		p.t.Fatalf("Seq %d, dead %t; want %d", p.s.Seq(), p.s.Dead(), p.m.seq())
	}
	keys := p.m.keys()
	for _, seq := range p.m.seqs() {
		p.sameScan("", "", seq, 1<<63-1)
		for _, key := range keys {
			p.sameGet(key, seq)
		}
	}
	onDisk(p.t, p.d, p.s)
}

// sameGet holds a Get against the model.
func (p *life) sameGet(key string, seq int) {
	p.t.Helper()
	want, has := p.m.at(seq)[key]
	value, ok, err := p.s.Get(key, seq)
	if value != want.Value || ok != has || err != nil {
		p.t.Fatalf("Get(%q, %d) = %q, %t, %v; want %q, %t", key, seq, value, ok, err, want.Value, has)
	}
}

// sameScan holds a Scan against the model.
func (p *life) sameScan(from, to string, seq, most int) {
	p.t.Helper()
	want := p.m.scan(from, to, seq, most)
	l, err := p.s.Scan(from, to, seq, most)
	if !slices.Equal(l, want) || err != nil {
		p.t.Fatalf("Scan(%q, %q, %d, %d) = %v, %v; want %v", from, to, seq, most, l, err, want)
	}
}

// script is a source of calls for a life.
type script struct {
	*rand.Rand
	keys, value int // how many keys there are, how long a value may be
	long        int // how long a key is at least
}

// key is any key.
func (r script) key() string {
	n := r.Intn(r.keys)
	return strings.Repeat(string([]byte{byte('a' + n%23), byte(n)}), 1+r.long/2)
}

// batch is any batch.
func (r script) batch() []api.Change {
	many := 1 + r.Intn(4)
	if r.Intn(9) == 0 {
		many = 1 + r.Intn(api.MaxBatch)
	}
	var l []api.Change
	for range many {
		c := api.Change{Key: r.key()}
		if slices.ContainsFunc(l, func(o api.Change) bool { return o.Key == c.Key }) {
			continue
		}
		if r.Intn(4) == 0 {
			c.Drop = true
		} else {
			c.Value = strings.Repeat(string([]byte{byte(r.Intn(256))}), r.Intn(r.value+1))
		}
		l = append(l, c)
	}
	return l
}

// act makes any call. A store may lack room; then nothing has changed.
func (p *life) act(r script) {
	p.t.Helper()
	switch n := r.Intn(20); {
	case n < 9:
		err := p.try(r.batch())
		if err != nil && !errors.Is(err, api.ErrStall) && !errors.Is(err, api.ErrLong) {
			p.t.Fatalf("Write: %v", err)
		}
	case n < 13:
		p.maybeStep()
	case n < 14:
		p.s.Want()
	case n < 15:
		if len(p.m.held) < 5 {
			p.snap()
		}
	case n < 17:
		p.free(p.m.seq() - r.Intn(20))
	case n < 19:
		p.sameScan(r.key(), r.key(), p.m.seqs()[r.Intn(len(p.m.seqs()))], r.Intn(9))
		p.sameScan(r.key(), "", p.m.seq(), r.Intn(3))
		p.sameGet(r.key(), p.m.seqs()[r.Intn(len(p.m.seqs()))])
	default:
		p.reopen()
	}
}

// maybeStep makes a step, which may lack room.
func (p *life) maybeStep() bool {
	p.t.Helper()
	more, err := p.s.Step()
	if err != nil && (more || !errors.Is(err, api.ErrFull)) {
		p.t.Fatalf("Step = %t, %v", more, err)
	}
	return more
}

// scripts are sources of calls of different kinds.
func scripts(seed int64) []script {
	r := rand.New(rand.NewSource(seed))
	return []script{{r, 20, 10, 0}, {r, 200, 40, 0}, {r, 100, 300, 0}, {r, 250, 20, 79}, {r, 3, 3, 0}}
}

// P17.2 to P17.6, T4: long scripts of calls, on disks with much room and with little.
func TestScripts(t *testing.T) {
	for _, sectors := range []int{158, 240, 330, 600, 1500, 4000} {
		for i := range scripts(0) {
			t.Run("", func(t *testing.T) {
				t.Parallel()
				r := scripts(int64(sectors))[i]
				p := born(t, sectors)
				for n := range 600 {
					p.act(r)
					if n%40 == 0 {
						p.check()
					}
				}
				p.check()
				p.reopen()
				p.check()
			})
		}
	}
}

// P4: the same calls leave the same bytes on the disk, whatever is held.
func TestSameCallsSameBytes(t *testing.T) {
	for i := range scripts(0) {
		var first []string
		for range 4 {
			r := scripts(4)[i]
			p := born(t, 600)
			for range 300 {
				p.act(r)
				if r.Intn(5) == 0 {
					p.snap()
				}
			}
			if got := all(t, p.d); first == nil {
				first = got
			} else if !slices.Equal(got, first) {
				t.Fatalf("script %d: the disk has other bytes", i)
			}
		}
	}
}

// P17.2 to P17.7: calls that are made from any bytes.
func FuzzScript(f *testing.F) {
	f.Add([]byte("abcdefghijklmnop"), uint16(300))
	f.Add([]byte(strings.Repeat("az\x00", 60)), uint16(1500))
	f.Add([]byte(strings.Repeat("az", 9)+strings.Repeat("\xfe\xf0", 9)), uint16(240))
	f.Fuzz(func(t *testing.T, b []byte, size uint16) {
		p := born(t, 158+int(size)%1400)
		for i, c := range b[:min(len(b), 300)] {
			key := string([]byte{c%16 + 'a', byte(i % 3)})
			switch {
			case c < 160:
				if err := p.try(puts(strings.Repeat("v", int(c)), key)); err != nil && !errors.Is(err, api.ErrStall) {
					t.Fatal(err)
				}
			case c < 180:
				if err := p.try([]api.Change{{Key: key, Drop: true}, {Key: key + "b", Value: "w"}}); err != nil && !errors.Is(err, api.ErrStall) {
					t.Fatal(err)
				}
			case c < 220:
				p.maybeStep()
			case c < 235:
				p.s.Want()
			case c < 240:
				p.snap()
			case c < 245:
				p.free(p.m.seq() - int(c)%5)
			case c < 250:
				p.check()
			default:
				p.d.Crash(nil, -1, 0)
				p.reopen()
			}
		}
		p.check()
	})
}
