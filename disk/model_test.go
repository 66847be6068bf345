package disk_test

import (
	"math/rand"
	"strings"
	"testing"

	"palinode/api"
	"palinode/disk"
)

// made is a write as the model keeps it.
type made struct {
	sector int
	data   string
}

// model is a disk as the chapter's words say, with nothing done quickly.
type model struct {
	durable []string
	cache   []made
	fuse    int
	burning bool
	down    bool
	writes  int
}

func newModel(sectors int) *model {
	m := &model{}
	for range sectors {
		m.durable = append(m.durable, padded(""))
	}
	return m
}

func (m *model) read(sector int) (string, error) {
	if m.down {
		return "", api.ErrDown
	}
	if sector < 0 || sector >= len(m.durable) {
		return "", api.ErrArg
	}
	data := m.durable[sector]
	for _, w := range m.cache {
		if w.sector == sector {
			data = w.data
		}
	}
	return data, nil
}

func (m *model) write(sector int, s string) error {
	if _, err := m.read(sector); err != nil {
		return err
	}
	if len(s) > api.Sector {
		return api.ErrLong
	}
	if m.burning && m.fuse == 0 {
		m.down = true
		return api.ErrDown
	}
	m.fuse--
	m.writes++
	m.cache = append(m.cache, made{sector, padded(s)})
	return nil
}

func (m *model) sync() error {
	if m.down {
		return api.ErrDown
	}
	for _, w := range m.cache {
		m.durable[w.sector] = w.data
	}
	m.cache = nil
	return nil
}

func (m *model) crash(keeps []int, torn, size int) {
	for i, w := range m.cache {
		odd := i < len(keeps) && keeps[i]&1 == 1
		switch {
		case i == torn && size >= api.Sector:
			m.durable[w.sector] = w.data
		case i == torn && size > 0:
			m.durable[w.sector] = w.data[:size] + m.durable[w.sector][size:]
		case i != torn && odd:
			m.durable[w.sector] = w.data
		}
	}
	*m = model{durable: m.durable, writes: m.writes}
}

// script reads bytes as calls; with no bytes left it gives zeros.
type script struct{ b []byte }

func (s *script) next() int {
	if len(s.b) == 0 {
		return 0
	}
	c := s.b[0]
	s.b = s.b[1:]
	return int(c)
}

// text is a string of few different bytes, seldom too long for a sector.
func (s *script) text() string {
	size := s.next() % 70
	return strings.Repeat(string([]byte{byte(s.next())}), size)
}

// play makes the script's calls on a disk and on the model, and holds what they answer against each other (P4.1 to P4.4).
func play(t *testing.T, b []byte) {
	s := &script{b}
	sectors := s.next()%4 + 1
	d, m := newDisk(t, sectors), newModel(sectors)
	for len(s.b) > 0 {
		step(t, s, d, m)
		same(t, d, m)
	}
}

// step makes one call.
func step(t *testing.T, s *script, d *disk.Disk, m *model) {
	t.Helper()
	switch s.next() % 8 {
	default:
		sector, text := s.next()%6-1, s.text()
		if got, want := d.Write(sector, text), m.write(sector, text); got != want {
			t.Fatalf("Write(%d, %q): %v; want %v", sector, text, got, want)
		}
	case 0:
		if got, want := d.Sync(), m.sync(); got != want {
			t.Fatalf("Sync: %v; want %v", got, want)
		}
	case 1:
		n := s.next()%8 - 2
		d.Fuse(n)
		m.fuse, m.burning = n, n >= 0
	case 2:
		keeps := make([]int, s.next()%8)
		for i := range keeps {
			keeps[i] = s.next() - 128
		}
		torn, size := s.next()%8-1, s.next()%68-2
		d.Crash(keeps, torn, size)
		m.crash(keeps, torn, size)
	}
}

// same holds all that a disk tells against the model.
func same(t *testing.T, d *disk.Disk, m *model) {
	t.Helper()
	if d.Size() != len(m.durable) || d.Down() != m.down || d.Writes() != m.writes {
		t.Fatalf("%d sectors, down %t, %d writes; want %d, %t, %d", d.Size(), d.Down(), d.Writes(), len(m.durable), m.down, m.writes)
	}
	for sector := -1; sector <= len(m.durable); sector++ {
		got, err := d.Read(sector)
		want, wantErr := m.read(sector)
		if got != want || err != wantErr {
			t.Fatalf("Read(%d) = %q, %v; want %q, %v", sector, got, err, want, wantErr)
		}
	}
}

// P4.1, P4.2, P4.3: long scripts of calls in no order, the same ones each time.
func TestScripts(t *testing.T) {
	source := rand.New(rand.NewSource(4))
	for range 3000 {
		b := make([]byte, source.Intn(400))
		source.Read(b)
		play(t, b)
	}
}

// P4.1, P4.2, P4.3: whatever the fuzzer finds (without it, the seeds).
func FuzzScript(f *testing.F) {
	f.Add([]byte{})
	f.Add([]byte("\x01\x03\x01\x02a\x00\x03\x01\x04c\x02\x00\x01\x03"))
	f.Add([]byte("\x01\x01\x03\x03\x02\x01x\x03\x02\x01y\x02\x02\x81\x01\x00\x00"))
	f.Fuzz(play)
}

// P4.3, P4.4: every crash of a cache of four writes to two sectors: each choice of those kept, each torn one, a few cuts.
func TestEveryCrash(t *testing.T) {
	for where := range 16 {
		for kept := range 16 {
			for torn := -1; torn <= 4; torn++ {
				for _, size := range []int{-1, 0, 1, 2, 3, api.Sector - 1, api.Sector, api.Sector + 1} {
					crashOnce(t, where, kept, torn, size)
				}
			}
		}
	}
}

// crashOnce makes a crash: write i goes to the sector that bit i of where tells, and is kept if bit i of kept is set.
func crashOnce(t *testing.T, where, kept, torn, size int) {
	t.Helper()
	d, m := newDisk(t, 2), newModel(2)
	for sector := range 2 {
		write(t, d, sector, "old old old")
		m.write(sector, "old old old")
	}
	sync(t, d)
	m.sync()
	keeps := make([]int, 4)
	for i, s := range []string{"aaa", "b", "", strings.Repeat("d", api.Sector)} {
		write(t, d, where>>i&1, s)
		m.write(where>>i&1, s)
		keeps[i] = kept >> i
	}
	d.Crash(keeps, torn, size)
	m.crash(keeps, torn, size)
	same(t, d, m)
	// A second crash finds nothing to lose.
	d.Crash(nil, 0, 1)
	same(t, d, m)
}

// P4.4: what was synced outlasts all crashes until it is written again.
func TestSyncedOutlasts(t *testing.T) {
	source := rand.New(rand.NewSource(44))
	d := newDisk(t, 8)
	for round := range 200 {
		want := string([]byte{byte(round), 1, byte(round)})
		write(t, d, 3, want)
		sync(t, d)
		for range 5 {
			d.Fuse(source.Intn(6))
			for range 6 {
				sector := source.Intn(8)
				if sector != 3 {
					d.Write(sector, strings.Repeat("x", source.Intn(api.Sector+1)))
				}
			}
			d.Crash([]int{source.Int(), source.Int(), source.Int(), source.Int()}, source.Intn(6), source.Intn(api.Sector+1))
			if got, err := d.Read(3); got != padded(want) || err != nil {
				t.Fatalf("round %d: Read(3) = %q, %v; want %q", round, got, err, want)
			}
		}
	}
}

// P4.4: behind a crash a sector is what one write, or what was durable, left of it, but for the first bytes of at most one torn write.
func TestMixture(t *testing.T) {
	source := rand.New(rand.NewSource(45))
	d := newDisk(t, 1)
	held := padded("")
	for range 2000 {
		whole := []string{held}
		for range source.Intn(5) {
			s := strings.Repeat(string([]byte{byte('a' + source.Intn(26))}), source.Intn(api.Sector+1))
			write(t, d, 0, s)
			whole = append(whole, padded(s))
		}
		d.Crash([]int{source.Int(), source.Int(), source.Int(), source.Int()}, source.Intn(6)-1, source.Intn(api.Sector+3)-1)
		got, err := d.Read(0)
		if err != nil || !mixed(got, whole) {
			t.Fatalf("Read(0) = %q, %v: no mixture of %q", got, err, whole)
		}
		held = got
	}
}

// mixed tells whether s is one of the strings from some place on, and one of them up to it.
func mixed(s string, whole []string) bool {
	for _, head := range whole {
		for _, tail := range whole {
			for cut := range api.Sector + 1 {
				if s == head[:cut]+tail[cut:] {
					return true
				}
			}
		}
	}
	return false
}

// P1: many writes without a Sync, and many reads among them, end soon.
func TestManyUnsynced(t *testing.T) {
	d := newDisk(t, 2)
	for range 300000 {
		write(t, d, 1, "a")
		if _, err := d.Read(0); err != nil {
			t.Fatal(err)
		}
	}
	d.Crash(make([]int, 300000), 299999, 1)
	holds(t, d, "", "a")
}
