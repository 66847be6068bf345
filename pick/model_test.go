package pick_test

import (
	"math"
	"math/rand"
	"slices"
	"strings"
	"testing"

	"palinode/api"
	"palinode/block"
	"palinode/pick"
	"palinode/version"
)

// shares tells whether a table has its least key, its greatest one or all of them between least and greatest.
func shares(m api.Meta, least, greatest string) bool {
	return least <= m.Min && m.Min <= greatest || least <= m.Max && m.Max <= greatest || m.Min < least && greatest < m.Max
}

// ends is the least and the greatest one of the keys at which the tables with some IDs begin and end.
func ends(v api.Version, ids []int) (string, string) {
	var keys []string
	for _, m := range v.Tables {
		if slices.Contains(ids, m.ID) {
			keys = append(keys, m.Min, m.Max)
		}
	}
	slices.Sort(keys)
	return keys[0], keys[len(keys)-1]
}

// modelIn is the level that is compacted, and its tables in the job; no tables if there is nothing to compact.
func modelIn(v api.Version) (int, []int) {
	var ids [api.MaxLevels][]int
	var bytes [api.MaxLevels]int
	for _, m := range v.Tables {
		ids[m.Level] = append(ids[m.Level], m.ID)
		bytes[m.Level] += m.Bytes
	}
	switch {
	case len(ids[0]) > 2:
		return 0, ids[0]
	case bytes[1] > 4000:
		return 1, ids[1][:1]
	case bytes[2] > 16000:
		return 2, ids[2][:1]
	}
	return 0, nil
}

// modelPick is Pick as the chapter's words say.
func modelPick(v api.Version) (api.Job, bool) {
	if !version.Right(v) {
		return api.Job{}, false
	}
	level, in := modelIn(v)
	if in == nil {
		return api.Job{}, false
	}
	job := api.Job{Level: level, In: in, Bottom: true}
	least, greatest := ends(v, in)
	for _, m := range v.Tables {
		if m.Level == level+1 && shares(m, least, greatest) {
			job.Under = append(job.Under, m.ID)
		}
	}
	least, greatest = ends(v, slices.Concat(in, job.Under))
	for _, m := range v.Tables {
		if m.Level >= level+2 && shares(m, least, greatest) {
			job.Bottom = false
		}
	}
	return job, true
}

// samePick holds Pick against the model, and tells whether there was a job.
func samePick(t *testing.T, v api.Version) bool {
	t.Helper()
	want, wantOK := modelPick(v)
	got, ok := pick.Pick(v)
	if !sameJob(got, want) || ok != wantOK {
		t.Fatalf("Pick(%v) = %v, %t; want %v, %t", v, got, ok, want, wantOK)
	}
	return ok
}

// sizes is how many entries the pieces of a list have, as the chapter's words say: entry by entry.
func sizes(l []api.Entry, many int) []int {
	var out []int
	size := 0
	for i, e := range l {
		size++
		if i == len(l)-1 || size >= many && l[i+1].Key != e.Key {
			out = append(out, size)
			size = 0
		}
	}
	return out
}

// layers is all lists of tables of a level with the keys a to c, in order, none of which share a key.
func layers(first, level int) [][]api.Meta {
	var out [][]api.Meta
	var extend func(l []api.Meta, from byte)
	extend = func(l []api.Meta, from byte) {
		out = append(out, l)
		for least := from; least <= 'c'; least++ {
			for greatest := least; greatest <= 'c'; greatest++ {
				extend(append(slices.Clip(l), of(first+len(l), level, string([]byte{least, greatest}), 1)), greatest+1)
			}
		}
	}
	extend(nil, 'a')
	return out
}

// heavy is some tables, the last one of them with so many bytes.
func heavy(l []api.Meta, bytes int) []api.Meta {
	l = slices.Clone(l)
	if len(l) > 0 {
		l[len(l)-1].Bytes = bytes
	}
	return l
}

// P16.2: all versions with up to three tables of level 0 and all lists of tables below them, of the keys a to c.
func TestEverySmallLevelZero(t *testing.T) {
	var tops [][]api.Meta
	spans := []string{"aa", "ab", "ac", "bb", "bc", "cc"}
	for i, a := range spans {
		tops = append(tops, []api.Meta{of(1, 0, a, 1)})
		for j, b := range spans[:i+1] {
			tops = append(tops, []api.Meta{of(1, 0, a, 1), of(2, 0, b, 1)})
			for _, c := range spans[:j+1] {
				tops = append(tops, []api.Meta{of(1, 0, b, 1), of(2, 0, a, 1), of(3, 0, c, 1)})
			}
		}
	}
	jobs := 0
	for _, one := range layers(11, 1) {
		for _, two := range layers(21, 2) {
			for _, three := range layers(31, 3) {
				below := slices.Concat(one, two, three)
				for _, top := range tops {
					if samePick(t, with(slices.Concat(top, below)...)) {
						jobs++
					}
				}
			}
		}
	}
	if want := 13 * 13 * 13 * 56; jobs != want {
		t.Errorf("%d jobs; want %d", jobs, want)
	}
}

// P16.2: all lists of tables of the levels 1 to 3, of the keys a to c, with bytes around the limits.
func TestEverySmallFullLevel(t *testing.T) {
	for _, one := range layers(11, 1) {
		for _, two := range layers(21, 2) {
			for _, three := range layers(31, 3) {
				for light := range 3 {
					for bytes := 3997; bytes < 4003; bytes++ {
						v := with(slices.Concat(loose()[:light], heavy(one, bytes), two, heavy(three, 20000))...)
						samePick(t, v)
						v = with(slices.Concat(loose()[:light], one, heavy(two, bytes+12000), three)...)
						samePick(t, v)
					}
				}
			}
		}
	}
}

// P16.3: all lists of up to ten entries with two keys, cut into pieces of all sizes.
func TestEverySmallCut(t *testing.T) {
	for many := 1; many < 13; many++ {
		for size := range 11 {
			for n := range 1 << size {
				keys := ""
				for at := range size {
					keys += string("ab"[n>>at&1])
				}
				l := entries(keys)
				cuts(t, l, many, sizes(l, many)...)
			}
		}
	}
}

// script is bytes that say which tables or entries there are; behind its end it says zeros.
type script struct{ b []byte }

func (s *script) next() int {
	if len(s.b) == 0 {
		return 0
	}
	c := s.b[0]
	s.b = s.b[1:]
	return int(c)
}

// far is a number at a limit, or beyond it.
func (s *script) far() int {
	l := []int{0, -1, math.MinInt, math.MaxInt, 1, 4, 200, api.MaxNumber, api.MaxNumber + 1, api.MaxText, api.MaxText + 1}
	return l[s.next()%len(l)]
}

// key is a short key, mostly.
func (s *script) key() string {
	switch c := s.next(); c {
	case 0:
		return strings.Repeat("k", 79+s.next()%3)
	case 1:
		return "\xff"
	case 2:
		return ""
	default:
		return string([]byte{byte('a' + c%26), byte('a' + s.next()%26)}[:1+c%2])
	}
}

// table is a table of one of the levels.
func (s *script) table(id int) api.Meta {
	m := api.Meta{ID: id, Level: s.next() % 4, Min: s.key(), Max: s.key(), Bytes: 1 + s.next()*(1+s.next()%64)}
	if s.next()%2 == 0 {
		m.Max = m.Min
	}
	if m.Min > m.Max {
		m.Min, m.Max = m.Max, m.Min
	}
	switch s.next() {
	case 1:
		m.Bytes = s.far()
	case 2:
		m.Level = s.far()
	case 3:
		m.ID = s.far()
	}
	return m
}

// version is some tables and logs. Each table comes to the others, if it can; at the end one of them may be bent.
func (s *script) version() api.Version {
	v := api.Version{Logs: []int{1000}, Seq: s.next()}
	for range s.next() % 40 {
		m := s.table(1 + s.next()*3 + s.next()%3)
		if w, err := version.Apply(v, api.Edit{Add: []api.Meta{m}}); err == nil {
			v = w
		}
	}
	if s.next() < 230 || len(v.Tables) == 0 {
		return v
	}
	i, j := s.next()%len(v.Tables), s.next()%len(v.Tables)
	switch s.next() % 4 {
	case 0:
		v.Tables[i], v.Tables[j] = v.Tables[j], v.Tables[i]
	case 1:
		v.Tables[i] = s.table(v.Tables[i].ID)
	case 2:
		v.Tables[i].ID = v.Tables[j].ID
	case 3:
		v.Seq = s.far()
	}
	return v
}

// compact holds all jobs of a version against the model, one after the other until nothing is left to compact or there are no more bytes. It tells how many there were.
func compact(t *testing.T, b []byte) (jobs int) {
	t.Helper()
	s := script{b}
	v := s.version()
	for samePick(t, v) && len(s.b) > 0 {
		jobs++
		job, _ := pick.Pick(v)
		v = done(t, v, job, s.key(), 2000+2*jobs)
	}
	return jobs
}

// P16.2: versions of all kinds, the same ones each time.
func TestVersions(t *testing.T) {
	source := rand.New(rand.NewSource(16))
	jobs := 0
	for range 20000 {
		b := make([]byte, source.Intn(600))
		source.Read(b)
		jobs += compact(t, b)
	}
	if jobs < 10000 {
		t.Errorf("%d jobs: too few", jobs)
	}
}

// P16.2: versions that the fuzzer finds (without it, the seeds).
func FuzzVersion(f *testing.F) {
	f.Add([]byte{})
	f.Add([]byte("\x05\x03\x01\x00\x00\x05\x05\x05\x05\x09\x01\x01\x05\x02\x00\x00\x05\x05\x05\x05\x09\x01\x01\x05\x03\x00\x00\x05\x05\x05\x05\x09\x01\x01\x05\x00"))
	f.Add([]byte("\x05\x02\x01\x00\x01\x05\x05\x07\x05\xff\x3f\x01\x05\x02\x00\x02\x05\x05\x09\x05\xff\x01\x01\x05\x00"))
	f.Fuzz(func(t *testing.T, b []byte) { compact(t, b) })
}

// cut makes a list of b, and holds its pieces against the model. Sorted lists have pieces that share no key.
func cut(t *testing.T, b []byte, many int) {
	s := script{b}
	var l []api.Entry
	sorted := s.next()%2 == 0
	for len(s.b) > 0 && len(l) < 3000 {
		l = append(l, api.Entry{Key: string([]byte{byte('a' + s.next()%6)}), Seq: 1 + s.next(), Value: string(s.b[:min(1, len(s.b))])})
	}
	if sorted {
		slices.SortFunc(l, func(x, y api.Entry) int {
			if x.Key != y.Key {
				return strings.Compare(x.Key, y.Key)
			}
			return y.Seq - x.Seq
		})
		l = slices.CompactFunc(l, func(x, y api.Entry) bool { return x.Key == y.Key && x.Seq == y.Seq })
	}
	if many < 1 {
		refuses(t, l, many)
		return
	}
	cuts(t, l, many, sizes(l, many)...)
	pieces, _ := pick.Cut(l, many)
	for i, p := range pieces {
		if sorted && (!block.Sorted(p) || i > 0 && pieces[i-1][len(pieces[i-1])-1].Key >= p[0].Key) {
			t.Fatalf("Cut(%v, %d): piece %d is %v behind %v", l, many, i, p, pieces[i-1])
		}
	}
}

// P16.3: lists of all kinds, the same ones each time.
func TestLists(t *testing.T) {
	source := rand.New(rand.NewSource(163))
	for range 5000 {
		b := make([]byte, source.Intn(200))
		source.Read(b)
		for _, many := range []int{1, 2, 1 + source.Intn(20), 1 + source.Intn(200), -source.Intn(9), math.MaxInt - source.Intn(300)} {
			cut(t, b, many)
		}
	}
}

// P16.3: lists that the fuzzer finds (without it, the seeds).
func FuzzCut(f *testing.F) {
	f.Add([]byte{}, 1)
	f.Add([]byte("\x00\x01\x02\x01\x01\x02\x03\x03\x04"), 1)
	f.Add([]byte("\x01\x01\x02\x01\x01\x02\x03\x01\x04"), 2)
	f.Add([]byte("\x00\x01\x02"), 0)
	f.Add([]byte("\x00\x01\x02\x02\x02"), math.MaxInt)
	f.Fuzz(cut)
}
