package version_test

import (
	"math"
	"math/rand"
	"slices"
	"strings"
	"testing"

	"palinode/api"
	"palinode/version"
)

// describable is what the chapter's words say of the description of a table.
func describable(m api.Meta) bool {
	return m.ID >= 1 && m.ID <= 1<<53-1 && m.Level >= 0 && m.Level <= 3 &&
		len(m.Min) >= 1 && len(m.Min) <= 80 && len(m.Max) >= 1 && len(m.Max) <= 80 && !(m.Min > m.Max) &&
		m.Bytes >= 1 && m.Bytes <= 1<<20
}

// valid is what the chapter's words say of a version, with each table held against each other one.
func valid(v api.Version) bool {
	if len(v.Tables) > 200 || len(v.Logs) > 20 || v.Seq < 0 || v.Seq > 1<<53-1 {
		return false
	}
	for _, id := range v.Logs {
		if id < 1 || id > 1<<53-1 {
			return false
		}
	}
	for i, b := range v.Tables {
		if !describable(b) {
			return false
		}
		for _, a := range v.Tables[:i] {
			if a.Level > b.Level || a.Level == 0 && b.Level == 0 && a.ID > b.ID {
				return false
			}
			if a.Level == b.Level && a.Level > 0 && (a.Min > b.Min || !(a.Max < b.Min || b.Max < a.Min)) {
				return false
			}
		}
	}
	return !repeats(idsOf(v))
}

// idsOf is the IDs of a version, in no order.
func idsOf(v api.Version) []int {
	var l []int
	for _, m := range v.Tables {
		l = append(l, m.ID)
	}
	return append(l, v.Logs...)
}

// repeats tells whether a number comes twice.
func repeats(l []int) bool {
	for i, n := range l {
		if slices.Contains(l[:i], n) {
			return true
		}
	}
	return false
}

// ahead is what the chapter's words say of the place of two tables in a new version.
func ahead(a, b api.Meta) bool {
	if a.Level != b.Level {
		return a.Level < b.Level
	}
	if a.Level == 0 || a.Min == b.Min {
		return a.ID < b.ID
	}
	return a.Min < b.Min
}

// modelApply is what the chapter's words say of a version behind an edit.
func modelApply(v api.Version, e api.Edit) (api.Version, error) {
	if !valid(v) {
		return api.Version{}, api.ErrArg
	}
	for _, id := range e.Drop {
		if !slices.ContainsFunc(v.Tables, func(m api.Meta) bool { return m.ID == id }) {
			return api.Version{}, api.ErrNone
		}
	}
	for _, id := range e.DropLogs {
		if !slices.Contains(v.Logs, id) {
			return api.Version{}, api.ErrNone
		}
	}
	if repeats(e.Drop) || repeats(e.DropLogs) {
		return api.Version{}, api.ErrNone
	}
	w := api.Version{Seq: v.Seq}
	if e.Seq > v.Seq {
		w.Seq = e.Seq
	}
	var tables []api.Meta
	for _, m := range v.Tables {
		if !slices.Contains(e.Drop, m.ID) {
			tables = append(tables, m)
		}
	}
	for _, m := range append(tables, e.Add...) {
		at := 0
		for at < len(w.Tables) && !ahead(m, w.Tables[at]) {
			at++
		}
		w.Tables = slices.Insert(w.Tables, at, m)
	}
	for _, id := range v.Logs {
		if !slices.Contains(e.DropLogs, id) {
			w.Logs = append(w.Logs, id)
		}
	}
	w.Logs = append(w.Logs, e.AddLogs...)
	if repeats(idsOf(w)) {
		return api.Version{}, api.ErrExists
	}
	if !valid(w) {
		return api.Version{}, api.ErrArg
	}
	return w, nil
}

// num is a number as bytes, as chapter 1 writes it; one below 0 has eight digits, which no number has.
func num(n int) string {
	var digits []byte
	for u := uint64(n); u > 0; u /= 256 {
		digits = append([]byte{byte(u % 256)}, digits...)
	}
	return string([]byte{byte(len(digits))}) + string(digits)
}

// bytesOf is the bytes of an edit, be it within the limits or not.
func bytesOf(e api.Edit) string {
	text := func(s string) string { return num(len(s)) + s }
	b := num(len(e.Add))
	for _, m := range e.Add {
		b += num(m.ID) + num(m.Level) + text(m.Min) + text(m.Max) + num(m.Bytes)
	}
	for _, l := range [][]int{e.Drop, e.AddLogs, e.DropLogs} {
		b += num(len(l))
		for _, n := range l {
			b += num(n)
		}
	}
	return b + num(e.Seq)
}

// encodable is what the chapter's words say of an edit that has an encoding.
func encodable(e api.Edit) bool {
	for _, n := range slices.Concat(e.Drop, e.AddLogs, e.DropLogs, []int{e.Seq}) {
		if n < 0 || n > 1<<53-1 {
			return false
		}
	}
	for _, m := range e.Add {
		if !describable(m) {
			return false
		}
	}
	return len(e.Add) <= 200 && len(e.Drop) <= 200 && len(e.AddLogs) <= 20 && len(e.DropLogs) <= 20
}

// bytesIn takes numbers and texts from the front of bytes, as chapter 1 reads them.
type bytesIn struct {
	b   string
	bad bool
}

func (in *bytesIn) take(n int) string {
	if n < 0 || n > len(in.b) {
		in.bad = true
		return ""
	}
	s := in.b[:n]
	in.b = in.b[n:]
	return s
}

func (in *bytesIn) num() int {
	size := in.take(1)
	if in.bad || size[0] > 7 {
		in.bad = true
		return 0
	}
	digits := in.take(int(size[0]))
	n := 0
	for _, digit := range []byte(digits) {
		n = n*256 + int(digit)
	}
	if digits != "" && digits[0] == 0 || n > 1<<53-1 {
		in.bad = true
		return 0
	}
	return n
}

// modelDecode is the edit that bytes are, and whether they are one.
func modelDecode(b string) (api.Edit, bool) {
	in := &bytesIn{b: b}
	var e api.Edit
	for many := in.num(); many > 0 && !in.bad; many-- {
		m := api.Meta{ID: in.num(), Level: in.num()}
		m.Min = in.take(in.num())
		m.Max = in.take(in.num())
		m.Bytes = in.num()
		e.Add = append(e.Add, m)
	}
	for _, l := range []*[]int{&e.Drop, &e.AddLogs, &e.DropLogs} {
		for many := in.num(); many > 0 && !in.bad; many-- {
			*l = append(*l, in.num())
		}
	}
	e.Seq = in.num()
	if in.bad || in.b != "" || !encodable(e) {
		return api.Edit{}, false
	}
	return e, true
}

// agrees holds what the calls tell of a version against the model (P14.1, P14.2, P14.4).
func agrees(t *testing.T, v api.Version) {
	t.Helper()
	if got, want := version.Right(v), valid(v); got != want {
		t.Fatalf("Right(%v) = %t; want %t", v, got, want)
	}
	live := idsOf(v)
	slices.Sort(live)
	if got := version.Live(v); !slices.Equal(got, live) {
		t.Fatalf("Live(%v) = %v; want %v", v, got, live)
	}
	for n := -2; n < 7; n++ {
		var want []api.Meta
		for _, m := range v.Tables {
			if m.Level == n {
				want = append(want, m)
			}
		}
		if got := version.Level(v, n); !slices.Equal(got, want) {
			t.Fatalf("Level(%v, %d) = %v; want %v", v, n, got, want)
		}
	}
	e := version.Whole(v)
	if !sameEdit(e, api.Edit{Add: v.Tables, AddLogs: v.Logs, Seq: v.Seq}) {
		t.Fatalf("Whole(%v) = %v", v, e)
	}
	if w, err := version.Apply(api.Version{}, e); valid(v) && (!sameVersion(w, v) || err != nil) {
		t.Fatalf("Apply of Whole(%v) = %v, %v", v, w, err)
	}
}

// applies holds a version behind an edit against the model (P14.2), and tells it.
func applies(t *testing.T, v api.Version, e api.Edit) (api.Version, error) {
	t.Helper()
	want, wantErr := modelApply(v, e)
	got, err := version.Apply(v, e)
	if !sameVersion(got, want) || err != wantErr {
		t.Fatalf("Apply(%v, %v) = %v, %v; want %v, %v", v, e, got, err, want, wantErr)
	}
	return got, err
}

// encodes holds the bytes of an edit against the model, and checks that they are read as the edit (P14.3, P14.4).
func encodes(t *testing.T, e api.Edit) {
	t.Helper()
	b, err := version.Encode(e)
	if !encodable(e) {
		if b != "" || err != api.ErrArg {
			t.Fatalf("Encode(%v) = %x, %v; want nothing, ErrArg", e, b, err)
		}
		return
	}
	if want := bytesOf(e); b != want || err != nil {
		t.Fatalf("Encode(%v) = %x, %v; want %x", e, b, err, want)
	}
	if got, err := version.Decode(b); !sameEdit(got, e) || err != nil {
		t.Fatalf("Decode(%x) = %v, %v; want %v", b, got, err, e)
	}
}

// decodes holds the edit of some bytes against the model, and checks that it is written as these bytes (P14.3, P14.4).
func decodes(t *testing.T, b string) {
	t.Helper()
	want, ok := modelDecode(b)
	e, err := version.Decode(b)
	if !sameEdit(e, want) || (err == nil) != ok || err != nil && err != api.ErrForm {
		t.Fatalf("Decode(%.300x) = %v, %v; want %v, %t", b, e, err, want, ok)
	}
	if again, err := version.Encode(e); ok && (again != b || err != nil) {
		t.Fatalf("Encode(%v) = %x, %v; want %x", e, again, err, b)
	}
}

// P14.1, P14.2: all versions of up to three tables out of a few small ones, valid or not, with some logs, and those that they make when they are added.
func TestEverySmall(t *testing.T) {
	var all []api.Meta
	for id := 1; id <= 3; id++ {
		for level := range 3 {
			for _, keys := range []string{"aa", "ab", "bb", "bc"} {
				all = append(all, table(id, level, keys[:1], keys[1:]))
			}
		}
	}
	each := func(l ...api.Meta) {
		agrees(t, api.Version{Tables: l})
		applies(t, api.Version{}, api.Edit{Add: l})
	}
	each()
	for _, a := range all {
		each(a)
		for _, b := range all {
			each(a, b)
			for _, logs := range [][]int{{1}, {3, 2}, {4, 4}} {
				agrees(t, api.Version{Tables: []api.Meta{a, b}, Logs: logs})
				applies(t, api.Version{Tables: []api.Meta{a}, Logs: logs}, api.Edit{Add: []api.Meta{b}})
				applies(t, api.Version{Tables: []api.Meta{a}}, api.Edit{Drop: []int{a.ID}, Add: []api.Meta{b}, AddLogs: logs})
			}
			for _, c := range all {
				each(a, b, c)
				applies(t, api.Version{Tables: []api.Meta{a, b}}, api.Edit{Add: []api.Meta{c}})
			}
		}
	}
}

// P14.2: all edits that take away some of a few numbers.
func TestEveryDrop(t *testing.T) {
	v := api.Version{Tables: []api.Meta{table(2, 0, "a", "b"), table(5, 0, "a", "z"), table(4, 1, "a", "a"), table(1, 1, "c", "c")}, Logs: []int{7, 3}}
	lists := [][]int{nil}
	for a := range 9 {
		lists = append(lists, []int{a})
		for b := range 9 {
			lists = append(lists, []int{a, b})
		}
	}
	for _, drop := range lists {
		for _, logs := range lists {
			applies(t, v, api.Edit{Drop: drop, DropLogs: logs})
			applies(t, v, api.Edit{Drop: drop, DropLogs: logs, AddLogs: logs, Add: []api.Meta{table(4, 1, "b", "b")}})
		}
	}
}

// script is bytes that say what is done; behind its end it says zeros.
type script struct{ b []byte }

func (s *script) next() int {
	if len(s.b) == 0 {
		return 0
	}
	c := s.b[0]
	s.b = s.b[1:]
	return int(c)
}

// far is a number at a limit, or beyond it.
func (s *script) far() int {
	l := []int{api.MaxNumber, api.MaxNumber + 1, api.MaxNumber - 1, -1, math.MinInt, math.MaxInt, 0, 1 << 32, 255, 256, api.MaxText, api.MaxText + 1, api.MaxLevels, api.MaxLevels - 1}
	return l[s.next()%len(l)]
}

// id is a number that files have, mostly a new one.
func (s *script) id(v api.Version) int {
	switch c := s.next(); {
	case c == 0:
		return s.far()
	case c < 10:
		return 1 + s.next()%40
	}
	id := 1 + s.next()%40
	for slices.Contains(idsOf(v), id) {
		id++
	}
	return id
}

// key is a short key, or one near the limit.
func (s *script) key() string {
	switch c := s.next(); c {
	case 0:
		return strings.Repeat("k", 79+s.next()%3)
	case 1:
		return ""
	case 2, 3:
		return string([]byte{byte(s.next()), 0xff})
	default:
		return string([]byte{byte('a' + c%26), byte('a' + s.next()%26)})
	}
}

// table is a table, mostly one of few keys.
func (s *script) table(v api.Version) api.Meta {
	m := api.Meta{ID: s.id(v), Level: s.next() % 4, Min: s.key(), Bytes: 1 + s.next()}
	m.Max = m.Min
	switch c := s.next(); {
	case c < 40:
		m.Max = s.key()
	case c < 80 && len(m.Max) < 79:
		m.Max += "z"
	case c == 80:
		m.Bytes = s.far()
	case c == 81:
		m.Level = s.far()
	}
	return m
}

// pick is some of a list, mostly each of them once.
func (s *script) pick(l []int) []int {
	var out []int
	for range s.next() % 4 {
		switch c := s.next(); {
		case c == 0:
			out = append(out, s.far())
		case c < 8:
			out = append(out, 1+s.next()%40)
		case len(l) > 0:
			n := l[s.next()%len(l)]
			if c < 16 || !slices.Contains(out, n) {
				out = append(out, n)
			}
		}
	}
	return out
}

// edit is an edit of a version, mostly one that can be applied.
func (s *script) edit(v api.Version) api.Edit {
	e := api.Edit{Drop: s.pick(idsOf(api.Version{Tables: v.Tables})), DropLogs: s.pick(v.Logs)}
	after := v
	for range s.next() % 4 {
		m := s.table(after)
		e.Add = append(e.Add, m)
		after.Tables = append(slices.Clone(after.Tables), m)
	}
	for range s.next() % 3 {
		id := s.id(after)
		e.AddLogs = append(e.AddLogs, id)
		after.Logs = append(slices.Clone(after.Logs), id)
	}
	if e.Seq = s.next(); e.Seq == 0 {
		e.Seq = s.far()
	}
	return e
}

// bend changes one thing of a version.
func (s *script) bend(v api.Version) api.Version {
	w := api.Version{Tables: slices.Clone(v.Tables), Logs: slices.Clone(v.Logs), Seq: v.Seq}
	kind, i, j := s.next()%8, s.next(), s.next()
	if len(w.Tables) == 0 || len(w.Logs) == 0 {
		w.Seq = s.far()
		return w
	}
	i, j = i%len(w.Tables), j%len(w.Tables)
	a, b := &w.Tables[i], &w.Tables[j]
	switch kind {
	case 0:
		*a, *b = *b, *a
	case 1:
		a.ID = b.ID
	case 2:
		w.Logs[i%len(w.Logs)] = b.ID
	case 3:
		w.Logs[i%len(w.Logs)] = s.far()
	case 4:
		a.Max = b.Max
	case 5:
		a.Level = b.Level
	case 6:
		a.Min = s.key()
	case 7:
		a.ID = s.far()
	}
	return w
}

// play applies edits from b, one after the other, and holds all that there is to tell against the model. It tells how many were applied, and how many refused.
func play(t *testing.T, b []byte) (done, refused int) {
	t.Helper()
	s := script{b}
	var v api.Version
	for len(s.b) > 0 {
		e := s.edit(v)
		encodes(t, e)
		bent := s.bend(v)
		agrees(t, bent)
		applies(t, bent, e)
		w, err := applies(t, v, e)
		if err != nil {
			refused++
			continue
		}
		done++
		v = w
		agrees(t, v)
	}
	return done, refused
}

// P14.1 to P14.4: many edits of all kinds, the same ones each time.
func TestScripts(t *testing.T) {
	source := rand.New(rand.NewSource(14))
	done, refused := 0, 0
	for range 1000 {
		b := make([]byte, 20+source.Intn(1000))
		source.Read(b)
		d, r := play(t, b)
		done, refused = done+d, refused+r
	}
	if done < 5000 || refused < 5000 {
		t.Errorf("%d edits were applied, %d refused: too few of a kind", done, refused)
	}
}

// P14.1 to P14.4: scripts that the fuzzer finds (without it, the seeds).
func FuzzScript(f *testing.F) {
	f.Add([]byte{})
	f.Add([]byte("\x00\x00\x01\x20\x05\x01\x08\x02\x10\xff\x01\x20\x09\x09"))
	f.Add([]byte("\x00\x00\x02\x20\x05\x00\x08\x02\x10\xff\x20\x06\x00\x08\x02\x10\xff\x02\x20\x09\x20\x0a\x09\x00\x00\x00\x01\x10\x01\x01\x10\x01\x00\x00\x05"))
	f.Fuzz(func(t *testing.T, b []byte) { play(t, b) })
}

// P14.3: the bytes of edits, with each byte changed to each other one, left out, or doubled, and cut off behind each byte.
func TestEveryByte(t *testing.T) {
	for _, e := range edits() {
		b := bytesOf(e)
		decodes(t, b)
		for at := range b {
			// Of a long edit not all bytes are changed.
			if len(b) > 500 && at%29 > 0 {
				continue
			}
			for i := range 256 {
				decodes(t, b[:at]+string([]byte{byte(i)})+b[at+1:])
			}
			decodes(t, b[:at])
			decodes(t, b[at+1:])
			decodes(t, b[:at]+b[at+1:])
			decodes(t, b[:at]+b[at:at+1]+b[at:])
		}
	}
}

// P14.3, P14.4: bytes that the fuzzer finds (without it, the seeds).
func FuzzDecode(f *testing.F) {
	for _, e := range edits() {
		f.Add(bytesOf(e))
		f.Add(bytesOf(e) + "\x00")
	}
	f.Fuzz(decodes)
}
