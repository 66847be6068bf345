package version_test

import (
	"errors"
	"math"
	"slices"
	"strings"
	"testing"

	"palinode/api"
	"palinode/version"
)

// table is a table of 100 bytes.
func table(id, level int, least, greatest string) api.Meta {
	return api.Meta{ID: id, Level: level, Min: least, Max: greatest, Bytes: 100}
}

// plain is a version of an ordinary kind.
func plain() api.Version {
	return api.Version{
		Tables: []api.Meta{
			table(4, 0, "d", "z"), table(12, 0, "a", "k"),
			table(9, 1, "a", "c"), table(3, 1, "d", "d"), table(7, 1, "e", "x"),
			table(2, 2, "a", "y"),
			table(11, 3, "b", "c"), table(1, 3, "ca", "f"),
		},
		Logs: []int{10, 5, 13},
		Seq:  40,
	}
}

// changed is the ordinary version behind a change.
func changed(change func(v *api.Version)) api.Version {
	v := plain()
	change(&v)
	return v
}

// apiece is many tables of level 1, in order, with the IDs from first on.
func apiece(first, many int) []api.Meta {
	var l []api.Meta
	for i := range many {
		key := string([]byte{'k', byte(i / 256), byte(i)})
		l = append(l, table(first+i, 1, key, key))
	}
	return l
}

// count is the numbers from first on, so many of them.
func count(first, many int) []int {
	var l []int
	for i := range many {
		l = append(l, first+i)
	}
	return l
}

// edits are of all kinds that have an encoding.
func edits() []api.Edit {
	return []api.Edit{
		{},
		{Seq: api.MaxNumber},
		{Add: []api.Meta{table(3, 1, "a", "c")}, AddLogs: []int{7}, Seq: 9},
		{Add: []api.Meta{{ID: 300, Level: 3, Min: "\x00", Max: "\xff\xff", Bytes: api.MaxText}, table(300, 0, "a", "a")}, Drop: []int{0, 5, 5}, AddLogs: []int{1 << 40, 3}, DropLogs: []int{api.MaxNumber}, Seq: 256},
		{Drop: []int{7, 8}, DropLogs: []int{0, 1, 2}},
		version.Whole(plain()),
		{Add: []api.Meta{{ID: api.MaxNumber, Min: strings.Repeat("k", 80), Max: strings.Repeat("k", 80), Bytes: 1}}},
		{Add: apiece(1, 200), Drop: count(0, 200), AddLogs: count(0, 20), DropLogs: count(api.MaxNumber-19, 20), Seq: 1},
	}
}

// sameVersion tells whether two versions are the same, be an empty list nil or not.
func sameVersion(a, b api.Version) bool {
	return slices.Equal(a.Tables, b.Tables) && slices.Equal(a.Logs, b.Logs) && a.Seq == b.Seq
}

// sameEdit tells whether two edits are the same, be an empty list nil or not.
func sameEdit(a, b api.Edit) bool {
	return slices.Equal(a.Add, b.Add) && slices.Equal(a.Drop, b.Drop) && slices.Equal(a.AddLogs, b.AddLogs) && slices.Equal(a.DropLogs, b.DropLogs) && a.Seq == b.Seq
}

// right checks that v is valid, and that the edit that makes it of nothing does so.
func right(t *testing.T, v api.Version) {
	t.Helper()
	if !version.Right(v) {
		t.Errorf("Right(%v) = false", v)
	}
	becomes(t, api.Version{}, version.Whole(v), v)
	becomes(t, v, api.Edit{}, v)
}

// wrong checks that v is not valid, and that no edit is applied to it.
func wrong(t *testing.T, v api.Version) {
	t.Helper()
	if version.Right(v) {
		t.Errorf("Right(%v) = true", v)
	}
	fails(t, v, api.Edit{}, api.ErrArg)
	fails(t, v, api.Edit{Drop: []int{99}, AddLogs: []int{98, 98}}, api.ErrArg)
}

// becomes checks what an edit makes of a version.
func becomes(t *testing.T, v api.Version, e api.Edit, want api.Version) {
	t.Helper()
	if w, err := version.Apply(v, e); !sameVersion(w, want) || err != nil {
		t.Errorf("Apply(%v, %v) = %v, %v; want %v", v, e, w, err, want)
	}
}

// fails checks that an edit is not applied to a version.
func fails(t *testing.T, v api.Version, e api.Edit, want api.Errno) {
	t.Helper()
	w, err := version.Apply(v, e)
	if !sameVersion(w, api.Version{}) || err != want || !errors.Is(err, want) {
		t.Errorf("Apply(%v, %v) = %v, %v; want nothing, %v", v, e, w, err, want)
	}
}

// stands checks that an edit has these bytes, and that they are read as it.
func stands(t *testing.T, e api.Edit, want string) {
	t.Helper()
	if b, err := version.Encode(e); b != want || err != nil {
		t.Errorf("Encode(%v) = %x, %v; want %x", e, b, err, want)
	}
	if got, err := version.Decode(want); !sameEdit(got, e) || err != nil {
		t.Errorf("Decode(%x) = %v, %v; want %v", want, got, err, e)
	}
}

// has checks that an edit has an encoding, the one that the tests write.
func has(t *testing.T, e api.Edit) {
	t.Helper()
	stands(t, e, bytesOf(e))
}

// lacks checks that an edit has no encoding, and that the bytes that it would have are none.
func lacks(t *testing.T, e api.Edit) {
	t.Helper()
	if b, err := version.Encode(e); b != "" || err != api.ErrArg {
		t.Errorf("Encode(%v) = %x, %v; want nothing, ErrArg", e, b, err)
	}
	no(t, bytesOf(e))
}

// no checks that bytes are not the encoding of an edit.
func no(t *testing.T, b string) {
	t.Helper()
	e, err := version.Decode(b)
	if !sameEdit(e, api.Edit{}) || err != api.ErrForm || !errors.Is(err, api.ErrForm) {
		t.Errorf("Decode(%.200x) = %v, %v; want nothing, ErrForm", b, e, err)
	}
}

// beyond are numbers that no file has.
var beyond = []int{math.MinInt, math.MinInt + 1, -1 << 53, -1 << 32, -2, -1, api.MaxNumber + 1, 1<<56 - 1, 1 << 56, math.MaxInt - 1, math.MaxInt}

// within are numbers that files have.
var within = []int{1, 2, 255, 256, 1 << 16, 1 << 32, 1<<32 + 1, 1 << 48, api.MaxNumber - 1, api.MaxNumber}

// P14.2: the chapter's examples.
func TestExamples(t *testing.T) {
	fails(t, api.Version{}, api.Edit{Add: []api.Meta{table(3, 1, "a", "c"), table(4, 1, "b", "d")}}, api.ErrArg)
	fails(t, api.Version{}, api.Edit{Drop: []int{1}}, api.ErrNone)
}

// P14.1: versions of ordinary kinds.
func TestRight(t *testing.T) {
	for _, v := range []api.Version{
		{},
		{Tables: []api.Meta{}, Logs: []int{}},
		{Seq: 1},
		{Logs: []int{1}},
		{Logs: []int{3, 1, 2}},
		{Tables: []api.Meta{table(1, 0, "a", "b")}},
		{Tables: []api.Meta{table(1, 3, "a", "b")}, Logs: []int{2}, Seq: 7},
		plain(),
	} {
		right(t, v)
	}
}

// tables are the descriptions of tables that may be, and of such as may not.
func tables() (good, bad []api.Meta) {
	with := func(change func(m *api.Meta)) api.Meta {
		m := table(5, 1, "b", "d")
		change(&m)
		return m
	}
	id := func(n int) api.Meta { return with(func(m *api.Meta) { m.ID = n }) }
	level := func(n int) api.Meta { return with(func(m *api.Meta) { m.Level = n }) }
	size := func(n int) api.Meta { return with(func(m *api.Meta) { m.Bytes = n }) }
	keys := func(least, greatest string) api.Meta {
		return with(func(m *api.Meta) { m.Min, m.Max = least, greatest })
	}
	for _, n := range within {
		good = append(good, id(n))
	}
	for _, n := range append(beyond, 0) {
		bad = append(bad, id(n), level(n-1), size(n))
	}
	for n := range 4 {
		good = append(good, level(n))
	}
	bad = append(bad, level(4), level(5), level(256), level(1<<32), level(api.MaxNumber))
	for _, n := range []int{1, 2, 255, 256, 1<<20 - 1, 1 << 20} {
		good = append(good, size(n))
	}
	bad = append(bad, size(1<<20+1), size(1<<32+1), size(api.MaxNumber))
	long := strings.Repeat("k", 79)
	good = append(good, keys("b", "b"), keys("a", "z"), keys("a", "a\x00"), keys("\x00", "\xff"), keys("\x7f", "\x80"), keys(long, long+"k"), keys(long+"k", long+"k"), keys("k", long+"k"), keys(long+"k", "l"))
	bad = append(bad, keys("", ""), keys("", "b"), keys("b", ""), keys("b", "a"), keys("ab", "a"), keys("\xff", "\x00"), keys("\x80", "\x7f"),
		keys("k", long+"kk"), keys(long+"kk", "l"), keys(long+"kk", long+"kk"), keys("a", strings.Repeat("b", 256)), keys("a", strings.Repeat("b", 80+256)), api.Meta{})
	return good, bad
}

// P14.1, P14.2, P14.3: what the description of a table may be, in a version, in what an edit makes, and in an edit that is written.
func TestTables(t *testing.T) {
	good, bad := tables()
	for _, m := range good {
		v := api.Version{Tables: []api.Meta{m}, Logs: []int{77}}
		right(t, v)
		becomes(t, api.Version{Logs: []int{77}}, api.Edit{Add: []api.Meta{m}}, v)
		has(t, api.Edit{Add: []api.Meta{m}})
		has(t, api.Edit{Add: []api.Meta{table(3, 2, "x", "x"), m, m}})
	}
	for _, m := range bad {
		wrong(t, api.Version{Tables: []api.Meta{m}})
		fails(t, api.Version{Logs: []int{77}}, api.Edit{Add: []api.Meta{m}}, api.ErrArg)
		lacks(t, api.Edit{Add: []api.Meta{m}})
		lacks(t, api.Edit{Add: []api.Meta{table(3, 2, "x", "x"), m}})
		lacks(t, api.Edit{Add: []api.Meta{m, table(3, 2, "x", "x")}})
	}
}

// P14.1: the numbers of the logs, and of the changes that went by.
func TestRightNumbers(t *testing.T) {
	for _, n := range within {
		right(t, api.Version{Logs: []int{n}})
		right(t, api.Version{Logs: []int{3, n, 4}})
		right(t, api.Version{Seq: n})
	}
	right(t, changed(func(v *api.Version) { v.Seq = 0 }))
	for _, n := range append(beyond, 0) {
		wrong(t, api.Version{Logs: []int{n}})
		wrong(t, api.Version{Logs: []int{3, n}})
		wrong(t, api.Version{Logs: []int{n, 3}})
	}
	for _, n := range beyond {
		wrong(t, api.Version{Seq: n})
		wrong(t, changed(func(v *api.Version) { v.Seq = n }))
	}
}

// P14.1: how many tables and logs there may be.
func TestRightMany(t *testing.T) {
	right(t, api.Version{Tables: apiece(1, 199), Logs: count(201, 19)})
	right(t, api.Version{Tables: apiece(1, 200), Logs: count(201, 20)})
	wrong(t, api.Version{Tables: apiece(1, 201)})
	wrong(t, api.Version{Tables: apiece(1, 201), Logs: count(202, 20)})
	wrong(t, api.Version{Logs: count(1, 21)})
	wrong(t, api.Version{Tables: apiece(1, 200), Logs: count(201, 21)})
	wrong(t, api.Version{Tables: apiece(1, 456)})
	wrong(t, api.Version{Logs: count(1, 256)})
	wrong(t, api.Version{Logs: make([]int, 1<<20), Tables: make([]api.Meta, 1<<20)})
	// All levels together have the 200.
	l := apiece(1, 200)
	for i := range l {
		l[i].Level = i / 50
	}
	right(t, api.Version{Tables: l})
	wrong(t, api.Version{Tables: append(l, table(201, 3, "z", "z"))})
}

// P14.1: no number is that of two files.
func TestRightApart(t *testing.T) {
	v := plain()
	for i := range v.Tables {
		for j := range v.Tables {
			if i != j {
				wrong(t, changed(func(v *api.Version) { v.Tables[i].ID = v.Tables[j].ID }))
			}
		}
		for j := range v.Logs {
			wrong(t, changed(func(v *api.Version) { v.Logs[j] = v.Tables[i].ID }))
		}
		wrong(t, changed(func(v *api.Version) { v.Logs = []int{v.Tables[i].ID} }))
	}
	for i := range v.Logs {
		for j := range v.Logs {
			if i != j {
				wrong(t, changed(func(v *api.Version) { v.Logs[i] = v.Logs[j] }))
			}
		}
	}
	wrong(t, api.Version{Logs: []int{1, 1}})
	wrong(t, api.Version{Logs: append(count(1, 19), 1)})
	wrong(t, api.Version{Tables: []api.Meta{table(1, 1, "a", "a"), table(1, 2, "a", "a")}})
}

// P14.1: the tables stand level by level.
func TestRightLevels(t *testing.T) {
	for a := range 4 {
		for b := range 4 {
			v := api.Version{Tables: []api.Meta{table(1, a, "a", "c"), table(2, b, "d", "f")}}
			if a <= b {
				right(t, v)
			} else {
				wrong(t, v)
			}
			// Of two levels neither the numbers nor the keys are in any order.
			v = api.Version{Tables: []api.Meta{table(2, a, "b", "c"), table(1, b, "a", "f")}}
			if a < b {
				right(t, v)
			} else {
				wrong(t, v)
			}
		}
	}
	v := plain()
	for i := range v.Tables {
		for j := range i {
			wrong(t, changed(func(v *api.Version) { v.Tables[i], v.Tables[j] = v.Tables[j], v.Tables[i] }))
		}
	}
}

// P14.1: the tables of level 0 stand by their numbers, whatever their keys are.
func TestRightLevelZero(t *testing.T) {
	with := func(ids ...int) api.Version {
		var v api.Version
		for i, id := range ids {
			v.Tables = append(v.Tables, table(id, 0, []string{"b", "a", "c", "a"}[i], "d"))
		}
		return v
	}
	for _, ids := range [][]int{{1, 2}, {1, 2, 3, 4}, {2, 5, 7}, {1, api.MaxNumber - 1, api.MaxNumber}, {9, 10, 100}} {
		right(t, with(ids...))
	}
	for _, ids := range [][]int{{2, 1}, {1, 3, 2}, {3, 1, 2}, {4, 3, 2, 1}, {1, 2, 4, 3}, {1, 1}, {10, 9}, {1, 10, 9, 100}, {api.MaxNumber, 1}} {
		wrong(t, with(ids...))
	}
	right(t, api.Version{Tables: []api.Meta{table(1, 0, "a", "z"), table(2, 0, "a", "z"), table(3, 0, "b", "c")}})
}

// P14.1: the tables of the other levels stand by their keys, of which they share none, whatever their numbers are.
func TestRightOtherLevels(t *testing.T) {
	for level := 1; level < 4; level++ {
		with := func(keys ...string) api.Version {
			var v api.Version
			for i := 0; i+1 < len(keys); i += 2 {
				v.Tables = append(v.Tables, table(50-i, level, keys[i], keys[i+1]))
			}
			return v
		}
		for _, keys := range [][]string{
			{"a", "c", "d", "f"}, {"a", "c", "c\x00", "f"}, {"a", "a", "b", "b"}, {"a", "a", "a\x00", "a\x00"}, {"a", "a\xff", "b", "b"}, {"a", "b", "c", "d", "e", "f"},
			{"\x00", "\x7f", "\x80", "\xff"}, {"a", "ab", "abc", "b"},
		} {
			right(t, with(keys...))
		}
		for _, keys := range [][]string{
			{"a", "c", "c", "f"}, {"a", "c", "b", "f"}, {"a", "f", "b", "c"}, {"b", "c", "a", "f"}, {"a", "c", "a", "c"}, {"a", "a", "a", "a"}, {"a", "a", "a", "b"}, {"a", "b", "a", "a"},
			{"d", "f", "a", "c"}, {"b", "b", "a", "a"}, {"\x80", "\xff", "\x00", "\x7f"}, {"a", "b", "c", "d", "d", "f"}, {"a", "b", "e", "f", "c", "d"}, {"a", "z", "c", "d", "e", "f"}, {"a", "abc", "ab", "b"},
		} {
			wrong(t, with(keys...))
		}
	}
}

// P14.1: Level tells the tables of a level in their order, of whatever version.
func TestLevel(t *testing.T) {
	ids := func(l []api.Meta) []int {
		var out []int
		for _, m := range l {
			out = append(out, m.ID)
		}
		return out
	}
	for n, want := range [][]int{{4, 12}, {9, 3, 7}, {2}, {11, 1}} {
		got := version.Level(plain(), n)
		if !slices.Equal(ids(got), want) {
			t.Errorf("Level %d = %v; want %v", n, got, want)
		}
		for _, m := range got {
			if !slices.Contains(plain().Tables, m) {
				t.Errorf("Level %d tells %v, which is no table of the version", n, m)
			}
		}
	}
	for _, n := range append(beyond, 4, 5, 100, 256, 1<<32) {
		if got := version.Level(plain(), n); len(got) > 0 {
			t.Errorf("Level %d = %v; want nothing", n, got)
		}
	}
	if got := version.Level(api.Version{Logs: []int{0, 1}}, 0); len(got) > 0 {
		t.Errorf("Level 0 of no tables = %v", got)
	}
	v := api.Version{Tables: []api.Meta{table(7, 2, "z", "a"), table(1, 9, "a", "b"), table(3, 0, "a", "b"), table(1, 2, "a", "b"), table(7, 2, "z", "a")}}
	if got := version.Level(v, 2); !slices.Equal(got, []api.Meta{v.Tables[0], v.Tables[3], v.Tables[4]}) {
		t.Errorf("Level 2 of %v = %v", v, got)
	}
}

// P14.1: Live tells all numbers of files in ascending order, of whatever version, each as often as it comes.
func TestLive(t *testing.T) {
	for _, c := range []struct {
		v    api.Version
		want []int
	}{
		{api.Version{}, nil},
		{api.Version{Seq: 8}, nil},
		{api.Version{Logs: []int{3, 1, 2}}, []int{1, 2, 3}},
		{plain(), []int{1, 2, 3, 4, 5, 7, 9, 10, 11, 12, 13}},
		{api.Version{Tables: []api.Meta{table(5, 0, "a", "b"), table(3, 1, "a", "b"), table(5, 2, "a", "b")}, Logs: []int{3, 5, 1}}, []int{1, 3, 3, 5, 5, 5}},
		{api.Version{Tables: []api.Meta{table(math.MaxInt, 0, "", ""), table(0, -1, "", "")}, Logs: []int{math.MinInt, -1, 0, math.MaxInt}}, []int{math.MinInt, -1, 0, 0, math.MaxInt, math.MaxInt}},
	} {
		if got := version.Live(c.v); !slices.Equal(got, c.want) {
			t.Errorf("Live(%v) = %v; want %v", c.v, got, c.want)
		}
	}
}

// P14.2: what comes, and what goes.
func TestApply(t *testing.T) {
	v := plain()
	becomes(t, v, api.Edit{
		Add:      []api.Meta{table(21, 3, "cz", "cz"), table(20, 2, "z", "z"), table(6, 0, "a", "b"), table(22, 1, "c\x00", "cc"), table(30, 0, "b", "b"), table(8, 3, "a", "a")},
		Drop:     []int{1, 4, 7},
		AddLogs:  []int{40, 14, 31},
		DropLogs: []int{5},
		Seq:      41,
	}, api.Version{
		Tables: []api.Meta{
			table(6, 0, "a", "b"), table(12, 0, "a", "k"), table(30, 0, "b", "b"),
			table(9, 1, "a", "c"), table(22, 1, "c\x00", "cc"), table(3, 1, "d", "d"),
			table(2, 2, "a", "y"), table(20, 2, "z", "z"),
			table(8, 3, "a", "a"), table(11, 3, "b", "c"), table(21, 3, "cz", "cz"),
		},
		Logs: []int{10, 13, 40, 14, 31},
		Seq:  41,
	})
	becomes(t, v, api.Edit{Drop: []int{12, 4, 3, 9, 7, 2, 1, 11}, DropLogs: []int{13, 10, 5}}, api.Version{Seq: 40})
	becomes(t, api.Version{}, api.Edit{}, api.Version{})
}

// P14.2: Seq is the greater one.
func TestApplySeq(t *testing.T) {
	for _, c := range []struct{ old, edit, want int }{
		{0, 0, 0}, {0, 1, 1}, {1, 0, 1}, {5, 5, 5}, {5, 6, 6}, {5, 4, 5}, {5, -1, 5}, {0, -1, 0}, {5, math.MinInt, 5}, {5, api.MaxNumber, api.MaxNumber}, {api.MaxNumber, 7, api.MaxNumber},
	} {
		becomes(t, api.Version{Seq: c.old}, api.Edit{Seq: c.edit}, api.Version{Seq: c.want})
	}
	for _, n := range []int{api.MaxNumber + 1, 1 << 56, math.MaxInt} {
		fails(t, api.Version{}, api.Edit{Seq: n}, api.ErrArg)
		fails(t, plain(), api.Edit{Seq: n}, api.ErrArg)
	}
}

// P14.2: what goes must be there, as what it is said to be, and goes once.
func TestApplyNone(t *testing.T) {
	v := plain()
	for _, m := range v.Tables {
		fails(t, v, api.Edit{Drop: []int{m.ID, m.ID}}, api.ErrNone)
		fails(t, v, api.Edit{DropLogs: []int{m.ID}}, api.ErrNone)
		fails(t, v, api.Edit{Drop: []int{m.ID}, DropLogs: []int{m.ID}}, api.ErrNone)
	}
	for _, id := range v.Logs {
		fails(t, v, api.Edit{DropLogs: []int{id, id}}, api.ErrNone)
		fails(t, v, api.Edit{Drop: []int{id}}, api.ErrNone)
	}
	fails(t, v, api.Edit{Drop: []int{4, 12, 4}}, api.ErrNone)
	fails(t, v, api.Edit{DropLogs: []int{5, 13, 5}}, api.ErrNone)
	for _, n := range append(beyond, 0, 6, 8, 14, 40, api.MaxNumber) {
		fails(t, v, api.Edit{Drop: []int{n}}, api.ErrNone)
		fails(t, v, api.Edit{DropLogs: []int{n}}, api.ErrNone)
		fails(t, v, api.Edit{Drop: []int{4, n}}, api.ErrNone)
		fails(t, v, api.Edit{DropLogs: []int{10, 5, n}}, api.ErrNone)
		fails(t, api.Version{}, api.Edit{Drop: []int{n}}, api.ErrNone)
		fails(t, api.Version{}, api.Edit{DropLogs: []int{n}}, api.ErrNone)
	}
	// What comes with the edit itself is not there yet.
	fails(t, v, api.Edit{Add: []api.Meta{table(6, 0, "a", "a")}, Drop: []int{6}}, api.ErrNone)
	fails(t, v, api.Edit{AddLogs: []int{6}, DropLogs: []int{6}}, api.ErrNone)
	fails(t, v, api.Edit{Drop: make([]int, 1<<20)}, api.ErrNone)
	fails(t, v, api.Edit{DropLogs: make([]int, 1<<20)}, api.ErrNone)
}

// P14.2: what comes must not be there, unless what is there goes.
func TestApplyExists(t *testing.T) {
	v := plain()
	for _, id := range version.Live(v) {
		fails(t, v, api.Edit{Add: []api.Meta{table(id, 0, "a", "a")}}, api.ErrExists)
		fails(t, v, api.Edit{Add: []api.Meta{table(id, 2, "z", "z")}}, api.ErrExists)
		fails(t, v, api.Edit{AddLogs: []int{id}}, api.ErrExists)
		fails(t, v, api.Edit{AddLogs: []int{id, id}}, api.ErrExists)
	}
	fails(t, v, api.Edit{Add: []api.Meta{table(6, 0, "a", "a"), table(6, 2, "z", "z")}}, api.ErrExists)
	fails(t, v, api.Edit{Add: []api.Meta{table(6, 0, "a", "a")}, AddLogs: []int{6}}, api.ErrExists)
	fails(t, v, api.Edit{AddLogs: []int{6, 8, 6}}, api.ErrExists)
	fails(t, v, api.Edit{Drop: []int{2}, Add: []api.Meta{table(2, 2, "a", "a"), table(2, 2, "b", "b")}}, api.ErrExists)
	fails(t, v, api.Edit{Drop: []int{2}, Add: []api.Meta{table(2, 2, "a", "a")}, AddLogs: []int{2}}, api.ErrExists)
	fails(t, v, api.Edit{DropLogs: []int{5}, AddLogs: []int{5, 5}}, api.ErrExists)

	small := api.Version{Tables: []api.Meta{table(1, 0, "a", "b"), table(2, 1, "a", "b")}, Logs: []int{3, 4}}
	becomes(t, small, api.Edit{Drop: []int{1}, Add: []api.Meta{table(1, 1, "c", "d")}}, api.Version{Tables: []api.Meta{table(2, 1, "a", "b"), table(1, 1, "c", "d")}, Logs: []int{3, 4}})
	becomes(t, small, api.Edit{Drop: []int{2}, AddLogs: []int{2}}, api.Version{Tables: []api.Meta{table(1, 0, "a", "b")}, Logs: []int{3, 4, 2}})
	becomes(t, small, api.Edit{DropLogs: []int{3}, AddLogs: []int{3}}, api.Version{Tables: small.Tables, Logs: []int{4, 3}})
	becomes(t, small, api.Edit{DropLogs: []int{3}, Add: []api.Meta{table(3, 0, "a", "b")}}, api.Version{Tables: []api.Meta{table(1, 0, "a", "b"), table(3, 0, "a", "b"), table(2, 1, "a", "b")}, Logs: []int{4}})
}

// P14.2: what an edit makes must be valid.
func TestApplyArg(t *testing.T) {
	v := plain()
	for _, keys := range []string{"cc", "ac", "aa", "dd", "ce", "de", "xx", "az", "ez", "fg"} {
		fails(t, v, api.Edit{Add: []api.Meta{table(6, 1, keys[:1], keys[1:])}}, api.ErrArg)
	}
	fails(t, v, api.Edit{Add: []api.Meta{table(6, 1, "y", "z"), table(8, 1, "z", "z")}}, api.ErrArg)
	// A table that shares keys may take the place of the one that it shares them with.
	becomes(t, api.Version{Tables: []api.Meta{table(1, 1, "a", "c")}}, api.Edit{Drop: []int{1}, Add: []api.Meta{table(2, 1, "b", "d")}}, api.Version{Tables: []api.Meta{table(2, 1, "b", "d")}})
	for _, n := range append(beyond, 0) {
		fails(t, v, api.Edit{AddLogs: []int{n}}, api.ErrArg)
		fails(t, v, api.Edit{AddLogs: []int{20, n}}, api.ErrArg)
	}
}

// P14.2: how many tables and logs an edit may leave.
func TestApplyMany(t *testing.T) {
	full := api.Version{Tables: apiece(1, 200), Logs: count(301, 20)}
	becomes(t, api.Version{}, api.Edit{Add: apiece(1, 200), AddLogs: count(301, 20)}, full)
	fails(t, api.Version{}, api.Edit{Add: apiece(1, 201)}, api.ErrArg)
	fails(t, api.Version{}, api.Edit{AddLogs: count(1, 21)}, api.ErrArg)
	fails(t, full, api.Edit{Add: []api.Meta{table(250, 0, "a", "a")}}, api.ErrArg)
	fails(t, full, api.Edit{AddLogs: []int{250}}, api.ErrArg)
	becomes(t, full, api.Edit{Drop: []int{7}, Add: []api.Meta{table(250, 0, "a", "a")}}, api.Version{Tables: slices.Concat([]api.Meta{table(250, 0, "a", "a")}, full.Tables[:6], full.Tables[7:]), Logs: full.Logs})
	becomes(t, full, api.Edit{DropLogs: []int{301}, AddLogs: []int{250}}, api.Version{Tables: full.Tables, Logs: append(count(302, 19), 250)})
	becomes(t, full, api.Edit{Drop: count(1, 200), DropLogs: count(301, 20)}, api.Version{})
	// All of them may go, and as many come.
	becomes(t, full, api.Edit{Drop: count(1, 200), Add: apiece(1, 200), DropLogs: count(301, 20), AddLogs: count(401, 20)}, api.Version{Tables: full.Tables, Logs: count(401, 20)})
	fails(t, api.Version{}, api.Edit{Add: apiece(1, 100000)}, api.ErrArg)
	fails(t, api.Version{}, api.Edit{AddLogs: count(1, 1<<20)}, api.ErrArg)
	fails(t, api.Version{}, api.Edit{Add: make([]api.Meta, 100000), AddLogs: make([]int, 100000)}, api.ErrExists)
}

// P14.2, P2: of several errors the one that is named first is told.
func TestApplyOrder(t *testing.T) {
	bad := changed(func(v *api.Version) { v.Seq = -1 })
	none, noLog := []int{6}, []int{9}
	twice := []api.Meta{table(6, 0, "a", "a"), table(6, 0, "a", "a")}
	overlap := []api.Meta{table(20, 1, "a", "a")}
	for _, c := range []struct {
		v    api.Version
		e    api.Edit
		want api.Errno
	}{
		{bad, api.Edit{Drop: none}, api.ErrArg},
		{bad, api.Edit{DropLogs: noLog}, api.ErrArg},
		{bad, api.Edit{Add: twice}, api.ErrArg},
		{bad, api.Edit{Drop: none, DropLogs: noLog, Add: twice, Seq: -1}, api.ErrArg},
		{plain(), api.Edit{Drop: none, Add: twice}, api.ErrNone},
		{plain(), api.Edit{DropLogs: noLog, Add: twice}, api.ErrNone},
		{plain(), api.Edit{Drop: none, Add: overlap}, api.ErrNone},
		{plain(), api.Edit{DropLogs: noLog, Seq: math.MaxInt}, api.ErrNone},
		{plain(), api.Edit{Drop: []int{4, 4}, AddLogs: []int{5}}, api.ErrNone},
		{plain(), api.Edit{DropLogs: []int{5, 5}, AddLogs: []int{0}}, api.ErrNone},
		{plain(), api.Edit{Add: slices.Concat(twice, overlap)}, api.ErrExists},
		{plain(), api.Edit{Add: twice, Seq: math.MaxInt}, api.ErrExists},
		{plain(), api.Edit{Add: append(apiece(100, 250), table(100, 1, "k", "k"))}, api.ErrExists},
		{plain(), api.Edit{AddLogs: append(count(100, 30), 100)}, api.ErrExists},
		{plain(), api.Edit{AddLogs: []int{0, 0}}, api.ErrExists},
		{plain(), api.Edit{AddLogs: []int{-1, 7, -1}}, api.ErrExists},
		{plain(), api.Edit{Add: []api.Meta{{}}, AddLogs: []int{0}}, api.ErrExists},
		{plain(), api.Edit{Add: []api.Meta{{ID: 9, Level: -1}}}, api.ErrExists},
		{plain(), api.Edit{Add: make([]api.Meta, 2)}, api.ErrExists},
		{plain(), api.Edit{Add: make([]api.Meta, 1)}, api.ErrArg},
	} {
		fails(t, c.v, c.e, c.want)
	}
}

// P14.2: Whole tells a version as an edit, be the version valid or not.
func TestWhole(t *testing.T) {
	odd := api.Version{Tables: []api.Meta{table(-1, 9, "b", "a"), table(-1, 0, "", "")}, Logs: []int{3, 3, -7}, Seq: math.MinInt}
	for _, v := range []api.Version{{}, {Seq: 3}, plain(), odd} {
		want := api.Edit{Add: v.Tables, AddLogs: v.Logs, Seq: v.Seq}
		if e := version.Whole(v); !sameEdit(e, want) {
			t.Errorf("Whole(%v) = %v; want %v", v, e, want)
		}
	}
}

// P14.4: the edit that Whole tells makes the version of nothing, also by way of its bytes.
func TestWholeAgain(t *testing.T) {
	for _, v := range []api.Version{{}, {Logs: []int{3, 1}, Seq: api.MaxNumber}, plain(), {Tables: apiece(7, 200), Logs: count(300, 20)}} {
		e := version.Whole(v)
		becomes(t, api.Version{}, e, v)
		b, err := version.Encode(e)
		if err != nil {
			t.Fatal(err)
		}
		again, err := version.Decode(b)
		if err != nil {
			t.Fatal(err)
		}
		becomes(t, api.Version{}, again, v)
	}
}

// P14.3, P14.4: edits and their bytes.
func TestBytes(t *testing.T) {
	stands(t, api.Edit{}, "\x00\x00\x00\x00\x00")
	stands(t, api.Edit{Add: []api.Meta{}, Drop: []int{}, AddLogs: []int{}, DropLogs: []int{}}, "\x00\x00\x00\x00\x00")
	stands(t, api.Edit{Seq: 0x1234}, "\x00\x00\x00\x00\x02\x12\x34")
	stands(t, api.Edit{Drop: []int{3}}, "\x00\x01\x01\x01\x03\x00\x00\x00")
	stands(t, api.Edit{AddLogs: []int{3}}, "\x00\x00\x01\x01\x01\x03\x00\x00")
	stands(t, api.Edit{DropLogs: []int{3}}, "\x00\x00\x00\x01\x01\x01\x03\x00")
	stands(t, api.Edit{Add: []api.Meta{{ID: 3, Level: 1, Min: "a", Max: "c", Bytes: 100}}}, "\x01\x01\x01\x03\x01\x01\x01\x01a\x01\x01c\x01\x64\x00\x00\x00\x00")
	stands(t,
		api.Edit{
			Add:      []api.Meta{{ID: api.MaxNumber, Level: 0, Min: "\x00", Max: "\xff\x00", Bytes: api.MaxText}, {ID: 256, Level: 3, Min: "ab", Max: "ab", Bytes: 1}},
			Drop:     []int{9, 0, 9},
			AddLogs:  []int{1 << 32, 7},
			DropLogs: []int{api.MaxNumber},
			Seq:      api.MaxNumber,
		},
		"\x01\x02"+"\x07\x1f\xff\xff\xff\xff\xff\xff\x00\x01\x01\x00\x01\x02\xff\x00\x03\x10\x00\x00"+"\x02\x01\x00\x01\x03\x01\x02ab\x01\x02ab\x01\x01"+
			"\x01\x03\x01\x09\x00\x01\x09"+"\x01\x02\x05\x01\x00\x00\x00\x00\x01\x07"+"\x01\x01\x07\x1f\xff\xff\xff\xff\xff\xff"+"\x07\x1f\xff\xff\xff\xff\xff\xff")
	for _, e := range edits() {
		has(t, e)
	}
}

// P14.3: the numbers that go, those of the logs, and Seq.
func TestEncodeNumbers(t *testing.T) {
	for _, n := range append(within, 0) {
		has(t, api.Edit{Drop: []int{n}})
		has(t, api.Edit{AddLogs: []int{3, n}})
		has(t, api.Edit{DropLogs: []int{n, n}})
		has(t, api.Edit{Seq: n})
	}
	for _, n := range beyond {
		for _, e := range []api.Edit{
			{Drop: []int{n}}, {Drop: []int{3, n}}, {Drop: []int{n, 3}},
			{AddLogs: []int{n}}, {AddLogs: []int{3, n}}, {AddLogs: []int{n, 3}},
			{DropLogs: []int{n}}, {DropLogs: []int{3, n}}, {DropLogs: []int{n, 3}},
			{Seq: n}, {Add: plain().Tables, Seq: n},
		} {
			lacks(t, e)
		}
	}
}

// P14.3: how long the lists of an edit may be.
func TestEncodeMany(t *testing.T) {
	has(t, api.Edit{Add: apiece(1, 199), Drop: count(1, 199), AddLogs: count(1, 19), DropLogs: count(1, 19)})
	has(t, api.Edit{Add: apiece(1, 200), Drop: count(1, 200), AddLogs: count(1, 20), DropLogs: count(1, 20)})
	for _, more := range []int{1, 2, 56, 256, 1000} {
		lacks(t, api.Edit{Add: apiece(1, 200+more)})
		lacks(t, api.Edit{Drop: count(1, 200+more)})
		lacks(t, api.Edit{AddLogs: count(1, 20+more)})
		lacks(t, api.Edit{DropLogs: count(1, 20+more)})
	}
	// What an edit does is not asked.
	has(t, api.Edit{Add: []api.Meta{table(1, 1, "a", "c"), table(1, 1, "a", "c"), table(2, 0, "a", "a")}, Drop: []int{1, 1}, AddLogs: []int{1, 1}, DropLogs: []int{1, 1}})
}

// P14.3: numbers that pack would not write, and texts that are cut off, at each place of an edit.
func TestDecodeBad(t *testing.T) {
	parts := []string{"\x01\x01", "\x01\x03", "\x01\x01", "\x01\x01a", "\x01\x02cd", "\x01\x64", "\x01\x01", "\x01\x05", "\x01\x01", "\x01\x06", "\x01\x01", "\x01\x07", "\x01\x09"}
	good := strings.Join(parts, "")
	stands(t, api.Edit{Add: []api.Meta{table(3, 1, "a", "cd")}, Drop: []int{5}, AddLogs: []int{6}, DropLogs: []int{7}, Seq: 9}, good)
	for i, part := range parts {
		head, tail := strings.Join(parts[:i], ""), strings.Join(parts[i+1:], "")
		no(t, head)
		no(t, head+tail)
		for _, bad := range []string{"\x08", "\xff", "\x01\x00", "\x02\x00" + part[1:], "\x07\x20\x00\x00\x00\x00\x00\x00", "\x07\xff\xff\xff\xff\xff\xff\xff", "\x07\x1f\xff\xff\xff\xff\xff", part + "\x00", part + part} {
			no(t, head+bad+tail)
		}
	}
	for _, behind := range []string{"\x00", "\x01", "\x08", "x", good} {
		no(t, good+behind)
	}
	for at := range good {
		no(t, good[:at])
		no(t, good[at+1:])
	}
	no(t, strings.Repeat("\x00", 4))
	no(t, strings.Repeat("\x00", 6))
	no(t, strings.Repeat("\x00", 1<<20))
}

// P14.3, P1: lists that are said to be long, and are not there, must end soon.
func TestDecodeManyMissing(t *testing.T) {
	for _, n := range []int{4, 20, 21, 200, 201, 1 << 32, api.MaxNumber} {
		for _, head := range []string{"", "\x00", "\x00\x00", "\x00\x00\x00"} {
			no(t, head+num(n))
			no(t, head+num(n)+"\x00\x00\x00")
		}
	}
}

// P3: arguments are left alone, up to their capacity, and results are memory of their own, up to theirs.
func TestMemory(t *testing.T) {
	spare := func(l []api.Meta) []api.Meta { return append(slices.Grow(l, 9), table(-7, -7, "", ""))[:len(l)] }
	spareInts := func(l []int) []int { return append(slices.Grow(l, 9), -7)[:len(l)] }
	v := api.Version{Tables: spare(plain().Tables), Logs: spareInts(plain().Logs), Seq: 40}
	e := api.Edit{Add: spare([]api.Meta{table(22, 0, "b", "b"), table(21, 0, "a", "a")}), Drop: spareInts([]int{12, 9}), AddLogs: spareInts([]int{31, 30}), DropLogs: spareInts([]int{13, 5}), Seq: 50}
	kept := func() []any {
		var out []any
		for _, l := range [][]api.Meta{v.Tables, e.Add} {
			for _, m := range l[:cap(l)] {
				out = append(out, m)
			}
		}
		for _, l := range [][]int{v.Logs, e.Drop, e.AddLogs, e.DropLogs} {
			for _, n := range l[:cap(l)] {
				out = append(out, n)
			}
		}
		return out
	}
	wipe := func(l []api.Meta) { clear(l[:cap(l)]) }
	wipeInts := func(l []int) { clear(l[:cap(l)]) }
	before := kept()
	b, _ := version.Encode(e)
	for _, f := range []func(){
		func() { version.Right(v) },
		func() { wipeInts(version.Live(v)) },
		func() { wipe(version.Level(v, 0)) },
		func() { wipe(version.Level(v, 3)) },
		func() { w := version.Whole(v); wipe(w.Add); wipeInts(w.AddLogs) },
		func() { w, _ := version.Apply(v, e); wipe(w.Tables); wipeInts(w.Logs) },
		func() { w, _ := version.Apply(v, api.Edit{}); wipe(w.Tables); wipeInts(w.Logs) },
		func() { w, _ := version.Apply(api.Version{}, version.Whole(v)); wipe(w.Tables); wipeInts(w.Logs) },
		func() {
			w, _ := version.Apply(api.Version{}, api.Edit{Add: e.Add, AddLogs: e.AddLogs})
			wipe(w.Tables)
			wipeInts(w.Logs)
		},
		func() { version.Encode(e) },
		func() { version.Apply(v, api.Edit{Add: e.Add, AddLogs: []int{21}}) },
	} {
		f()
		if after := kept(); !slices.Equal(before, after) {
			t.Fatalf("%v became %v", before, after)
		}
	}
	one, _ := version.Decode(b)
	two, _ := version.Decode(b)
	wipe(one.Add)
	for _, l := range [][]int{one.Drop, one.AddLogs, one.DropLogs} {
		wipeInts(l)
	}
	if !sameEdit(two, e) {
		t.Errorf("two results share memory: %v", two)
	}
	one, _ = version.Decode(b)
	wipeInts(one.Drop)
	wipeInts(one.DropLogs)
	if !slices.Equal(one.AddLogs, e.AddLogs) {
		t.Errorf("two lists of a result share memory: %v", one)
	}
}
