package pick_test

import (
	"errors"
	"math"
	"slices"
	"strconv"
	"strings"
	"testing"

	"palinode/api"
	"palinode/pick"
	"palinode/version"
)

// of is a table of level, whose first key and last key are the two halves of span.
func of(id, level int, span string, bytes int) api.Meta {
	half := len(span) / 2
	return api.Meta{ID: id, Level: level, Min: span[:half], Max: span[half:], Bytes: bytes}
}

// with is a version of some tables.
func with(tables ...api.Meta) api.Version {
	return api.Version{Tables: tables, Logs: []int{api.MaxNumber}, Seq: 7}
}

// numbers is some IDs.
func numbers(l ...int) []int { return l }

// loose is three tables of level 0 that reach from c to h, with nothing between d and g.
func loose() []api.Meta {
	return []api.Meta{of(1, 0, "gh", 100), of(2, 0, "cd", 100), of(3, 0, "cc", 100)}
}

// small is many tables of a level, in order, each of so many bytes, with the IDs from first on.
func small(first, level, many, bytes int) []api.Meta {
	var l []api.Meta
	for i := range many {
		key := "k" + strconv.Itoa(1000+i)
		l = append(l, api.Meta{ID: first + i, Level: level, Min: key, Max: key, Bytes: bytes})
	}
	return l
}

// sameJob tells whether two jobs are the same, be an empty list nil or not.
func sameJob(a, b api.Job) bool {
	return a.Level == b.Level && slices.Equal(a.In, b.In) && slices.Equal(a.Under, b.Under) && a.Bottom == b.Bottom
}

// picks checks which job a version has, and that it is a version.
func picks(t *testing.T, v api.Version, level int, in, under []int, bottom bool) {
	t.Helper()
	want := api.Job{Level: level, In: in, Under: under, Bottom: bottom}
	if got, ok := pick.Pick(v); !sameJob(got, want) || !ok {
		t.Errorf("Pick(%v) = %v, %t; want %v", v, got, ok, want)
	}
	if !version.Right(v) {
		t.Errorf("%v is no version", v)
	}
}

// nothing checks that there is no job.
func nothing(t *testing.T, v api.Version) {
	t.Helper()
	got, ok := pick.Pick(v)
	if got.Level != 0 || len(got.In) != 0 || len(got.Under) != 0 || got.Bottom || ok {
		t.Errorf("Pick(%v) = %v, %t; want nothing", v, got, ok)
	}
}

// rests checks that a version is one, with nothing to compact.
func rests(t *testing.T, v api.Version) {
	t.Helper()
	nothing(t, v)
	if !version.Right(v) {
		t.Errorf("%v is no version", v)
	}
}

// P16.1: of all levels, two have a limit.
func TestLimit(t *testing.T) {
	for level := -1000; level < 1000; level++ {
		want := map[int]int{1: 4000, 2: 16000}[level]
		if got := pick.Limit(level); got != want {
			t.Errorf("Limit(%d) = %d; want %d", level, got, want)
		}
	}
	for _, level := range []int{math.MinInt, math.MinInt + 1, math.MaxInt, math.MaxInt - 1, 1 << 32, 1<<32 + 1, 1<<32 + 2, -1 << 32, 1<<62 + 1, 4000, 16000, api.MaxNumber} {
		if got := pick.Limit(level); got != 0 {
			t.Errorf("Limit(%d) = %d; want 0", level, got)
		}
	}
}

// P16.2: the chapter's example, and other versions with nothing to compact.
func TestNothingToCompact(t *testing.T) {
	rests(t, api.Version{})
	rests(t, api.Version{Logs: numbers(9, 4), Seq: api.MaxNumber})
	rests(t, with(of(1, 0, "az", api.MaxText)))
	rests(t, with(of(1, 0, "az", api.MaxText), of(2, 0, "az", api.MaxText)))
	rests(t, with(of(1, 1, "az", 4000)))
	rests(t, with(of(1, 2, "az", 16000)))
	rests(t, with(of(1, 3, "az", api.MaxText)))
	rests(t, with(small(1, 3, 200, api.MaxText)...))
	rests(t, with(slices.Concat(small(1, 0, 2, api.MaxText), small(3, 1, 40, 100), small(43, 2, 100, 160), small(143, 3, 50, api.MaxText))...))
}

// P16.2: from three tables of level 0 on, all of them are compacted, in the order of their IDs, be their bytes many or few.
func TestLevelZero(t *testing.T) {
	picks(t, with(loose()...), 0, numbers(1, 2, 3), nil, true)
	picks(t, with(of(5, 0, "zz", 1), of(7, 0, "aa", 1), of(900, 0, "mm", 1), of(api.MaxNumber-1, 0, "bb", api.MaxText)), 0, numbers(5, 7, 900, api.MaxNumber-1), nil, true)
	for many := range 201 {
		v := with(small(1, 0, many, 4001)...)
		if many < 3 {
			rests(t, v)
			continue
		}
		var all []int
		for id := range many {
			all = append(all, id+1)
		}
		picks(t, v, 0, all, nil, true)
	}
}

// P16.2: of level 1 and level 2 the first table is compacted, if all of them have more bytes than the limit.
func TestFullLevels(t *testing.T) {
	for level, limit := range map[int]int{1: 4000, 2: 16000} {
		rests(t, with(of(9, level, "aa", limit-1), of(5, level, "bb", 1)))
		picks(t, with(of(9, level, "aa", limit), of(5, level, "bb", 1)), level, numbers(9), nil, true)
		picks(t, with(of(9, level, "aa", 1), of(5, level, "bb", limit)), level, numbers(9), nil, true)
		picks(t, with(of(9, level, "aa", limit+1)), level, numbers(9), nil, true)
		picks(t, with(of(9, level, "aa", limit-1), of(5, level, "bb", 2)), level, numbers(9), nil, true)
		picks(t, with(of(9, level, "aa", 1), of(5, level, "bc", limit-2), of(1, level, "de", 2), of(2, level, "xx", 1)), level, numbers(9), nil, true)
		picks(t, with(small(1, level, 200, api.MaxText)...), level, numbers(1), nil, true)
		rests(t, with(small(1, level, 200, limit/200)...))
		picks(t, with(append(small(1, level, 199, limit/200), of(500, level, "zz", limit/200+1))...), level, numbers(1), nil, true)
	}
	picks(t, with(of(4, 2, "aa", 4001), of(5, 2, "bb", 12000)), 2, numbers(4), nil, true)
	rests(t, with(of(4, 2, "aa", 4001)))
}

// P16.2: the bytes of each level count alone.
func TestBytesOfEachLevelCountAlone(t *testing.T) {
	rests(t, with(of(1, 0, "az", 4000), of(2, 0, "az", 4000), of(3, 1, "aa", 2000), of(4, 1, "bb", 2000), of(5, 2, "aa", 16000), of(6, 3, "aa", 99999)))
	picks(t, with(of(1, 0, "az", 4000), of(3, 1, "aa", 2000), of(4, 1, "bb", 2000), of(5, 2, "aa", 16000), of(8, 2, "bb", 1), of(6, 3, "aa", 99999)), 2, numbers(5), numbers(6), true)
}

// P16.2: level 0 goes ahead of level 1, and that ahead of level 2.
func TestTheFirstLevelThatIsDue(t *testing.T) {
	one, two := []api.Meta{of(11, 1, "cd", 4000), of(12, 1, "ef", 1)}, []api.Meta{of(21, 2, "dd", 15000), of(22, 2, "ee", 1001)}
	three := []api.Meta{of(31, 3, "dd", 99999)}
	picks(t, with(slices.Concat(loose(), one, two, three)...), 0, numbers(1, 2, 3), numbers(11, 12), false)
	picks(t, with(slices.Concat(loose(), two, three)...), 0, numbers(1, 2, 3), nil, false)
	picks(t, with(slices.Concat(loose()[:2], one, two, three)...), 1, numbers(11), numbers(21), false)
	picks(t, with(slices.Concat(loose()[:2], one[:1], two, three)...), 2, numbers(21), numbers(31), true)
	picks(t, with(slices.Concat(one, two)...), 1, numbers(11), numbers(21), true)
	picks(t, with(slices.Concat(two, three)...), 2, numbers(21), numbers(31), true)
	rests(t, with(slices.Concat(loose()[:2], one[:1], two[:1], three)...))
}

// P16.2: the tables of the next level with a key between the least and the greatest one, these two among them, in their order.
func TestUnder(t *testing.T) {
	for _, c := range []struct {
		span  string
		under bool
	}{
		{"ab", false}, {"bb", false}, {"ac", true}, {"cc", true}, {"ad", true}, {"dd", true}, {"ee", true}, {"ef", true}, {"fg", true}, {"hh", true}, {"hz", true}, {"gz", true}, {"az", true},
		{"ii", false}, {"iz", false}, {"\x00\xff", true}, {"\x00\x00", false}, {"\xff\xff", false},
		{"bzb\xff", false}, {"c\x00c\x01", true}, {"h\x00h\x01", false}, {"gzzh\x00\x00", true}, {"CH", false},
	} {
		next := of(8, 1, c.span, 5)
		var under []int
		if c.under {
			under = numbers(8)
		}
		picks(t, with(append(loose(), next)...), 0, numbers(1, 2, 3), under, true)
		for level := 1; level < 3; level++ {
			next.Level = level + 1
			picks(t, with(of(6, level, "ch", 16001), of(5, level, "zz", 1), next), level, numbers(6), under, true)
		}
	}
	picks(t, with(append(loose(), of(30, 1, "aa", 1), of(20, 1, "bc", 1), of(90, 1, "de", 1), of(10, 1, "ff", 1), of(80, 1, "hi", 1), of(70, 1, "jk", 1))...), 0, numbers(1, 2, 3), numbers(20, 90, 10, 80), true)
	picks(t, with(of(5, 1, "ch", 4000), of(6, 1, "ix", 4000), of(30, 2, "aa", 1), of(20, 2, "bc", 1), of(90, 2, "de", 1), of(10, 2, "ff", 1), of(80, 2, "hi", 1), of(70, 2, "jk", 1)), 1, numbers(5), numbers(20, 90, 10, 80), true)
	picks(t, with(slices.Concat(small(300, 0, 5, 1), small(1, 1, 100, 1))...), 0, numbers(300, 301, 302, 303, 304), numbers(1, 2, 3, 4, 5), true)
}

// P16.2: a range is from the least key of all tables to the greatest one of all, whichever tables they come from.
func TestReach(t *testing.T) {
	for at := range 3 {
		for other := range 3 {
			l := []api.Meta{of(1, 0, "mm", 1), of(2, 0, "mm", 1), of(3, 0, "mm", 1)}
			l[at].Min, l[other].Max = "d", "t"
			picks(t, with(append(l, of(10, 1, "ac", 1), of(11, 1, "dd", 1), of(12, 1, "ef", 1), of(13, 1, "nt", 1), of(14, 1, "uz", 1))...), 0, numbers(1, 2, 3), numbers(11, 12, 13), true)
			picks(t, with(append(l, of(10, 1, "ac", 1), of(14, 1, "uz", 1), of(20, 2, "ac", 1), of(24, 2, "uz", 1))...), 0, numbers(1, 2, 3), nil, true)
			picks(t, with(append(l, of(20, 3, "ac", 1), of(21, 3, "dd", 1), of(24, 3, "uz", 1))...), 0, numbers(1, 2, 3), nil, false)
			picks(t, with(append(l, of(20, 3, "ac", 1), of(21, 3, "tt", 1), of(24, 3, "uz", 1))...), 0, numbers(1, 2, 3), nil, false)
		}
	}
}

// P16.2: what the tables of the next level reach makes no other table of that level one of the job.
func TestUnderDoesNotSpread(t *testing.T) {
	picks(t, with(of(1, 0, "mm", 1), of(2, 0, "mm", 1), of(3, 0, "mm", 1), of(10, 1, "ab", 1), of(11, 1, "cx", 1), of(12, 1, "yz", 1)), 0, numbers(1, 2, 3), numbers(11), true)
	picks(t, with(of(1, 1, "mm", 4001), of(2, 1, "yz", 1), of(11, 2, "cx", 1), of(12, 2, "yz", 1)), 1, numbers(1), numbers(11), true)
}

// P16.2: a table of a level behind the next one with a key of the whole job, also of the next level's part of it.
func TestBottom(t *testing.T) {
	for _, c := range []struct {
		span   string
		bottom bool
	}{
		{"ab", true}, {"ac", false}, {"cc", false}, {"ee", false}, {"dd", false}, {"hh", false}, {"iz", false}, {"kk", false}, {"kz", false}, {"ll", true}, {"lz", true},
		{"k\x00kz", true}, {"bzb\xff", true}, {"az", false}, {"j\x00k\x00", false}, {"\x00\x00", true}, {"\xff\xff", true},
	} {
		for deeper := 2; deeper < 4; deeper++ {
			// Level 0 reaches from c to h, and with the table of level 1 from c to k.
			picks(t, with(append(loose(), of(8, 1, "hk", 1), of(9, 1, "lz", 1), of(7, deeper, c.span, 1))...), 0, numbers(1, 2, 3), numbers(8), c.bottom)
		}
		picks(t, with(of(1, 1, "eh", 4001), of(2, 1, "lz", 1), of(3, 2, "ce", 1), of(4, 2, "hk", 1), of(5, 2, "lz", 1), of(7, 3, c.span, 1)), 1, numbers(1), numbers(3, 4), c.bottom)
		picks(t, with(of(1, 2, "ck", 16001), of(2, 2, "lz", 1), of(7, 3, c.span, 1)), 2, numbers(1), under(7, !c.bottom), true)
	}
}

// under is an ID, if it is one of the job.
func under(id int, is bool) []int {
	if is {
		return numbers(id)
	}
	return nil
}

// P16.2: one table of many below is enough, and those above and beside the job don't count.
func TestBottomOfMany(t *testing.T) {
	picks(t, with(append(loose(), of(4, 2, "ab", 1), of(5, 2, "zz", 1), of(6, 3, "aa", 1), of(7, 3, "zz", 1))...), 0, numbers(1, 2, 3), nil, true)
	picks(t, with(append(loose(), of(4, 2, "ab", 1), of(5, 2, "zz", 1), of(6, 3, "aa", 1), of(8, 3, "ff", 1), of(7, 3, "zz", 1))...), 0, numbers(1, 2, 3), nil, false)
	picks(t, with(append(loose(), of(4, 2, "ab", 1), of(8, 2, "ff", 1), of(5, 2, "zz", 1), of(6, 3, "aa", 1), of(7, 3, "zz", 1))...), 0, numbers(1, 2, 3), nil, false)
	picks(t, with(of(1, 0, "az", 1), of(2, 0, "az", 1), of(3, 1, "cd", 4000), of(4, 1, "ee", 1), of(5, 2, "dd", 1)), 1, numbers(3), numbers(5), true)
	picks(t, with(of(1, 0, "az", 1), of(2, 0, "az", 1), of(3, 1, "az", 4000), of(4, 2, "cd", 16000), of(5, 2, "ee", 1), of(6, 3, "dd", 1)), 2, numbers(4), numbers(6), true)
}

// P16.2: keys that are the beginning of others, and bytes beyond those of letters.
func TestKeysByBytes(t *testing.T) {
	k := strings.Repeat("k", api.MaxKey)
	deep := func(least, greatest string) api.Version {
		return api.Version{Tables: []api.Meta{
			{ID: 1, Level: 1, Min: "ab", Max: k, Bytes: 4001},
			{ID: 2, Level: 2, Min: least, Max: greatest, Bytes: 1},
		}}
	}
	picks(t, deep("a", "aa"), 1, numbers(1), nil, true)
	picks(t, deep("a", "ab"), 1, numbers(1), numbers(2), true)
	picks(t, deep("a", "ab\x00"), 1, numbers(1), numbers(2), true)
	picks(t, deep(k, k), 1, numbers(1), numbers(2), true)
	picks(t, deep(k[:79], k[:79]), 1, numbers(1), numbers(2), true)
	picks(t, deep(k[:79]+"l", "é"), 1, numbers(1), nil, true)
	picks(t, deep("é", "\xff"), 1, numbers(1), nil, true)
}

// dues is versions with a job, each of another level.
func dues() []api.Version {
	return []api.Version{
		{Tables: append(loose(), of(4, 1, "ab", 1), of(5, 1, "cd", 1), of(6, 2, "ef", 1)), Logs: numbers(20, 10), Seq: 9},
		{Tables: []api.Meta{of(3, 0, "ab", 1), of(4, 1, "ab", 3000), of(5, 1, "cd", 3000), of(6, 2, "ef", 1)}, Logs: numbers(20, 10), Seq: 9},
		{Tables: []api.Meta{of(3, 0, "ab", 1), of(4, 2, "ab", 9000), of(5, 2, "cd", 9000), of(6, 3, "ef", 1)}, Logs: numbers(20, 10), Seq: 9},
	}
}

// wrongs is versions that are not valid, each for one reason; but for that they would have a job.
func wrongs() []api.Version {
	var out []api.Version
	bend := func(change func(v *api.Version)) {
		for _, v := range dues() {
			change(&v)
			out = append(out, v)
		}
	}
	// The tables are told from behind, where all of them have the same IDs and keys.
	last := func(v *api.Version, from int) *api.Meta { return &v.Tables[len(v.Tables)-from] }
	for _, n := range []int{-1, math.MinInt, api.MaxNumber + 1, math.MaxInt} {
		bend(func(v *api.Version) { v.Seq = n })
		bend(func(v *api.Version) { v.Logs[1] = n })
		bend(func(v *api.Version) { last(v, 1).ID = n })
		bend(func(v *api.Version) { last(v, 1).Level = n })
		bend(func(v *api.Version) { last(v, 1).Bytes = n })
	}
	bend(func(v *api.Version) { v.Logs[0] = 0 })
	bend(func(v *api.Version) { last(v, 1).ID = 0 })
	bend(func(v *api.Version) { last(v, 1).Level = api.MaxLevels })
	bend(func(v *api.Version) { last(v, 1).Bytes = 0 })
	bend(func(v *api.Version) { last(v, 1).Bytes = api.MaxText + 1 })
	bend(func(v *api.Version) { last(v, 1).Min = "" })
	bend(func(v *api.Version) { last(v, 1).Min = "g" })
	bend(func(v *api.Version) { last(v, 1).Min = strings.Repeat("e", api.MaxKey+1) })
	bend(func(v *api.Version) { last(v, 1).Max = strings.Repeat("f", api.MaxKey+1) })
	bend(func(v *api.Version) { v.Tables[0].Max = "" })
	bend(func(v *api.Version) { last(v, 1).ID = 3 })
	bend(func(v *api.Version) { last(v, 1).ID = 10 })
	bend(func(v *api.Version) { v.Logs[0] = v.Logs[1] })
	bend(func(v *api.Version) { last(v, 2).Min = "b" })
	bend(func(v *api.Version) { last(v, 3).Max = "c" })
	bend(func(v *api.Version) { *last(v, 2), *last(v, 3) = *last(v, 3), *last(v, 2) })
	bend(func(v *api.Version) { *last(v, 1), *last(v, 2) = *last(v, 2), *last(v, 1) })
	bend(func(v *api.Version) { *last(v, 4), *last(v, 3) = *last(v, 3), *last(v, 4) })
	bend(func(v *api.Version) { v.Tables = slices.Insert(v.Tables, 1, of(2, 0, "aa", 1)) })
	bend(func(v *api.Version) { v.Tables = append(v.Tables, *last(v, 1)) })
	bend(func(v *api.Version) { v.Tables = append(v.Tables, small(100, 3, 200, 1)...) })
	bend(func(v *api.Version) {
		for id := range 19 {
			v.Logs = append(v.Logs, 100+id)
		}
	})
	return out
}

// P16.2: what is no version has no job.
func TestNoVersion(t *testing.T) {
	picks(t, dues()[0], 0, numbers(1, 2, 3), numbers(5), false)
	picks(t, dues()[1], 1, numbers(4), nil, true)
	picks(t, dues()[2], 2, numbers(4), nil, true)
	for _, v := range wrongs() {
		nothing(t, v)
		if version.Right(v) {
			t.Errorf("%v is a version", v)
		}
	}
}

// P16.2: versions at the limits have jobs.
func TestVersionsAtTheLimits(t *testing.T) {
	v := with(append(loose(), small(100, 3, 197, api.MaxText)...)...)
	for id := range 19 {
		v.Logs = append(v.Logs, 1000+id)
	}
	v.Seq = api.MaxNumber
	picks(t, v, 0, numbers(1, 2, 3), nil, true)
	v.Seq = 0
	picks(t, v, 0, numbers(1, 2, 3), nil, true)
	v.Tables = append(v.Tables, of(99, 3, "zz", 1))
	nothing(t, v)
}

// P16.2: what a job takes away may be put into the next level, as one table or as two, and at last nothing is left to compact.
func TestJobsEnd(t *testing.T) {
	v := api.Version{}
	most := 0
	for id := 1; id < 400; id++ {
		key := string([]byte{byte('a' + id*7%26), byte('a' + id*11%26)})
		v = applied(t, v, api.Edit{Add: []api.Meta{{ID: id, Min: key, Max: key + "zzz", Bytes: 1 + id*13%900}}})
		jobs := 0
		for job, ok := pick.Pick(v); ok; job, ok = pick.Pick(v) {
			if jobs++; jobs > 200 {
				t.Fatalf("no end of jobs: %v of %v", job, v)
			}
			v = done(t, v, job, key, 1000*id+2*jobs)
		}
		most = max(most, jobs)
	}
	if len(version.Level(v, 3)) == 0 || most < 3 {
		t.Errorf("at most %d jobs at once, and these tables at the end: %v", most, v)
	}
}

// applied is a version behind an edit.
func applied(t *testing.T, v api.Version, e api.Edit) api.Version {
	t.Helper()
	w, err := version.Apply(v, e)
	if err != nil {
		t.Fatalf("Apply(%v, %v): %v", v, e, err)
	}
	return w
}

// done is a version behind a job whose tables became one of the next level, or two: with the keys up to at, and with the last one.
func done(t *testing.T, v api.Version, job api.Job, at string, id int) api.Version {
	t.Helper()
	e := api.Edit{Drop: slices.Concat(job.In, job.Under)}
	least, greatest := ends(v, e.Drop)
	bytes := 0
	for _, m := range v.Tables {
		if slices.Contains(e.Drop, m.ID) {
			bytes += m.Bytes
		}
	}
	m := api.Meta{ID: id, Level: job.Level + 1, Min: least, Max: greatest, Bytes: min(bytes, api.MaxText)}
	if least <= at && at < greatest && len(at) <= api.MaxKey {
		e.Add = []api.Meta{{ID: id + 1, Level: m.Level, Min: greatest, Max: greatest, Bytes: m.Bytes/3 + 1}}
		m.Max, m.Bytes = at, m.Bytes/3*2+1
	}
	e.Add = append(e.Add, m)
	return applied(t, v, e)
}

// P3: Pick leaves the version as it was, and what lies behind it.
func TestPickLeavesTheVersion(t *testing.T) {
	tables := append(loose(), of(9, 1, "ad", 1), of(4, 1, "ee", 1), of(5, 1, "xz", 1), of(6, 2, "ef", 1), of(7, 2, "zz", 1), of(8, 3, "mm", 20000))
	was := slices.Clone(tables)
	for from := range tables {
		for to := from; to <= len(tables); to++ {
			v := api.Version{Tables: tables[from:to], Logs: numbers(100, 50)}
			pick.Pick(v)
			if !slices.Equal(tables, was) || !slices.Equal(v.Logs, numbers(100, 50)) || len(v.Tables) != to-from {
				t.Fatalf("Pick made %v, %v of its argument", tables, v)
			}
		}
	}
}

// P3: the lists of a job are new memory, up to their capacity.
func TestJobsAreNew(t *testing.T) {
	for _, v := range []api.Version{
		with(append(loose(), of(9, 1, "ad", 1), of(4, 1, "ee", 1), of(5, 1, "fz", 1))...),
		with(of(9, 1, "ad", 3000), of(4, 1, "ee", 3000), of(5, 2, "az", 1)),
		with(of(9, 2, "ad", 13000), of(4, 2, "ee", 4000), of(5, 3, "ab", 1), of(6, 3, "cd", 1)),
	} {
		one, ok := pick.Pick(v)
		two, ok2 := pick.Pick(v)
		if !ok || !ok2 || !sameJob(one, two) {
			t.Fatalf("Pick(%v) = %v, %t; and again %v, %t", v, one, ok, two, ok2)
		}
		under, second := slices.Clone(one.Under), api.Job{Level: two.Level, In: slices.Clone(two.In), Under: slices.Clone(two.Under), Bottom: two.Bottom}
		clear(one.In[:cap(one.In)])
		_ = append(one.In, -1, -2, -3)
		if !slices.Equal(one.Under, under) || !sameJob(two, second) {
			t.Errorf("behind a change of In: Under is %v, the other job %v", one.Under, two)
		}
		clear(one.Under[:cap(one.Under)])
		_ = append(one.Under, -1, -2, -3)
		if again, ok := pick.Pick(v); !sameJob(two, second) || !sameJob(again, second) || !ok {
			t.Errorf("behind a change of Under: the other job is %v, a new one %v", two, again)
		}
	}
}

// P4: earlier calls have no influence, also those that were refused.
func TestEarlierCallsHaveNoInfluence(t *testing.T) {
	l := entries("aabc")
	for range 3 {
		picks(t, with(loose()...), 0, numbers(1, 2, 3), nil, true)
		rests(t, api.Version{})
		nothing(t, wrongs()[0])
		picks(t, with(of(1, 1, "ab", 4000), of(2, 1, "cd", 1), of(3, 2, "bb", 1)), 1, numbers(1), numbers(3), true)
		cuts(t, l, 1, 2, 1, 1)
		refuses(t, l, 0)
		cuts(t, nil, 5)
	}
}

// entries is an entry for each letter, all of them different.
func entries(keys string) []api.Entry {
	var l []api.Entry
	for i := range len(keys) {
		l = append(l, api.Entry{Key: keys[i : i+1], Seq: len(keys) - i, Value: strconv.Itoa(i)})
	}
	return l
}

// cuts checks how many entries the pieces of a list have, and that together they are the list.
func cuts(t *testing.T, l []api.Entry, many int, want ...int) {
	t.Helper()
	pieces, err := pick.Cut(l, many)
	var sizes []int
	for _, p := range pieces {
		sizes = append(sizes, len(p))
	}
	if !slices.Equal(sizes, want) || !slices.Equal(slices.Concat(pieces...), l) || err != nil {
		t.Errorf("Cut(%.300v, %d) = %.300v, %v; want pieces of %.300v", l, many, pieces, err, want)
	}
}

// refuses checks that a list is not cut.
func refuses(t *testing.T, l []api.Entry, many int) {
	t.Helper()
	pieces, err := pick.Cut(l, many)
	if len(pieces) != 0 || err != api.ErrArg || !errors.Is(err, api.ErrArg) {
		t.Errorf("Cut(%.300v, %d) = %.300v, %v; want nothing, ErrArg", l, many, pieces, err)
	}
}

// P16.3: the chapter's example.
func TestCutExample(t *testing.T) {
	a, b, c, d := api.Entry{Key: "a", Seq: 2}, api.Entry{Key: "a", Seq: 1}, api.Entry{Key: "b", Seq: 3}, api.Entry{Key: "c", Seq: 4}
	pieces, err := pick.Cut([]api.Entry{a, b, c, d}, 1)
	want := [][]api.Entry{{a, b}, {c}, {d}}
	if !slices.EqualFunc(pieces, want, slices.Equal) || err != nil {
		t.Errorf("Cut = %v, %v; want %v", pieces, err, want)
	}
}

// P16.3: a piece ends as soon as it has enough entries and the key becomes another one.
func TestCut(t *testing.T) {
	for _, c := range []struct {
		keys string
		many int
		want []int
	}{
		{"a", 1, numbers(1)}, {"a", 2, numbers(1)},
		{"ab", 1, numbers(1, 1)}, {"ab", 2, numbers(2)}, {"ab", 3, numbers(2)},
		{"aa", 1, numbers(2)}, {"aa", 2, numbers(2)}, {"aa", 3, numbers(2)},
		{"aaaaaaa", 1, numbers(7)}, {"aaaaaaa", 3, numbers(7)},
		{"abcdefg", 1, numbers(1, 1, 1, 1, 1, 1, 1)}, {"abcdefg", 2, numbers(2, 2, 2, 1)}, {"abcdefg", 3, numbers(3, 3, 1)}, {"abcdefg", 4, numbers(4, 3)}, {"abcdefg", 6, numbers(6, 1)}, {"abcdefg", 7, numbers(7)}, {"abcdefg", 8, numbers(7)},
		{"abbbc", 1, numbers(1, 3, 1)}, {"abbbc", 2, numbers(4, 1)}, {"abbbc", 3, numbers(4, 1)}, {"abbbc", 4, numbers(4, 1)}, {"abbbc", 5, numbers(5)},
		{"aabbcc", 1, numbers(2, 2, 2)}, {"aabbcc", 2, numbers(2, 2, 2)}, {"aabbcc", 3, numbers(4, 2)}, {"aabbcc", 4, numbers(4, 2)}, {"aabbcc", 5, numbers(6)},
		{"abccc", 3, numbers(5)}, {"abccc", 2, numbers(2, 3)}, {"aaabc", 4, numbers(4, 1)},
	} {
		cuts(t, entries(c.keys), c.many, c.want...)
	}
}

// P16.3: an empty list has no pieces, however many entries they should have.
func TestCutNothing(t *testing.T) {
	for _, many := range []int{1, 2, 1000, math.MaxInt} {
		cuts(t, nil, many)
		cuts(t, []api.Entry{}, many)
	}
}

// P16.3, P6: pieces have at least one entry.
func TestCutFewerThanOne(t *testing.T) {
	for _, many := range []int{0, -1, -2, -1000, math.MinInt, math.MinInt + 1, math.MinInt32} {
		for _, keys := range []string{"", "a", "ab", "aabc", "abcdefg"} {
			refuses(t, entries(keys), many)
		}
	}
}

// P16.3, P6: pieces that should have more entries than there are.
func TestCutFarBeyondTheEnd(t *testing.T) {
	for _, many := range []int{8, 1000, math.MaxInt32, 1 << 32, api.MaxNumber, math.MaxInt - 7, math.MaxInt - 1, math.MaxInt} {
		cuts(t, entries("abcdefg"), many, 7)
		cuts(t, entries("a"), many, 1)
		cuts(t, entries("aaaaaaa"), many, 7)
	}
}

// P16.3: lists that are in no order; only entries that follow each other belong together, and all that counts of them is their key.
func TestCutAnyList(t *testing.T) {
	cuts(t, entries("aba"), 1, 1, 1, 1)
	cuts(t, entries("aabbaa"), 1, 2, 2, 2)
	cuts(t, entries("aabbaa"), 3, 4, 2)
	cuts(t, entries("zzyyx"), 2, 2, 2, 1)
	e := api.Entry{Key: "k", Seq: 4, Value: "x"}
	cuts(t, []api.Entry{e, e, e}, 1, 3)
	cuts(t, []api.Entry{e, {Key: "k", Seq: 9}, {Key: "k", Seq: 4, Drop: true}, {Key: "l", Seq: 4, Value: "x"}}, 1, 3, 1)
	cuts(t, []api.Entry{{}, {}, {Key: "k"}, {Seq: -1}, {Seq: math.MinInt, Drop: true, Value: "x"}}, 1, 2, 1, 2)
	long := strings.Repeat("k", 1000)
	cuts(t, []api.Entry{{Key: long}, {Key: long[:999]}, {Key: long[:999]}, {Key: long[1:]}, {Key: long[:999] + "l"}}, 1, 1, 3, 1)
	cuts(t, []api.Entry{{Key: "k"}, {Key: "k\x00"}, {Key: "K"}, {Key: "\xff"}, {Key: "é"}, {Key: "e\u0301"}}, 1, 1, 1, 1, 1, 1, 1)
}

// P1, P16.3: a long list is cut soon, into many pieces or few.
func TestCutLong(t *testing.T) {
	const many = 300000
	each, all := make([]api.Entry, many), make([]api.Entry, many)
	ones := make([]int, many)
	for i := range many {
		each[i] = api.Entry{Key: strconv.Itoa(i), Seq: 1}
		all[i] = api.Entry{Key: "k", Seq: many - i}
		ones[i] = 1
	}
	cuts(t, each, 1, ones...)
	cuts(t, each, many-1, many-1, 1)
	cuts(t, each, many, many)
	cuts(t, each, many/3, many/3, many/3, many/3)
	cuts(t, all, 1, many)
	cuts(t, all, many/2, many)
}

// P3: Cut leaves the list as it was, and what lies behind it.
func TestCutLeavesTheList(t *testing.T) {
	all := entries("aabbbcdeef")
	was := slices.Clone(all)
	for from := range all {
		for to := from; to <= len(all); to++ {
			for many := -1; many < 12; many++ {
				if _, err := pick.Cut(all[from:to], many); (err != nil) != (many < 1) || !slices.Equal(all, was) {
					t.Fatalf("Cut of the entries from %d to %d, %d each: %v; the list is %v", from, to, many, err, all)
				}
			}
		}
	}
}

// P3: the pieces are new memory, none of them has room in another one, and none in the list.
func TestPiecesAreNew(t *testing.T) {
	room := append(entries("aabbbcdeef"), make([]api.Entry, 20)...)
	l := room[:10]
	was := slices.Clone(room)
	for many := 1; many < 12; many++ {
		one, err := pick.Cut(l, many)
		two, err2 := pick.Cut(l, many)
		if err != nil || err2 != nil {
			t.Fatal(err, err2)
		}
		for i := range one {
			p := one[i]
			_ = append(p, api.Entry{Key: "appended"})
			clear(p[:cap(p)])
			rest := slices.Concat(one[i+1:]...)
			if !slices.Equal(rest, l[len(l)-len(rest):]) || !slices.Equal(slices.Concat(two...), l) || !slices.Equal(room, was) {
				t.Fatalf("behind a change of piece %d of %d, %d each: the pieces behind it are %v, those of the other call %v, the list %v", i, len(one), many, rest, two, room)
			}
		}
		// From the last one on, no piece ahead may change either.
		for i := len(two) - 1; i >= 0; i-- {
			p := two[i]
			_ = append(p[:0:cap(p)], make([]api.Entry, cap(p))...)
			ahead := slices.Concat(two[:i]...)
			if !slices.Equal(ahead, l[:len(ahead)]) {
				t.Fatalf("behind a change of piece %d, %d each: the pieces ahead of it are %v", i, many, ahead)
			}
		}
		clear(one[:cap(one)])
		cuts(t, l, many, sizes(l, many)...)
	}
}

// P3: what was cut does not change with the list.
func TestTheListIsNotKept(t *testing.T) {
	l := entries("aabc")
	pieces, err := pick.Cut(l, 2)
	clear(l)
	if !slices.Equal(slices.Concat(pieces...), entries("aabc")) || err != nil {
		t.Errorf("behind a change of the list: %v, %v", pieces, err)
	}
}
