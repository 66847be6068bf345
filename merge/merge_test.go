package merge_test

import (
	"errors"
	"math"
	"math/rand"
	"slices"
	"strconv"
	"strings"
	"testing"

	"palinode/api"
	"palinode/merge"
)

// put is an entry with a value.
func put(key string, seq int, value string) api.Entry {
	return api.Entry{Key: key, Seq: seq, Value: value}
}

// drop is an entry that says that a key is gone.
func drop(key string, seq int) api.Entry {
	return api.Entry{Key: key, Seq: seq, Drop: true}
}

// list is some entries.
func list(l ...api.Entry) []api.Entry { return l }

// merges checks what Merge makes of lists.
func merges(t *testing.T, lists [][]api.Entry, want ...api.Entry) {
	t.Helper()
	if got, err := merge.Merge(lists); !slices.Equal(got, want) || err != nil {
		t.Errorf("Merge(%v) = %v, %v; want %v", lists, got, err, want)
	}
}

// folds checks what Fold leaves of a list, and that it shows the same.
func folds(t *testing.T, l []api.Entry, keep []int, bottom bool, want ...api.Entry) {
	t.Helper()
	got, err := merge.Fold(l, keep, bottom)
	if !slices.Equal(got, want) || err != nil {
		t.Errorf("Fold(%v, %v, %t) = %v, %v; want %v", l, keep, bottom, got, err, want)
	}
	showsTheSame(t, l, got, keep)
}

// sees checks what See tells of a list at a number.
func sees(t *testing.T, l []api.Entry, seq int, want ...api.Entry) {
	t.Helper()
	if got, err := merge.See(l, seq); !slices.Equal(got, want) || err != nil {
		t.Errorf("See(%v, %d) = %v, %v; want %v", l, seq, got, err, want)
	}
}

// refused checks that a call told nothing but an error.
func refused(t *testing.T, call string, l []api.Entry, err error) {
	t.Helper()
	if len(l) != 0 || err != api.ErrArg || !errors.Is(err, api.ErrArg) {
		t.Errorf("%s = %v, %v; want nothing, ErrArg", call, l, err)
	}
}

// refuses checks that all calls refuse a list.
func refuses(t *testing.T, l []api.Entry) {
	t.Helper()
	good := list(put("a", 9, "x"), put("b", 1, "y"))
	for _, lists := range [][][]api.Entry{{l}, {l, nil}, {nil, l}, {good, l}, {l, good}, {good, l, good}, {nil, good, nil, good, l}} {
		got, err := merge.Merge(lists)
		refused(t, "Merge of a list that isn't sorted", got, err)
	}
	for _, keep := range [][]int{nil, {1}, {3, 2, 2}, {-1, math.MaxInt}} {
		got, err := merge.Fold(l, keep, false)
		refused(t, "Fold of a list that isn't sorted", got, err)
		got, err = merge.Fold(l, keep, true)
		refused(t, "Fold of a list that isn't sorted", got, err)
	}
	for _, seq := range []int{math.MinInt, -1, 0, 1, 9, math.MaxInt} {
		got, err := merge.See(l, seq)
		refused(t, "See of a list that isn't sorted", got, err)
	}
}

// numbered is many entries, in order.
func numbered(many int) []api.Entry {
	l := make([]api.Entry, many)
	for i := range l {
		l[i] = put("key "+strconv.Itoa(1000000+i), 1+i%7, strconv.Itoa(i))
	}
	return l
}

// history is many versions of a key, in order, the last one with number 1.
func history(key string, many int) []api.Entry {
	l := make([]api.Entry, many)
	for i := range l {
		l[i] = put(key, many-i, strconv.Itoa(i))
	}
	return l
}

// P15.2, P15.3: the chapter's examples.
func TestExamples(t *testing.T) {
	a := list(put("a", 5, "five"), put("a", 3, "three"), put("a", 1, "one"))
	folds(t, a, []int{4, 4}, false, a[0], a[1])
	folds(t, list(drop("a", 5), put("a", 3, "three")), nil, true)
	sees(t, list(drop("a", 5), put("a", 3, "three"), put("b", 9, "nine")), 4, put("a", 3, "three"))
}

// P15.1: the entries of all lists, by their keys, and of one key the newest one first.
func TestMerge(t *testing.T) {
	merges(t, [][]api.Entry{
		{put("a", 5, "x"), drop("a", 2), put("c", 1, "")},
		{put("a", 4, "y"), put("b", 6, "y")},
		nil,
		{drop("a", 6), put("a", 1, "z"), put("ab", 1, "z"), drop("d", 1)},
	}, drop("a", 6), put("a", 5, "x"), put("a", 4, "y"), drop("a", 2), put("a", 1, "z"), put("ab", 1, "z"), put("b", 6, "y"), put("c", 1, ""), drop("d", 1))
	merges(t, [][]api.Entry{
		{put("\xff\xff", 1, "4")},
		{put("\xff", api.MaxNumber, "2"), put("\xff", 256, "3")},
		{put("\x00", 1, "0"), put("é", 9, "1")},
	}, put("\x00", 1, "0"), put("é", 9, "1"), put("\xff", api.MaxNumber, "2"), put("\xff", 256, "3"), put("\xff\xff", 1, "4"))
}

// P15.1: no lists, and lists without entries.
func TestMergeNothing(t *testing.T) {
	merges(t, nil)
	merges(t, [][]api.Entry{})
	merges(t, [][]api.Entry{nil})
	merges(t, [][]api.Entry{nil, {}, nil})
	merges(t, make([][]api.Entry, 1000000))
	e := put("a", 1, "x")
	for many := range 12 {
		for at := range many {
			lists := make([][]api.Entry, many)
			lists[at] = list(e)
			merges(t, lists, e)
		}
	}
}

// P15.1: of the same key and number the entry of the first list that has one is used, whatever it says, and wherever that list stands.
func TestMergeTakesTheFirst(t *testing.T) {
	const many = 13
	for mask := 1; mask < 1<<many; mask++ {
		var lists [][]api.Entry
		want := api.Entry{}
		for at := range many {
			l := list(put("a", at+1, "other"))
			if mask>>at&1 == 1 {
				e := put("k", 5, "of list "+strconv.Itoa(at))
				if at%3 == 1 {
					e = drop("k", 5)
				}
				l = append(l, e)
				if want.Key == "" {
					want = e
				}
			}
			lists = append(lists, l)
		}
		got, err := merge.Merge(lists)
		if len(got) != many+1 || got[many] != want || err != nil {
			t.Fatalf("Merge(%v) = %v, %v; want %v at its end", lists, got, err, want)
		}
	}
}

// P15.1: only entries of the same key and the same number stand for each other.
func TestMergeTellsEntriesApartByKeyAndSeq(t *testing.T) {
	x, y := put("a", 5, "x"), put("a", 5, "y")
	merges(t, [][]api.Entry{{x}, {y}}, x)
	merges(t, [][]api.Entry{{y}, {x}}, y)
	merges(t, [][]api.Entry{{x}, {x}}, x)
	merges(t, [][]api.Entry{{x}, {drop("a", 5)}}, x)
	merges(t, [][]api.Entry{{drop("a", 5)}, {x}}, drop("a", 5))
	merges(t, [][]api.Entry{{x}, {put("a", 4, "x")}}, x, put("a", 4, "x"))
	merges(t, [][]api.Entry{{x}, {put("a", 6, "x")}}, put("a", 6, "x"), x)
	merges(t, [][]api.Entry{{x}, {put("a\x00", 5, "x")}}, x, put("a\x00", 5, "x"))
	merges(t, [][]api.Entry{{x}, {put("A", 5, "x")}}, put("A", 5, "x"), x)
	merges(t, [][]api.Entry{{put("a", api.MaxNumber, "x")}, {put("a", api.MaxNumber-1, "y"), put("a", 1, "z")}, {put("a", api.MaxNumber, "y")}}, put("a", api.MaxNumber, "x"), put("a", api.MaxNumber-1, "y"), put("a", 1, "z"))
}

// P15.1: the same list, however often, is that list.
func TestMergeTheSameList(t *testing.T) {
	l := list(put("a", 5, "x"), drop("a", 2), put("b", 6, ""), put("c", 1, "z"))
	for many := 1; many < 40; many++ {
		merges(t, slices.Repeat([][]api.Entry{l}, many), l...)
	}
}

// P15.1: entries that are dealt to many lists come together again.
func TestMergeWhatWasDealt(t *testing.T) {
	l := append(numbered(400), history("z", 400)...)
	source := rand.New(rand.NewSource(151))
	for many := 1; many < 70; many++ {
		lists := make([][]api.Entry, many)
		turns := make([][]api.Entry, many)
		for i, e := range l {
			at := source.Intn(many)
			lists[at] = append(lists[at], e)
			turns[i%many] = append(turns[i%many], e)
		}
		merges(t, lists, l...)
		merges(t, turns, l...)
	}
}

// P15.1, P15.2, P15.3: what is sorted is not sorted anymore with an entry that is not valid.
func TestEntriesThatAreNotValid(t *testing.T) {
	key, value := strings.Repeat("k", 80), strings.Repeat("v", 300)
	for _, e := range []api.Entry{
		{}, put("", 1, "x"), drop("", 1), put(key+"k", 1, ""), drop(key+"k", 1), put(strings.Repeat("k", 1000), 1, ""),
		put("k", 1, value+"v"), put("k", 1, strings.Repeat(value, 1000)), {Key: "k", Seq: 1, Drop: true, Value: "x"}, {Key: "k", Seq: 1, Drop: true, Value: value + "v"},
		put("k", 0, ""), put("k", -1, ""), put("k", math.MinInt, ""), put("k", api.MaxNumber+1, ""), put("k", math.MaxInt, ""), drop("k", 0), drop("k", math.MaxInt),
	} {
		refuses(t, list(e))
		refuses(t, list(e, put("z", 1, "x")))
		refuses(t, list(put("a", 1, "x"), e))
		refuses(t, list(put("a", 1, "x"), e, put("z", 1, "x")))
	}
	for _, e := range []api.Entry{put(key, api.MaxNumber, value), drop(key, api.MaxNumber), put("\x00", 1, ""), put("\xff", 1, "\x00"), drop("a", 1)} {
		merges(t, [][]api.Entry{{e}}, e)
		folds(t, list(e), nil, false, e)
		if e.Drop {
			sees(t, list(e), math.MaxInt)
		} else {
			sees(t, list(e), math.MaxInt, e)
		}
	}
}

// P15.1, P15.2, P15.3: entries that are not in order, at each place of a list, also if they say the same.
func TestEntriesThatAreNotInOrder(t *testing.T) {
	x := put("a", 5, "x")
	for _, l := range [][]api.Entry{
		{x, x}, {x, put("a", 5, "y")}, {x, drop("a", 5)}, {drop("a", 5), drop("a", 5)}, {x, put("a", 6, "x")}, {put("b", 1, ""), x}, {put("aa", 5, ""), x}, {put("\x80", 1, ""), put("\x7f", 1, "")},
		{put("a", 1, ""), put("a", 256, "")}, {put("b", 1, ""), put("a", 2, "")}, {put("b", 2, ""), put("a", 1, "")},
	} {
		refuses(t, l)
	}
	for at := range 20 {
		l := numbered(21)
		l[at], l[at+1] = l[at+1], l[at]
		refuses(t, l)
		l = history("k", 21)
		l[at], l[at+1] = l[at+1], l[at]
		refuses(t, l)
		l[at] = l[at+1]
		refuses(t, l)
	}
}

// P15.1: each list counts, wherever the one stands that is not sorted.
func TestMergeAsksEachList(t *testing.T) {
	for many := 1; many < 20; many++ {
		for at := range many {
			lists := slices.Repeat([][]api.Entry{numbered(3)}, many)
			lists[at] = list(put("b", 1, ""), put("a", 1, ""))
			got, err := merge.Merge(lists)
			refused(t, "Merge with a list that isn't sorted", got, err)
			lists[at] = list(put("a", 0, ""))
			got, err = merge.Merge(lists)
			refused(t, "Merge with an entry that isn't valid", got, err)
		}
	}
}

// P15.2: the newest entry of each key is needed, and those that are the newest at a number that is kept.
func TestFold(t *testing.T) {
	l := list(put("a", 9, "9"), put("a", 7, "7"), drop("a", 4), put("a", 2, "2"), put("ab", 8, "8"), put("ab", 3, "3"), drop("b", 5))
	for _, c := range []struct {
		keep []int
		want []api.Entry
	}{
		{nil, list(l[0], l[4], l[6])},
		{[]int{}, list(l[0], l[4], l[6])},
		{[]int{9}, list(l[0], l[4], l[6])},
		{[]int{10, 1000, api.MaxNumber, math.MaxInt}, list(l[0], l[4], l[6])},
		{[]int{8}, list(l[0], l[1], l[4], l[6])},
		{[]int{7}, list(l[0], l[1], l[4], l[5], l[6])},
		{[]int{6}, list(l[0], l[2], l[4], l[5], l[6])},
		{[]int{4}, list(l[0], l[2], l[4], l[5], l[6])},
		{[]int{3}, list(l[0], l[3], l[4], l[5], l[6])},
		{[]int{2}, list(l[0], l[3], l[4], l[6])},
		{[]int{1}, list(l[0], l[4], l[6])},
		{[]int{0, -1, math.MinInt}, list(l[0], l[4], l[6])},
		{[]int{2, 6}, list(l[0], l[2], l[3], l[4], l[5], l[6])},
		{[]int{8, 2}, list(l[0], l[1], l[3], l[4], l[6])},
		{[]int{7, 4, 2}, l},
		{[]int{2, 3, 4, 5, 6, 7, 8, 9, 1, 0}, l},
	} {
		folds(t, l, c.keep, false, c.want...)
	}
}

// P15.2: the numbers that are kept may stand in any order, and again and again.
func TestFoldKeepInAnyOrder(t *testing.T) {
	l := append(history("a", 9), history("b", 5)...)
	want, err := merge.Fold(l, []int{2, 4, 7}, false)
	if err != nil || len(want) != 7 {
		t.Fatalf("Fold = %v, %v", want, err)
	}
	for _, keep := range [][]int{{7, 4, 2}, {4, 7, 2}, {4, 2, 7}, {2, 7, 4}, {7, 2, 4}, {2, 2, 4, 4, 7, 7}, {7, 2, 4, 2, 7, 4, 2}, {math.MaxInt, 7, -1, 4, 0, 2, math.MinInt}} {
		folds(t, l, keep, false, want...)
		folds(t, l, keep, true, want...)
	}
}

// P15.2: at the bottom the last needed entries of a key go as long as they say that it is gone; what they hid does not come back.
func TestFoldBottom(t *testing.T) {
	for _, c := range []struct {
		l    []api.Entry
		keep []int
		want []api.Entry
	}{
		{list(drop("a", 5)), nil, nil},
		{list(drop("a", 5)), []int{5}, nil},
		{list(put("a", 5, "")), nil, list(put("a", 5, ""))},
		{list(drop("a", 5), put("a", 3, "x")), []int{3}, list(drop("a", 5), put("a", 3, "x"))},
		{list(drop("a", 5), put("a", 3, "x")), []int{2}, nil},
		{list(put("a", 5, "x"), drop("a", 3)), []int{3}, list(put("a", 5, "x"))},
		{list(put("a", 5, "x"), drop("a", 3), put("a", 1, "y")), []int{4}, list(put("a", 5, "x"))},
		{list(put("a", 5, "x"), drop("a", 3), put("a", 1, "y")), []int{4, 1}, list(put("a", 5, "x"), drop("a", 3), put("a", 1, "y"))},
		{list(drop("a", 5), drop("a", 4), drop("a", 3)), []int{4, 3}, nil},
		{list(drop("a", 5), drop("a", 4), put("a", 3, "x"), drop("a", 2), drop("a", 1)), []int{4, 3, 2, 1}, list(drop("a", 5), drop("a", 4), put("a", 3, "x"))},
		{list(drop("a", 5), put("a", 4, "x"), drop("a", 3), put("a", 2, "y")), []int{3}, nil},
		{list(drop("a", 2), put("b", 2, "x"), drop("c", 2), put("c", 1, "x"), drop("d", 2)), nil, list(put("b", 2, "x"))},
		{list(drop("a", 2), put("b", 2, "x"), drop("c", 2), put("c", 1, "x"), drop("d", 2)), []int{1}, list(put("b", 2, "x"), drop("c", 2), put("c", 1, "x"))},
		{list(put("a", 1, "x"), drop("aa", 1), drop("ab", 1), put("b", 1, "x")), []int{1}, list(put("a", 1, "x"), put("b", 1, "x"))},
	} {
		folds(t, c.l, c.keep, true, c.want...)
	}
}

// P15.2: not at the bottom entries without a value stay, since they may hide others.
func TestFoldNotAtTheBottom(t *testing.T) {
	l := list(drop("a", 5), drop("a", 4), put("a", 3, "x"), drop("a", 2), drop("b", 1))
	folds(t, l, nil, false, l[0], l[4])
	folds(t, l, []int{4, 3, 2, 1}, false, l...)
}

// P15.2, P15.3: no entries.
func TestNoEntries(t *testing.T) {
	for _, l := range [][]api.Entry{nil, {}} {
		folds(t, l, nil, false)
		folds(t, l, []int{1, 0, math.MaxInt}, true)
		for _, seq := range []int{math.MinInt, 0, 1, math.MaxInt} {
			sees(t, l, seq)
		}
	}
}

// P15.3: of each key the newest entry up to the number, if it has a value.
func TestSee(t *testing.T) {
	l := list(put("a", 9, "9"), put("a", 7, "7"), drop("a", 4), put("a", 2, ""), drop("ab", 8), put("ab", 3, "3"), drop("b", 5))
	for _, c := range []struct {
		seq  int
		want []api.Entry
	}{
		{math.MinInt, nil}, {-1, nil}, {0, nil}, {1, nil},
		{2, list(l[3])}, {3, list(l[3], l[5])}, {4, list(l[5])}, {5, list(l[5])}, {6, list(l[5])},
		{7, list(l[1], l[5])}, {8, list(l[1])}, {9, list(l[0])}, {10, list(l[0])}, {api.MaxNumber, list(l[0])}, {api.MaxNumber + 1, list(l[0])}, {math.MaxInt, list(l[0])},
	} {
		sees(t, l, c.seq, c.want...)
	}
	far := list(put("a", api.MaxNumber, "x"), put("a", api.MaxNumber-1, "y"), drop("b", api.MaxNumber), put("b", 1, "z"))
	sees(t, far, math.MaxInt, far[0])
	sees(t, far, api.MaxNumber, far[0])
	sees(t, far, api.MaxNumber-1, far[1], far[3])
	sees(t, far, api.MaxNumber-2, far[3])
	folds(t, far, nil, true, far[0])
	folds(t, far, []int{api.MaxNumber - 1}, true, far...)
	folds(t, far, []int{api.MaxNumber - 2}, true, far[0], far[2], far[3])
}

// P15.4: what was folded shows the same, at the newest state and at each number that is kept, and folded again it stays.
func TestFoldShowsTheSame(t *testing.T) {
	source := rand.New(rand.NewSource(154))
	for range 2000 {
		var l []api.Entry
		for _, key := range []string{"a", "a\x00", "b", "\xff"} {
			for seq := 12; seq > 0; seq-- {
				switch source.Intn(4) {
				case 0:
					l = append(l, put(key, seq, strconv.Itoa(seq)))
				case 1:
					l = append(l, drop(key, seq))
				}
			}
		}
		var keep []int
		for range source.Intn(5) {
			keep = append(keep, source.Intn(14))
		}
		for _, bottom := range []bool{false, true} {
			folded := sameFold(t, l, keep, bottom)
			folds(t, folded, keep, bottom, folded...)
		}
	}
}

// P1, P15.1: many lists, and long ones, are merged soon.
func TestMergeMany(t *testing.T) {
	const many = 200000
	l := numbered(many)
	lists := make([][]api.Entry, many)
	for i := range l {
		lists[i] = l[i : i+1]
	}
	merges(t, lists, l...)
	slices.Reverse(lists)
	merges(t, lists, l...)
	lists[0] = l
	merges(t, lists, l...)
	lists[0], lists[many-1] = nil, l
	merges(t, lists, l...)
	merges(t, [][]api.Entry{l[:many/2], l[many/2:]}, l...)
	merges(t, [][]api.Entry{l[many/2:], l[:many/2]}, l...)
}

// P1, P15.2, P15.3: a long list with many numbers that are kept is folded soon, be it of one key or of many.
func TestFoldMany(t *testing.T) {
	const many = 200000
	keep := make([]int, many)
	for i := range keep {
		keep[i] = (i*7919 + 3) % many
	}
	versions := history("k", many)
	folds(t, versions, nil, false, versions[0])
	sees(t, versions, 1, versions[many-1])
	sees(t, versions, math.MaxInt, versions[0])
	got, err := merge.Fold(versions, keep, false)
	if !slices.Equal(got, versions) || err != nil {
		t.Errorf("Fold with all numbers = %d entries, %v; want %d", len(got), err, many)
	}
	l := numbered(many)
	got, err = merge.Fold(l, keep, true)
	if !slices.Equal(got, l) || err != nil {
		t.Errorf("Fold of a version of each key = %d entries, %v; want %d", len(got), err, many)
	}
	sees(t, l, math.MaxInt, l...)
	for i := range l {
		l[i] = drop(l[i].Key, l[i].Seq)
	}
	folds(t, l, nil, true)
	folds(t, l, nil, false, l...)
}

// P3: no call changes its arguments, nor what lies behind them.
func TestArgumentsStay(t *testing.T) {
	all := list(put("a", 5, "x"), drop("a", 3), put("a", 1, "y"), put("b", 2, "z"), put("behind", 1, "x"), api.Entry{})
	other := list(put("a", 5, "other"), put("a", 4, "other"), put("behind", 9, "x"))
	lists := [][]api.Entry{all[:4], nil, other[:2], other[:0], all[:2], all[:4]}
	keeps := []int{4, 1, 3, 4, 99, -5}
	wasAll, wasOther, wasLists, wasKeeps := slices.Clone(all), slices.Clone(other), slices.Clone(lists), slices.Clone(keeps)
	for many := range len(lists) + 1 {
		if _, err := merge.Merge(lists[:many]); err != nil {
			t.Fatal(err)
		}
	}
	for many := range 5 {
		for _, bottom := range []bool{false, true} {
			if _, err := merge.Fold(all[:4], keeps[:many], bottom); err != nil {
				t.Fatal(err)
			}
		}
		if _, err := merge.See(all[:4], many); err != nil {
			t.Fatal(err)
		}
	}
	refuses(t, all)
	if !slices.Equal(all, wasAll) || !slices.Equal(other, wasOther) || !slices.Equal(keeps, wasKeeps) {
		t.Errorf("the arguments became %v, %v, %v", all, other, keeps)
	}
	for i, l := range lists {
		if was := wasLists[i]; len(l) != len(was) || cap(l) != cap(was) || len(l) > 0 && &l[0] != &was[0] {
			t.Errorf("list %d became %v", i, l)
		}
	}
}

// P3: what is told is new memory each time, up to its capacity, also where a list is told as it was.
func TestResultsAreNew(t *testing.T) {
	l := append(make([]api.Entry, 0, 20), put("a", 5, "x"), drop("a", 3), put("a", 1, "y"), put("b", 2, "z"))
	room := l[:cap(l)]
	was := slices.Clone(room)
	keep := append(make([]int, 0, 9), 4, 1)
	for name, call := range map[string]func() ([]api.Entry, error){
		"Merge of one list":             func() ([]api.Entry, error) { return merge.Merge([][]api.Entry{l}) },
		"Merge of a list and empty":     func() ([]api.Entry, error) { return merge.Merge([][]api.Entry{l, nil}) },
		"Merge of empty ones and one":   func() ([]api.Entry, error) { return merge.Merge([][]api.Entry{{}, nil, l}) },
		"Merge of a list with itself":   func() ([]api.Entry, error) { return merge.Merge([][]api.Entry{l, l, l}) },
		"Merge of an empty list":        func() ([]api.Entry, error) { return merge.Merge([][]api.Entry{l[:0]}) },
		"Merge of empty lists":          func() ([]api.Entry, error) { return merge.Merge([][]api.Entry{l[:0], l[:0]}) },
		"Fold of all":                   func() ([]api.Entry, error) { return merge.Fold(l, keep, false) },
		"Fold of some":                  func() ([]api.Entry, error) { return merge.Fold(l, keep[:1], true) },
		"Fold of an empty list":         func() ([]api.Entry, error) { return merge.Fold(l[:0], keep, false) },
		"See of all keys":               func() ([]api.Entry, error) { return merge.See(l, math.MaxInt) },
		"See of an entry for each key":  func() ([]api.Entry, error) { return merge.See(l[2:], 9) },
		"See of an empty list":          func() ([]api.Entry, error) { return merge.See(l[:0], 9) },
		"Fold of an entry for each key": func() ([]api.Entry, error) { return merge.Fold(l[2:], nil, true) },
	} {
		one, err := call()
		two, err2 := call()
		if err != nil || err2 != nil || !slices.Equal(one, two) {
			t.Fatalf("%s = %v, %v; and again %v, %v", name, one, err, two, err2)
		}
		want := slices.Clone(two)
		clear(one[:cap(one)])
		_ = append(one, put("appended", 1, "x"))
		if !slices.Equal(two, want) || !slices.Equal(room, was) || !slices.Equal(keep[:cap(keep)], []int{4, 1, 0, 0, 0, 0, 0, 0, 0}) {
			t.Errorf("%s: behind a change of what it told, its other result is %v, the list %v", name, two, room)
		}
	}
}

// P3: what was told does not change with the arguments.
func TestArgumentsAreNotKept(t *testing.T) {
	l := list(put("a", 5, "x"), put("b", 2, "z"))
	lists := [][]api.Entry{l}
	want := slices.Clone(l)
	merged, err := merge.Merge(lists)
	folded, err2 := merge.Fold(l, nil, false)
	seen, err3 := merge.See(l, 9)
	if err != nil || err2 != nil || err3 != nil {
		t.Fatal(err, err2, err3)
	}
	clear(l)
	for _, got := range [][]api.Entry{merged, folded, seen} {
		if !slices.Equal(got, want) {
			t.Errorf("behind a change of the list: %v; want %v", got, want)
		}
	}
}

// P4: earlier calls have no influence, also those that were refused.
func TestEarlierCallsHaveNoInfluence(t *testing.T) {
	l := list(drop("a", 5), put("a", 3, "x"), put("b", 9, "y"))
	for range 3 {
		merges(t, [][]api.Entry{l[1:], l[:1]}, l...)
		folds(t, l, []int{3}, true, l...)
		folds(t, l, nil, true, l[2])
		sees(t, l, 4, l[1])
		refuses(t, list(l[2], l[0]))
		refuses(t, list(api.Entry{}))
	}
}
