package merge

import (
	"slices"
	"strconv"
	"testing"

	"palinode/api"
)

// P15.1: the lists are gone through two by two, all of them and in their order, and only as far as asked for.
func TestPairs(t *testing.T) {
	for many := range 9 {
		var lists [][]api.Entry
		for i := range many {
			lists = append(lists, []api.Entry{{Key: strconv.Itoa(i), Seq: 1}})
		}
		for stop := range 6 {
			var got [][]api.Entry
			rounds := 0
			for a, b := range pairs(lists) {
				if rounds == stop {
					break
				}
				rounds++
				got = append(got, a)
				if len(b) > 0 {
					got = append(got, b)
				}
			}
			want := lists[:min(many, 2*stop)]
			if !slices.EqualFunc(got, want, slices.Equal) {
				t.Errorf("%d lists, the first %d pairs of them: %v; want %v", many, stop, got, want)
			}
		}
	}
}

// P15.2, P15.3: a list is gone through key by key, each of them once with all its entries, and only as far as asked for.
func TestByKey(t *testing.T) {
	for _, want := range [][][]api.Entry{
		nil,
		{{{Key: "a", Seq: 1}}},
		{{{Key: "a", Seq: 3}, {Key: "a", Seq: 2}, {Key: "a", Seq: 1}}},
		{{{Key: "a", Seq: 3}, {Key: "a", Seq: 1}}, {{Key: "aa", Seq: 3}}, {{Key: "b", Seq: 9}, {Key: "b", Seq: 8, Drop: true}}},
		{{{Key: "\x00", Seq: 1}}, {{Key: "\x00\x00", Seq: 1}}, {{Key: "a", Seq: 1}}, {{Key: "b", Seq: 1}}},
	} {
		l := slices.Concat(want...)
		for stop := range 6 {
			var got [][]api.Entry
			for versions := range byKey(l) {
				if len(got) == stop {
					break
				}
				got = append(got, versions)
			}
			if !slices.EqualFunc(got, want[:min(len(want), stop)], slices.Equal) {
				t.Errorf("%v, the first %d keys of it: %v", l, stop, got)
			}
		}
	}
}
