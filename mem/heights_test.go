package mem

import (
	"slices"
	"strconv"
	"testing"

	"palinode/api"
)

// towers are the heights of the towers of entries, in the order in which these are given.
func towers(m *Table, entries []api.Entry) []int {
	var out []int
	for _, e := range entries {
		out = append(out, m.list.Height(write(e)))
	}
	return out
}

// P10.1: the towers get the heights in the order of insertion, again from the first one on behind the last one, and each one's first if there is none. (No call answers them, so this looks into the table.)
func TestTowers(t *testing.T) {
	for _, c := range []struct{ heights, want []int }{
		{nil, []int{1, 1, 1, 1, 1, 1, 1}},
		{[]int{}, []int{1, 1, 1, 1, 1, 1, 1}},
		{[]int{1}, []int{1, 1, 1, 1, 1, 1, 1}},
		{[]int{4}, []int{4, 4, 4, 4, 4, 4, 4}},
		{[]int{2, 1}, []int{2, 1, 2, 1, 2, 1, 2}},
		{[]int{3, 5, 4}, []int{3, 5, 4, 3, 5, 4, 3}},
		{[]int{0, 12, 13, -5}, []int{1, 12, 12, 1, 1, 12, 12}},
		{[]int{7, 6, 5, 4, 3, 2, 1}, []int{7, 6, 5, 4, 3, 2, 1}},
		{[]int{1, 2, 3, 4, 5, 6, 7, 8, 9}, []int{1, 2, 3, 4, 5, 6, 7}},
	} {
		m := New(c.heights)
		var entries []api.Entry
		for i := range c.want {
			e := api.Entry{Key: strconv.Itoa(i * 5 % 7), Seq: 1 + i*3%2}
			entries = append(entries, e)
			if err := m.Put(e); err != nil {
				t.Fatal(err)
			}
		}
		if got := towers(m, entries); !slices.Equal(got, c.want) {
			t.Errorf("heights %v: towers %v; want %v", c.heights, got, c.want)
		}
	}
}

// P10.1, P2: an entry that is refused takes no height.
func TestRefusedTakesNoHeight(t *testing.T) {
	m := New([]int{3, 5, 4})
	var entries []api.Entry
	for i := range 7 {
		e := api.Entry{Key: "k", Seq: i + 1}
		entries = append(entries, e)
		for _, c := range []struct {
			e    api.Entry
			want error
		}{{e, nil}, {e, api.ErrExists}, {api.Entry{Key: "k"}, api.ErrArg}} {
			if err := m.Put(c.e); err != c.want {
				t.Fatalf("Put(%v) = %v; want %v", c.e, err, c.want)
			}
		}
	}
	if got := towers(m, entries); !slices.Equal(got, []int{3, 5, 4, 3, 5, 4, 3}) {
		t.Errorf("towers %v", got)
	}
}

// P3: the heights are not retained: who changes them afterwards changes no tower.
func TestHeightsNotRetained(t *testing.T) {
	heights := []int{3, 5}
	m := New(heights)
	heights[0], heights[1] = 1, 2
	entries := []api.Entry{{Key: "a", Seq: 1}, {Key: "b", Seq: 1}}
	for _, e := range entries {
		if err := m.Put(e); err != nil {
			t.Fatal(err)
		}
	}
	if got := towers(m, entries); !slices.Equal(got, []int{3, 5}) {
		t.Errorf("towers %v", got)
	}
}

// P10.2: an entry comes back from the string that it is in the list, also where its bytes are those that the string is held together by.
func TestWriteRead(t *testing.T) {
	for _, e := range []api.Entry{
		{Key: "\x00", Seq: 1}, {Key: "\x01\x00", Seq: 2, Drop: true}, {Key: "a", Seq: api.MaxNumber, Value: "v"}, {Key: "v", Seq: 0x76, Value: "vv"}, {Key: "\xff", Seq: api.MaxNumber - 0x76, Drop: true},
	} {
		if got := read(write(e)); got != e {
			t.Errorf("%v came back as %v", e, got)
		}
	}
}
