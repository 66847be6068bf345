package space_test

import (
	"math/rand"
	"slices"
	"testing"

	"palinode/api"
	"palinode/space"
)

// times is for each sector how many runs have it; nil if the arguments are not valid, as the chapter's words say, sector by sector.
func times(total int, used []api.Run) []int {
	if total < 0 || total > 4000 || len(used) > 200 {
		return nil
	}
	n := make([]int, total)
	for _, r := range used {
		if r.Many < 1 || r.Many > total || r.At < 0 || r.At > total {
			return nil
		}
		for i := range r.Many {
			sector := r.At + i
			if sector >= total || n[sector] > 0 {
				return nil
			}
			n[sector]++
		}
	}
	return n
}

// gaps is the free sectors as runs: each begins at a free sector behind none, and ends ahead of none.
func gaps(n []int) []api.Run {
	var l []api.Run
	for sector := range n {
		if n[sector] > 0 {
			continue
		}
		if sector == 0 || n[sector-1] > 0 {
			l = append(l, api.Run{At: sector})
		}
		l[len(l)-1].Many++
	}
	return l
}

// agrees holds what the calls answer against the model (P5.1, P5.2), and checks the properties (P5.3).
func agrees(t *testing.T, total int, used []api.Run) {
	t.Helper()
	n := times(total, used)
	if n == nil {
		refuses(t, total, used)
		return
	}
	stands(t, total, used)
	free := gaps(n)
	frees(t, total, used, free)
	room, longest := 0, 0
	for _, r := range free {
		room += r.Many
		longest = max(longest, r.Many)
	}
	rooms(t, total, used, room)
	for many := 1; many <= longest; many = many*3/2 + 1 {
		i := slices.IndexFunc(free, func(r api.Run) bool { return r.Many >= many })
		fits(t, total, used, many, free[i].At, nil)
		takes(t, total, used, free[i], many)
	}
	fits(t, total, used, longest+1, 0, api.ErrFull)
	covers(t, total, used)
}

// covers checks that the free runs and those in use have each sector once (P5.3).
func covers(t *testing.T, total int, used []api.Run) {
	t.Helper()
	n := make([]int, total)
	free, _ := space.Free(total, used)
	for _, r := range slices.Concat(free, used) {
		for i := range r.Many {
			n[r.At+i]++
		}
	}
	for sector, many := range n {
		if many != 1 {
			t.Fatalf("Free(%d, %v): sector %d %d times", total, used, sector, many)
		}
	}
}

// takes checks that the runs are valid again with the one that Fit chose, as a whole or so many sectors of it (P5.3); there may be 200 runs, no more.
func takes(t *testing.T, total int, used []api.Run, chosen api.Run, many int) {
	t.Helper()
	if len(used) == 200 {
		return
	}
	stands(t, total, append(slices.Clone(used), chosen))
	more := append(slices.Clone(used), api.Run{At: chosen.At, Many: many})
	stands(t, total, more)
	before, _ := space.Room(total, used)
	rooms(t, total, more, before-many)
}

// P5.1, P5.2, P5.3: all lists of up to three runs on the smallest disks, those that are wrong, too.
func TestEveryShort(t *testing.T) {
	var all []api.Run
	for at := -1; at <= 4; at++ {
		for many := -1; many <= 4; many++ {
			all = append(all, api.Run{At: at, Many: many})
		}
	}
	for total := -1; total <= 4; total++ {
		agrees(t, total, nil)
		for _, a := range all {
			agrees(t, total, []api.Run{a})
			for _, b := range all {
				agrees(t, total, []api.Run{a, b})
				for _, c := range all {
					agrees(t, total, []api.Run{a, b, c})
				}
			}
		}
	}
}

// P5.1, P5.2, P5.3: each way to use some sectors of a small disk: bit i of cuts tells whether a run ends behind sector i, bit i of kept whether that run is in use.
func TestEveryLayout(t *testing.T) {
	const total = 7
	for cuts := range 1 << (total - 1) {
		for kept := range 1 << total {
			var used []api.Run
			from := 0
			for sector := range total {
				if cuts>>sector&1 == 0 && sector < total-1 {
					continue
				}
				if kept>>from&1 == 1 {
					used = append(used, api.Run{At: from, Many: sector + 1 - from})
				}
				from = sector + 1
			}
			agrees(t, total, used)
			slices.Reverse(used)
			agrees(t, total, used)
		}
	}
}

// P5.1, P5.2: what the calls answer hangs on which runs there are, not on their order.
func TestOrders(t *testing.T) {
	permute(runs(2, 3, 7, 1, 5, 1, 0, 1, 9, 2), 0, func(used []api.Run) {
		frees(t, 14, used, runs(1, 1, 6, 1, 8, 1, 11, 3))
		fits(t, 14, used, 1, 1, nil)
		fits(t, 14, used, 2, 11, nil)
		rooms(t, 14, used, 6)
	})
	permute(runs(2, 3, 7, 1, 4, 1, 0, 1, 9, 2), 0, func(used []api.Run) { refuses(t, 14, used) })
}

// permute gives each order of l whose first i elements stay.
func permute(l []api.Run, i int, give func([]api.Run)) {
	if i == len(l) {
		give(l)
	}
	for j := i; j < len(l); j++ {
		l[i], l[j] = l[j], l[i]
		permute(l, i+1, give)
		l[i], l[j] = l[j], l[i]
	}
}

// layout is a disk and runs on it, valid ones, from bytes: how many sectors are free, how many in use, and so on; then changed at one place or none.
func layout(b []byte) (int, []api.Run) {
	next := func() int {
		if len(b) == 0 {
			return 0
		}
		n := int(b[0])
		b = b[1:]
		return n
	}
	change, place, behind := next(), next(), next()%3
	var used []api.Run
	at := 0
	for len(b) > 0 {
		at += next() % 4
		r := api.Run{At: at, Many: next()%20 + 1}
		used = append(used, r)
		at += r.Many
	}
	rand.New(rand.NewSource(int64(place))).Shuffle(len(used), func(i, j int) { used[i], used[j] = used[j], used[i] })
	if len(used) > 0 {
		r := &used[place%len(used)]
		switch change % 8 {
		case 0:
			r.At--
		case 1:
			r.Many++
		case 2:
			r.Many = 0
		case 3:
			*r = used[change/8%len(used)]
		}
	}
	return at + behind, used
}

// P5.1, P5.2, P5.3: many layouts, those that are a little wrong, too, the same ones each time.
func TestLayouts(t *testing.T) {
	source := rand.New(rand.NewSource(5))
	valid := 0
	for range 3000 {
		b := make([]byte, source.Intn(450))
		source.Read(b)
		total, used := layout(b)
		if times(total, used) != nil {
			valid++
		}
		agrees(t, total, used)
	}
	if valid < 1000 || valid > 2500 {
		t.Errorf("of 3000 layouts %d are valid: too few of a kind", valid)
	}
}

// P5.1, P5.2, P5.3: whatever the fuzzer finds (without it, the seeds).
func FuzzLayout(f *testing.F) {
	f.Add([]byte{})
	f.Add([]byte{7, 0, 2, 2, 2, 2, 0})
	f.Add([]byte{1, 0, 2, 2, 2, 0, 0})
	f.Add([]byte{3, 1, 0, 1, 2, 3, 4, 0, 5})
	f.Fuzz(func(t *testing.T, b []byte) {
		total, used := layout(b)
		agrees(t, total, used)
	})
}
