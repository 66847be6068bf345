package space_test

import (
	"math"
	"slices"
	"testing"

	"palinode/api"
	"palinode/space"
)

// runs is a list of runs, written as the first sector and how many, one pair behind the other.
func runs(pairs ...int) []api.Run {
	var l []api.Run
	for i := 0; i+1 < len(pairs); i += 2 {
		l = append(l, api.Run{At: pairs[i], Many: pairs[i+1]})
	}
	return l
}

// singles is so many runs of a sector each, with so many sectors between the start of one and that of the next one.
func singles(many, apart int) []api.Run {
	var l []api.Run
	for i := range many {
		l = append(l, api.Run{At: i * apart, Many: 1})
	}
	return l
}

// frees checks what Free answers.
func frees(t *testing.T, total int, used, want []api.Run) {
	t.Helper()
	got, err := space.Free(total, used)
	if !slices.Equal(got, want) || err != nil {
		t.Errorf("Free(%d, %v) = %v, %v; want %v", total, used, got, err, want)
	}
}

// fits checks what Fit answers.
func fits(t *testing.T, total int, used []api.Run, many, want int, wantErr error) {
	t.Helper()
	got, err := space.Fit(total, used, many)
	if got != want || err != wantErr {
		t.Errorf("Fit(%d, %v, %d) = %d, %v; want %d, %v", total, used, many, got, err, want, wantErr)
	}
}

// rooms checks what Room answers.
func rooms(t *testing.T, total int, used []api.Run, want int) {
	t.Helper()
	got, err := space.Room(total, used)
	if got != want || err != nil {
		t.Errorf("Room(%d, %v) = %d, %v; want %d", total, used, got, err, want)
	}
}

// stands checks that Right takes the arguments.
func stands(t *testing.T, total int, used []api.Run) {
	t.Helper()
	if !space.Right(total, used) {
		t.Errorf("Right(%d, %v) = false", total, used)
	}
}

// refuses checks that no call takes the arguments.
func refuses(t *testing.T, total int, used []api.Run) {
	t.Helper()
	if space.Right(total, used) {
		t.Errorf("Right(%d, %v) = true", total, used)
	}
	if l, err := space.Free(total, used); len(l) != 0 || err != api.ErrArg {
		t.Errorf("Free(%d, %v) = %v, %v", total, used, l, err)
	}
	if n, err := space.Room(total, used); n != 0 || err != api.ErrArg {
		t.Errorf("Room(%d, %v) = %d, %v", total, used, n, err)
	}
	for _, many := range []int{math.MinInt, -1, 0, 1, 2, api.MaxSectors, math.MaxInt} {
		fits(t, total, used, many, 0, api.ErrArg)
	}
}

// P5.1: total is from 0 to MaxSectors.
func TestTotal(t *testing.T) {
	for _, total := range []int{0, 1, 2, 199, 200, 201, api.MaxSectors - 1, api.MaxSectors} {
		stands(t, total, nil)
		stands(t, total, []api.Run{})
	}
	for _, total := range []int{math.MinInt, math.MinInt + 1, -api.MaxSectors, -2, -1, api.MaxSectors + 1, 1 << 32, 1<<32 + 5, math.MaxInt} {
		refuses(t, total, nil)
		refuses(t, total, []api.Run{})
		refuses(t, total, runs(0, 1))
	}
}

// P5.1: runs that are apart are valid in any order, those that touch as well.
func TestRight(t *testing.T) {
	stands(t, 10, runs(7, 1, 2, 3))
	stands(t, 10, runs(2, 3, 7, 1))
	stands(t, 1, runs(0, 1))
	stands(t, 10, runs(0, 10))
	stands(t, 10, runs(5, 5, 0, 5))
	stands(t, 10, runs(3, 2, 0, 3, 5, 1, 9, 1))
	stands(t, api.MaxSectors, runs(api.MaxSectors-1, 1, 0, api.MaxSectors-1))
	stands(t, api.MaxSectors, runs(0, api.MaxSectors))
}

// P5.1: each run has a sector at least, and lies within the disk.
func TestWrongRuns(t *testing.T) {
	for _, wrong := range [][]api.Run{
		runs(0, 0), runs(2, 0), runs(10, 0), runs(2, -1), runs(9, -1), runs(3, -3),
		runs(-1, 1), runs(-1, 2), runs(-1, 11), runs(-10, 10), runs(-3, 20),
		runs(10, 1), runs(11, 1), runs(9, 2), runs(0, 11), runs(5, 6),
	} {
		refuses(t, 10, wrong)
		refuses(t, 10, append(runs(4, 1), wrong...))
		refuses(t, 10, append(slices.Clone(wrong), runs(4, 1)...))
		refuses(t, 10, append(slices.Clone(wrong), runs(0, 1, 8, 1)...))
	}
	refuses(t, 0, runs(0, 1))
	refuses(t, 0, runs(0, 0))
	refuses(t, api.MaxSectors, runs(api.MaxSectors, 1))
	refuses(t, api.MaxSectors, runs(api.MaxSectors-1, 2))
	refuses(t, api.MaxSectors, runs(1, api.MaxSectors))
}

// P5.1: no two runs have a sector in common.
func TestOverlap(t *testing.T) {
	for _, wrong := range [][]api.Run{
		runs(2, 3, 4, 1), runs(4, 1, 2, 3), runs(2, 3, 2, 3), runs(2, 1, 2, 3), runs(2, 3, 2, 1),
		runs(0, 10, 5, 1), runs(5, 1, 0, 10), runs(0, 10, 9, 1), runs(0, 2, 1, 2, 2, 2),
		runs(0, 1, 5, 1, 0, 1), runs(8, 2, 0, 3, 4, 5), runs(0, 6, 1, 1, 3, 1),
		runs(2, 3, 3, 0), runs(2, 3, 2, 0), runs(2, 0, 2, 3), runs(3, -1, 2, 3), runs(0, 1, 2, -1, 4, 1),
	} {
		refuses(t, 10, wrong)
	}
}

// P5.1, P6: numbers whose sums or differences would wrap round.
func TestExtremes(t *testing.T) {
	extremes := []int{math.MinInt, math.MinInt + 1, math.MinInt + 10, -1 << 32, 1 << 32, 1<<32 + 1, 1 << 62, math.MaxInt - 10, math.MaxInt - 1, math.MaxInt}
	for _, a := range extremes {
		for _, ordinary := range []int{-1, 0, 1, 2, 9, 10} {
			refuses(t, 10, runs(a, ordinary))
			refuses(t, 10, runs(ordinary, a))
			refuses(t, 10, runs(0, 1, a, ordinary))
			refuses(t, 10, runs(0, 1, ordinary, a))
		}
		for _, b := range extremes {
			refuses(t, 10, runs(a, b))
			refuses(t, 10, runs(a, 1, b, 1))
			refuses(t, 10, runs(5, 1, a, 1, b, 1))
			refuses(t, a, runs(b, 1))
		}
	}
}

// P5.1: 200 runs at most.
func TestManyRuns(t *testing.T) {
	for _, apart := range []int{1, 2, 20} {
		stands(t, api.MaxSectors, singles(199, apart))
		stands(t, api.MaxSectors, singles(200, apart))
	}
	for _, apart := range []int{0, 1, 2, 19} {
		refuses(t, api.MaxSectors, singles(201, apart))
	}
	refuses(t, api.MaxSectors, singles(api.MaxSectors, 1))
	refuses(t, api.MaxSectors, make([]api.Run, 1<<20))

	rooms(t, api.MaxSectors, singles(200, 20), api.MaxSectors-200)
	var between []api.Run
	for i := range 200 {
		between = append(between, api.Run{At: 20*i + 1, Many: 19})
	}
	frees(t, api.MaxSectors, singles(200, 20), between)

	moved := singles(200, 2) // with a sector ahead of them there is one free run more than runs in use
	for i := range moved {
		moved[i].At++
	}
	free, err := space.Free(401, moved)
	if len(free) != 201 || free[200] != (api.Run{At: 400, Many: 1}) || err != nil {
		t.Errorf("%d free runs, %v", len(free), err)
	}
	fits(t, 401, moved, 1, 0, nil)
	fits(t, 401, moved, 2, 0, api.ErrFull)
	fits(t, 402, moved, 2, 400, nil)
}

// P5.1: the free sectors as runs of maximal length, in ascending order.
func TestFree(t *testing.T) {
	frees(t, 10, runs(2, 3, 7, 1), runs(0, 2, 5, 2, 8, 2))
	frees(t, 10, runs(7, 1, 2, 3), runs(0, 2, 5, 2, 8, 2))
	frees(t, 0, nil, nil)
	frees(t, 1, nil, runs(0, 1))
	frees(t, 1, runs(0, 1), nil)
	frees(t, 10, nil, runs(0, 10))
	frees(t, 10, []api.Run{}, runs(0, 10))
	frees(t, 10, runs(0, 10), nil)
	frees(t, 10, runs(0, 1), runs(1, 9))
	frees(t, 10, runs(9, 1), runs(0, 9))
	frees(t, 10, runs(4, 1), runs(0, 4, 5, 5))
	frees(t, 10, runs(0, 1, 9, 1), runs(1, 8))
	frees(t, 10, runs(4, 2, 2, 2), runs(0, 2, 6, 4))
	frees(t, 10, runs(5, 5, 0, 5), nil)
	frees(t, 10, runs(4, 1, 6, 1, 5, 1, 0, 1), runs(1, 3, 7, 3))
	frees(t, 10, runs(8, 1, 6, 1, 4, 1, 2, 1, 0, 1), runs(1, 1, 3, 1, 5, 1, 7, 1, 9, 1))
	frees(t, api.MaxSectors, nil, runs(0, api.MaxSectors))
	frees(t, api.MaxSectors, runs(0, 18), runs(18, api.MaxSectors-18))
	frees(t, api.MaxSectors, runs(api.MaxSectors-1, 1), runs(0, api.MaxSectors-1))
}

// P5.2: the first run that is long enough, be there a later one that fits better.
func TestFit(t *testing.T) {
	used := runs(7, 1, 2, 3)
	fits(t, 10, used, 1, 0, nil)
	fits(t, 10, used, 2, 0, nil)
	fits(t, 10, used, 3, 0, api.ErrFull)

	used = runs(2, 1, 8, 1, 11, 1) // free: 2 from 0, 5 from 3, 2 from 9, 8 from 12
	for many, want := range []int{1: 0, 2: 0, 3: 3, 4: 3, 5: 3, 6: 12, 7: 12, 8: 12} {
		if many > 0 {
			fits(t, 20, used, many, want, nil)
		}
	}
	fits(t, 20, used, 9, 0, api.ErrFull)
	fits(t, 20, used, 16, 0, api.ErrFull)
	fits(t, 20, used, 20, 0, api.ErrFull)

	fits(t, api.MaxSectors, nil, api.MaxSectors, 0, nil)
	fits(t, api.MaxSectors, nil, api.MaxSectors+1, 0, api.ErrFull)
	fits(t, api.MaxSectors, runs(0, 18), api.MaxSectors-18, 18, nil)
	fits(t, api.MaxSectors, runs(0, 18), api.MaxSectors-17, 0, api.ErrFull)
	fits(t, api.MaxSectors, runs(0, api.MaxSectors-1), 1, api.MaxSectors-1, nil)
}

// P5.2, P6: a number of sectors below 1 is no argument; any other one that has no room finds the disk full.
func TestFitMany(t *testing.T) {
	for _, used := range [][]api.Run{nil, runs(2, 3), runs(0, 10)} {
		for _, many := range []int{0, -1, -10, -1 << 32, math.MinInt + 1, math.MinInt} {
			fits(t, 10, used, many, 0, api.ErrArg)
			fits(t, 0, nil, many, 0, api.ErrArg)
		}
		for _, many := range []int{11, api.MaxSectors, api.MaxSectors + 1, 1 << 32, 1<<32 + 1, math.MaxInt - 1, math.MaxInt} {
			fits(t, 10, used, many, 0, api.ErrFull)
			fits(t, 0, nil, many, 0, api.ErrFull)
		}
	}
	fits(t, 10, runs(0, 10), 1, 0, api.ErrFull)
	fits(t, 0, nil, 1, 0, api.ErrFull)
}

// P5.2: how many sectors are free.
func TestRoom(t *testing.T) {
	rooms(t, 10, runs(7, 1, 2, 3), 6)
	rooms(t, 10, nil, 10)
	rooms(t, 10, runs(0, 10), 0)
	rooms(t, 10, runs(9, 1), 9)
	rooms(t, 10, runs(5, 5, 0, 4), 1)
	rooms(t, 0, nil, 0)
	rooms(t, 1, nil, 1)
	rooms(t, api.MaxSectors, nil, api.MaxSectors)
	rooms(t, api.MaxSectors, runs(0, 18), api.MaxSectors-18)
	rooms(t, api.MaxSectors, runs(0, api.MaxSectors), 0)
}

// P3: arguments are left alone, up to their capacity.
func TestArguments(t *testing.T) {
	whole := runs(7, 1, 2, 3, 0, 1, 6, 1, -4, 9)
	before := slices.Clone(whole)
	for n := range len(whole) + 1 {
		used := whole[:n]
		space.Right(10, used)
		free, _ := space.Free(10, used)
		free = free[:cap(free)]
		for i := range free {
			free[i] = api.Run{At: -7, Many: -7}
		}
		space.Fit(10, used, 2)
		space.Room(10, used)
		if !slices.Equal(whole, before) {
			t.Fatalf("%v became %v", before, whole)
		}
	}
}

// P3, P4: two results of Free share no memory, up to their capacity, and the same call answers the same.
func TestResults(t *testing.T) {
	used := runs(7, 1, 2, 3, 5, 1)
	one, _ := space.Free(10, used)
	two, err := space.Free(10, used)
	whole := one[:cap(one)]
	for i := range whole {
		whole[i] = api.Run{At: -7, Many: -7}
	}
	if !slices.Equal(two, runs(0, 2, 6, 1, 8, 2)) || err != nil {
		t.Errorf("two results share memory: %v, %v", two, err)
	}
	frees(t, 10, used, runs(0, 2, 6, 1, 8, 2))
}
