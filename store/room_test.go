package store_test

import (
	"errors"
	"math/rand"
	"slices"
	"strconv"
	"strings"
	"testing"

	"palinode/api"
)

// purse is what P17.6 lets a store get.
type purse struct{ bytes, changes, calls int }

// newPurse is all of it.
func newPurse() *purse { return &purse{12000, 300, 20} }

// cut is as much of a batch as there is still room for.
func (w *purse) cut(l []api.Change) []api.Change {
	if w.calls == 0 {
		return nil
	}
	n := 0
	for ; n < len(l) && w.changes > 0; n++ {
		size := len(l[n].Key) + len(l[n].Value)
		if size > w.bytes {
			break
		}
		w.bytes -= size
		w.changes--
	}
	if n > 0 {
		w.calls--
	}
	return l[:n]
}

// roomy writes a batch, and makes the steps that it waits for.
func (p *life) roomy(l []api.Change) {
	p.t.Helper()
	for n := 0; ; n++ {
		err := p.try(l)
		if err == nil {
			return
		}
		refuses(p.t, "Write", err, api.ErrStall)
		if !p.step() || n > 400 {
			p.t.Fatal("there is nothing to do, and no room")
		}
	}
}

// size is the bytes of a batch.
func size(l []api.Change) int {
	n := 0
	for _, c := range l {
		n += len(c.Key) + len(c.Value)
	}
	return n
}

// P17.6: all that may be written, in as many parts as may be, each one flushed, and none compacted before the end; or all work done behind each; on the least disk for which something is promised.
func TestRoom(t *testing.T) {
	long := func(i, j int) string {
		return strings.Repeat(strconv.Itoa(i%10), 40) + strconv.Itoa(i*100+j) + strings.Repeat("k", 36)
	}
	parts := map[string]func(i, j int) api.Change{
		"few bytes": func(i, j int) api.Change { return api.Change{Key: string([]byte{byte(i), byte(j)}), Value: ""} },
		"same keys": func(i, j int) api.Change {
			return api.Change{Key: "k" + strconv.Itoa(j), Value: strings.Repeat("v", 36)}
		},
		"other keys": func(i, j int) api.Change { return api.Change{Key: long(i, j)[36:]} },
		"long keys":  func(i, j int) api.Change { return api.Change{Key: long(i, j)} },
		"long values": func(i, j int) api.Change {
			return api.Change{Key: string([]byte{byte(j), byte(i)}), Value: strings.Repeat("v", 300)}
		},
		"drops": func(i, j int) api.Change { return api.Change{Key: long(i, j)[36:], Drop: true} },
	}
	for _, part := range parts {
		for _, many := range []int{2, 7, 15} {
			for mode := range 5 {
				p, w := born(t, 1500), newPurse()
				for i := range 20 {
					var l []api.Change
					for j := range many {
						if c := part(i, j); size(l)+len(c.Key)+len(c.Value) <= 2000 {
							l = append(l, c)
						}
					}
					if l = w.cut(l); len(l) == 0 {
						break
					}
					p.roomy(l)
					if mode%2 == 1 {
						p.snap()
					}
					switch {
					case mode < 2:
						p.s.Want()
						p.step()
					case mode < 4:
						p.settle()
					default:
						p.step()
						p.reopen()
					}
				}
				p.check()
				p.settle()
				p.check()
			}
		}
	}
}

// P17.6: a batch of 2000 bytes never waits when all work was done ahead of it, however its bytes lie.
func TestNoStallBehindWork(t *testing.T) {
	key := func(n, size int) string {
		return strings.Repeat(strconv.Itoa(n%10), size-3) + strconv.Itoa(100+n)
	}
	keys := func(many, size int) []api.Change {
		var l []api.Change
		for n := range many {
			l = append(l, api.Change{Key: key(n, size), Drop: n%2 == 0})
		}
		return l
	}
	for _, l := range [][]api.Change{keys(25, 80), keys(40, 50), sized(7, 2000), sized(20, 2000), sized(40, 2000), append(keys(10, 80), puts(strings.Repeat("v", 297), "abc", "abd", "abe", "abf")...)} {
		if size(l) != 2000 {
			t.Fatalf("%d bytes", size(l))
		}
		p := born(t, 1500)
		for i := range 6 {
			p.settle()
			fine(t, "Write", p.try(l))
			// What comes on top of it may wait, or not.
			for range i {
				p.try(sized(3, 500))
			}
			p.check()
		}
	}
}

// P17.6: lives of any calls, within what may be written, with crashes at any write.
func TestRoomInAnyLife(t *testing.T) {
	for seed := range 60 {
		r := script{rand.New(rand.NewSource(int64(seed))), 5 + seed*5, 5 + seed%5*70, seed % 3 * 35}
		p, w := born(t, 1500), newPurse()
		for w.calls > 0 {
			l := w.cut(r.batch())
			for len(l) > 1 && size(l) > 2000 {
				l = l[:len(l)/2]
			}
			if len(l) == 0 {
				break
			}
			p.roomy(l)
			if r.Intn(3) == 0 {
				p.snap()
			}
			for range r.Intn(4) {
				switch r.Intn(4) {
				case 0:
					p.s.Want()
					p.step()
				case 1:
					p.settle()
				case 2:
					p.step()
				default:
					p.interrupted(r)
				}
			}
		}
		p.check()
		p.settle()
		p.check()
	}
}

// interrupted lets the power fail in some steps, and opens the store again.
func (p *life) interrupted(r script) {
	p.t.Helper()
	p.s.Want()
	p.d.Fuse(r.Intn(150))
	for !p.s.Dead() {
		more, err := p.s.Step()
		if err != nil && !errors.Is(err, api.ErrDown) {
			p.t.Fatalf("Step: %v", err)
		}
		if err == nil && !more {
			break
		}
	}
	p.d.Crash(slices.Repeat([]int{r.Intn(2), r.Intn(2), r.Intn(2)}, 40), r.Intn(9)-1, r.Intn(65))
	p.reopen()
	p.check()
}
