package saga_test

import (
	"errors"
	"math"
	"slices"
	"strings"
	"testing"

	"palinode/api"
	"palinode/saga"
)

// step is a step.
func step(retry, timeout int) api.Step { return api.Step{Retry: retry, Timeout: timeout} }

// def is a definition with the name p.
func def(steps ...api.Step) api.Def { return api.Def{Name: "p", Steps: steps} }

// small is some definitions with few steps and tries.
func small() []api.Def {
	return []api.Def{
		def(step(0, 10)),
		def(step(2, 7)),
		def(step(1, 10), step(0, 20)),
		def(step(0, 10000), step(1, 1)),
		def(step(0, 3), step(2, 10000), step(1, 5)),
	}
}

// great is a definition with as many steps as there may be, and all kinds of retries.
func great() api.Def {
	return def(step(5, 10000), step(0, 1), step(3, 255), step(4, 256), step(1, 9999), step(5, 2))
}

// beyond are numbers far from steps, tries, statuses, directions, replies and times.
var beyond = []int{math.MinInt, math.MinInt + 1, math.MinInt + 256, -1 << 53, -1<<40 - 1, -1 << 40, -1 << 32, -1<<32 + 1, -256, -255, -2, 1 << 41, 1<<48 + 1, api.MaxNumber, api.MaxNumber + 1, 1 << 62, math.MaxInt - 10000, math.MaxInt - 1, math.MaxInt}

// live is a saga a of p that is live, with its command in the outbox.
func live(status, at, tries, due int) api.Instance {
	return api.Instance{ID: "a", Def: "p", Status: status, At: at, Tries: tries, Due: due, Out: true}
}

// over is a saga a of p that is over.
func over(status, at int) api.Instance {
	return api.Instance{ID: "a", Def: "p", Status: status, At: at}
}

// wantReply checks what comes of a reply to the command of an instance.
func wantReply(t *testing.T, d api.Def, x api.Instance, dir, what, now int, want api.Instance) {
	t.Helper()
	if y, ok := saga.Reply(d, x, x.At, dir, what, now); y != want || !ok {
		t.Errorf("Reply(%v, %+v, %d, %d, %d, %d) = %+v, %t; want %+v, true", d, x, x.At, dir, what, now, y, ok, want)
	}
}

// noReply checks that a reply is not accepted.
func noReply(t *testing.T, d api.Def, x api.Instance, step, dir, what, now int) {
	t.Helper()
	if y, ok := saga.Reply(d, x, step, dir, what, now); y != x || ok {
		t.Errorf("Reply(%.200v, %+v, %d, %d, %d, %d) = %+v, %t; want the instance, false", d, x, step, dir, what, now, y, ok)
	}
}

// noExpiry checks that an instance does not expire.
func noExpiry(t *testing.T, d api.Def, x api.Instance, now int) {
	t.Helper()
	if y, ok := saga.Expire(d, x, now); y != x || ok {
		t.Errorf("Expire(%.200v, %+v, %d) = %+v, %t; want the instance, false", d, x, now, y, ok)
	}
}

// noBegin checks that a saga may not begin.
func noBegin(t *testing.T, d api.Def, id string, now int) {
	t.Helper()
	if x, err := saga.Begin(d, id, now); x != (api.Instance{}) || err != api.ErrArg || !errors.Is(err, api.ErrArg) {
		t.Errorf("Begin(%.200v, %.100q, %d) = %+v, %v; want nothing, ErrArg", d, id, now, x, err)
	}
}

// wrong checks that an instance is not valid for a definition, and that no reply and no time changes it.
func wrong(t *testing.T, d api.Def, x api.Instance) {
	t.Helper()
	if saga.Right(d, x) {
		t.Errorf("Right(%.200v, %+v) = true", d, x)
	}
	for _, now := range []int{0, 5, 100, api.MaxTime} {
		noExpiry(t, d, x, now)
		for what := api.Good; what <= api.Failed; what++ {
			noReply(t, d, x, x.At, api.Do, what, now)
			noReply(t, d, x, x.At, api.Undo, what, now)
		}
	}
}

// right checks that an instance is valid for a definition.
func right(t *testing.T, d api.Def, x api.Instance) {
	t.Helper()
	if !saga.Right(d, x) {
		t.Errorf("Right(%v, %+v) = false", d, x)
	}
}

// P19.1 to P19.3: the chapter's examples.
func TestExamples(t *testing.T) {
	d := def(step(1, 10), step(0, 20))
	x, err := saga.Begin(d, "a", 5)
	if want := live(api.Running, 0, 0, 15); x != want || err != nil {
		t.Fatalf("Begin = %+v, %v; want %+v", x, err, want)
	}
	wantReply(t, d, x, api.Do, api.Good, 7, live(api.Running, 1, 0, 27))
	wantReply(t, d, live(api.Running, 1, 0, 27), api.Do, api.Failed, 8, live(api.Compensating, 1, 0, 28))
	wantReply(t, d, x, api.Do, api.Refused, 6, over(api.Aborted, 0))
}

// P19.1: which live instances are valid: their steps, tries and times.
func TestRightLive(t *testing.T) {
	d := def(step(2, 7), step(0, 8), step(5, 9))
	for _, status := range []int{api.Running, api.Compensating} {
		for at, s := range d.Steps {
			for tries := range s.Retry + 1 {
				right(t, d, live(status, at, tries, 1))
				right(t, d, live(status, at, tries, api.MaxTime+10000))
			}
			for _, tries := range append(beyond, -1, s.Retry+1, s.Retry+2, 6) {
				wrong(t, d, live(status, at, tries, 1))
			}
			for _, due := range []int{1, 2, 7, 255, 256, 10000, 1 << 32, api.MaxTime - 1, api.MaxTime, api.MaxTime + 1, api.MaxTime + 9999, api.MaxTime + 10000} {
				right(t, d, live(status, at, 0, due))
			}
			for _, due := range append(beyond, 0, -1, api.MaxTime+10001, api.MaxTime+20000) {
				wrong(t, d, live(status, at, 0, due))
			}
		}
		for _, at := range append(beyond, -1, 3, 4, 6, 256, 1<<32) {
			wrong(t, d, live(status, at, 0, 1))
		}
	}
}

// P19.1: a live instance may have its command in the outbox, or not.
func TestRightOut(t *testing.T) {
	d := def(step(2, 7), step(0, 8))
	for _, status := range []int{api.Running, api.Compensating} {
		x := live(status, 1, 0, 9)
		right(t, d, x)
		x.Out = false
		right(t, d, x)
	}
}

// P19.1: which instances that are over are valid.
func TestRightOver(t *testing.T) {
	for many := 1; many <= 6; many++ {
		d := def(slices.Repeat([]api.Step{step(2, 7)}, many)...)
		ends := map[api.Instance]bool{over(api.Committed, many): true, over(api.Aborted, 0): true}
		for at := range many {
			ends[over(api.Stuck, at)] = true
		}
		for _, status := range []int{api.Committed, api.Aborted, api.Stuck} {
			for _, at := range append(beyond, -1, 0, 1, 2, 3, 4, 5, 6, 7, 8) {
				if x := over(status, at); !ends[x] {
					wrong(t, d, x)
				}
			}
		}
		for x := range ends {
			right(t, d, x)
			for _, bad := range []func(x *api.Instance){
				func(x *api.Instance) { x.Tries = 1 },
				func(x *api.Instance) { x.Tries = -1 },
				func(x *api.Instance) { x.Due = 1 },
				func(x *api.Instance) { x.Due = -1 },
				func(x *api.Instance) { x.Out = true },
			} {
				y := x
				bad(&y)
				wrong(t, d, y)
			}
		}
	}
}

// P19.1: statuses that none has.
func TestRightStatus(t *testing.T) {
	for _, d := range small() {
		for _, status := range append(beyond, 0, -1, 6, 7, 256+1, 1<<32+1, 1<<32+3) {
			for at := range len(d.Steps) + 1 {
				wrong(t, d, over(status, at))
				wrong(t, d, live(status, at, 0, 5))
			}
		}
	}
}

// badNames are strings that are no names.
var badNames = []string{"", "A", "a_b", "a b", "é", "a\x00", "a\n", strings.Repeat("n", 21), strings.Repeat("n", 1<<20)}

// states is an instance of each status that is valid for a definition with two steps.
func states() []api.Instance {
	return []api.Instance{live(api.Running, 1, 0, 9), live(api.Compensating, 0, 1, 9), over(api.Committed, 2), over(api.Aborted, 0), over(api.Stuck, 1)}
}

// P19.1: the names of an instance: its own, and that of its definition.
func TestRightNames(t *testing.T) {
	d := def(step(1, 10), step(0, 20))
	for _, x := range states() {
		right(t, d, x)
		for _, id := range []string{"-", "0", "p", "order-2026", strings.Repeat("n", 20)} {
			x.ID = id
			right(t, d, x)
		}
		for _, id := range badNames {
			x.ID = id
			wrong(t, d, x)
		}
	}
	for _, x := range states() {
		for _, name := range []string{"", "q", "P", "pp", "p ", "a", "p\x00"} {
			x.Def = name
			wrong(t, d, x)
		}
	}
	// The names must be the same one, and a valid one.
	for _, x := range states() {
		for _, name := range []string{"q", "a", strings.Repeat("n", 20)} {
			d.Name, x.Def = name, name
			right(t, d, x)
		}
		for _, name := range badNames {
			d.Name, x.Def = name, name
			wrong(t, d, x)
		}
	}
}

// badDefs are definitions with the name p, but the last one, that are not valid; their first two steps are as they may be, if they have so many.
func badDefs() []api.Def {
	return []api.Def{
		def(),
		def(slices.Repeat([]api.Step{step(1, 10)}, 7)...),
		def(step(1, 10), step(0, 20), step(6, 30)),
		def(step(1, 10), step(0, 20), step(-1, 30)),
		def(step(1, 10), step(0, 20), step(0, 0)),
		def(step(1, 10), step(0, 20), step(0, 10001)),
		{Name: "P", Steps: []api.Step{step(1, 10), step(0, 20)}},
	}
}

// P19.1 to P19.3: of a definition that is not valid nothing is valid, and nothing begins.
func TestBadDefs(t *testing.T) {
	for _, d := range badDefs() {
		noBegin(t, d, "a", 5)
		for _, x := range append(states(), over(api.Committed, len(d.Steps)), live(api.Running, 0, 0, 5)) {
			x.Def = d.Name
			wrong(t, d, x)
		}
	}
	wrong(t, api.Def{}, api.Instance{})
	noBegin(t, api.Def{}, "a", 5)
	noBegin(t, api.Def{}, "", -1)
}

// P19.1: Live looks at the status alone.
func TestLive(t *testing.T) {
	for _, status := range append(beyond, -1, 0, 1, 2, 3, 4, 5, 6, 7, 257, 1<<32+1) {
		want := status == 1 || status == 2
		for _, x := range []api.Instance{{Status: status}, over(status, 0), live(status, 0, 0, 5), live(status, -7, 99, -1)} {
			if got := saga.Live(x); got != want {
				t.Errorf("Live(%+v) = %t; want %t", x, got, want)
			}
		}
	}
}

// P19.1: sagas begin at the first step, and are due by its timeout.
func TestBegin(t *testing.T) {
	for _, c := range []struct {
		d        api.Def
		now, due int
	}{
		{def(step(0, 1)), 0, 1},
		{def(step(5, 10000)), 0, 10000},
		{def(step(1, 10), step(0, 20)), 5, 15},
		{def(step(0, 20), step(1, 10), step(2, 30)), 5, 25},
		{def(step(0, 1)), api.MaxTime, api.MaxTime + 1},
		{def(step(0, 10000)), api.MaxTime, api.MaxTime + 10000},
		{def(step(0, 10000), step(0, 1)), api.MaxTime - 1, api.MaxTime + 9999},
		{great(), 1 << 32, 1<<32 + 10000},
	} {
		x, err := saga.Begin(c.d, "a", c.now)
		if want := live(api.Running, 0, 0, c.due); x != want || err != nil {
			t.Errorf("Begin(%v, a, %d) = %+v, %v; want %+v", c.d, c.now, x, err, want)
		}
		right(t, c.d, x)
	}
}

// P19.1: names and times with which a saga may begin, and others.
func TestBeginNames(t *testing.T) {
	d := def(step(1, 10))
	for _, name := range []string{"a", "-", "0", "order-2026", strings.Repeat("z", 20)} {
		x, err := saga.Begin(d, name, 5)
		if want := (api.Instance{ID: name, Def: "p", Status: 1, Due: 15, Out: true}); x != want || err != nil {
			t.Errorf("Begin(%v, %q, 5) = %+v, %v; want %+v", d, name, x, err, want)
		}
		other := api.Def{Name: name, Steps: d.Steps}
		x, err = saga.Begin(other, "a", 5)
		if want := (api.Instance{ID: "a", Def: name, Status: 1, Due: 15, Out: true}); x != want || err != nil {
			t.Errorf("Begin(%v, a, 5) = %+v, %v; want %+v", other, x, err, want)
		}
	}
	for _, name := range badNames {
		noBegin(t, d, name, 5)
		noBegin(t, api.Def{Name: name, Steps: d.Steps}, "a", 5)
	}
	for _, now := range append(beyond, -1, api.MaxTime+1, api.MaxTime+10000) {
		noBegin(t, d, "a", now)
	}
	for _, now := range []int{0, 1, 1 << 20, 1 << 32, api.MaxTime - 1, api.MaxTime} {
		if !begins(t, d, "a", now) {
			t.Errorf("Begin(%v, a, %d) is refused", d, now)
		}
	}
}

// P19.1: the commands of all states of an ordinary saga.
func TestCommand(t *testing.T) {
	for _, id := range []string{"a", "order-2026"} {
		for at := range 6 {
			for tries := range 6 {
				for status, dir := range map[int]int{api.Running: api.Do, api.Compensating: api.Undo} {
					x := live(status, at, tries, 15)
					x.ID = id
					want := api.Command{ID: id, Step: at, Dir: dir, Try: tries}
					for _, x.Out = range []bool{true, false} {
						if c, ok := saga.Command(x); c != want || !ok {
							t.Errorf("Command(%+v) = %+v, %t; want %+v, true", x, c, ok, want)
						}
					}
				}
			}
		}
	}
	for _, status := range append(beyond, -1, 0, 3, 4, 5, 6, 257, 1<<32+1) {
		for _, x := range []api.Instance{{}, over(status, 0), over(status, 3), live(status, 1, 2, 15)} {
			x.Status = status
			if c, ok := saga.Command(x); c != (api.Command{}) || ok {
				t.Errorf("Command(%+v) = %+v, %t; want nothing, false", x, c, ok)
			}
		}
	}
}

// P19.1: a live instance has its command whatever the rest of it is, for Command knows no definition.
func TestCommandAny(t *testing.T) {
	for _, n := range append(beyond, -1, 7) {
		for _, id := range badNames {
			x := api.Instance{ID: id, Status: api.Compensating, At: n, Tries: ^n}
			if c, ok := saga.Command(x); c != (api.Command{ID: id, Step: n, Dir: api.Undo, Try: ^n}) || !ok {
				t.Errorf("Command(%+v) = %+v, %t", x, c, ok)
			}
		}
	}
}

// P19.2: each row of the chapter's table, with each of its conditions, at the steps of one definition.
func TestReply(t *testing.T) {
	d := def(step(1, 10), step(0, 20), step(3, 30))
	const run, comp = api.Running, api.Compensating
	for _, c := range []struct {
		x    api.Instance
		what int
		want api.Instance
	}{
		{live(run, 0, 0, 9), api.Good, live(run, 1, 0, 1020)},
		{live(run, 0, 1, 9), api.Good, live(run, 1, 0, 1020)},
		{live(run, 1, 0, 9), api.Good, live(run, 2, 0, 1030)},
		{live(run, 2, 0, 9), api.Good, over(api.Committed, 3)},
		{live(run, 2, 3, 9), api.Good, over(api.Committed, 3)},

		{live(run, 0, 0, 9), api.Refused, over(api.Aborted, 0)},
		{live(run, 0, 1, 9), api.Refused, over(api.Aborted, 0)},
		{live(run, 1, 0, 9), api.Refused, live(comp, 0, 0, 1010)},
		{live(run, 2, 0, 9), api.Refused, live(comp, 1, 0, 1020)},
		{live(run, 2, 3, 9), api.Refused, live(comp, 1, 0, 1020)},

		{live(run, 0, 0, 9), api.Failed, live(run, 0, 1, 1010)},
		{live(run, 0, 1, 9), api.Failed, live(comp, 0, 0, 1010)},
		{live(run, 1, 0, 9), api.Failed, live(comp, 1, 0, 1020)},
		{live(run, 2, 0, 9), api.Failed, live(run, 2, 1, 1030)},
		{live(run, 2, 2, 9), api.Failed, live(run, 2, 3, 1030)},
		{live(run, 2, 3, 9), api.Failed, live(comp, 2, 0, 1030)},

		{live(comp, 0, 0, 9), api.Good, over(api.Aborted, 0)},
		{live(comp, 0, 1, 9), api.Good, over(api.Aborted, 0)},
		{live(comp, 1, 0, 9), api.Good, live(comp, 0, 0, 1010)},
		{live(comp, 2, 0, 9), api.Good, live(comp, 1, 0, 1020)},
		{live(comp, 2, 3, 9), api.Good, live(comp, 1, 0, 1020)},

		{live(comp, 0, 0, 9), api.Refused, live(comp, 0, 1, 1010)},
		{live(comp, 0, 1, 9), api.Refused, over(api.Stuck, 0)},
		{live(comp, 1, 0, 9), api.Refused, over(api.Stuck, 1)},
		{live(comp, 2, 2, 9), api.Refused, live(comp, 2, 3, 1030)},
		{live(comp, 2, 3, 9), api.Refused, over(api.Stuck, 2)},

		{live(comp, 0, 0, 9), api.Failed, live(comp, 0, 1, 1010)},
		{live(comp, 0, 1, 9), api.Failed, over(api.Stuck, 0)},
		{live(comp, 1, 0, 9), api.Failed, over(api.Stuck, 1)},
		{live(comp, 2, 2, 9), api.Failed, live(comp, 2, 3, 1030)},
		{live(comp, 2, 3, 9), api.Failed, over(api.Stuck, 2)},
	} {
		right(t, d, c.x)
		right(t, d, c.want)
		// The direction of a command has the number of the status.
		wantReply(t, d, c.x, c.x.Status, c.what, 1000, c.want)
		// That the command was taken from the outbox changes nothing.
		c.x.Out = false
		wantReply(t, d, c.x, c.x.Status, c.what, 1000, c.want)
	}
}

// P19.2: the new instance has the names of the old one.
func TestReplyNames(t *testing.T) {
	for _, id := range []string{"order-2026", "0", "p", "name"} {
		for _, x := range states() {
			d := api.Def{Name: "name", Steps: []api.Step{step(1, 10), step(0, 20)}}
			x.ID, x.Def = id, "name"
			for what := api.Good; what <= api.Failed; what++ {
				if y, ok := saga.Reply(d, x, x.At, x.Status, what, 5); y.ID != id || y.Def != "name" || ok != saga.Live(x) {
					t.Errorf("Reply(%v, %+v) = %+v, %t", d, x, y, ok)
				}
			}
		}
	}
}

// P19.2: a reply may come at any time, also ahead of the last one, and behind the time that it was due at.
func TestReplyTimes(t *testing.T) {
	d := def(step(1, 10), step(0, 10000))
	for _, due := range []int{1, 15, api.MaxTime, api.MaxTime + 10000} {
		for _, now := range []int{0, 1, 14, 15, 16, 1 << 32, api.MaxTime - 1, api.MaxTime} {
			wantReply(t, d, live(api.Running, 0, 0, due), api.Do, api.Good, now, live(api.Running, 1, 0, now+10000))
			wantReply(t, d, live(api.Running, 0, 0, due), api.Do, api.Failed, now, live(api.Running, 0, 1, now+10))
			wantReply(t, d, live(api.Compensating, 1, 0, due), api.Undo, api.Good, now, live(api.Compensating, 0, 0, now+10))
			wantReply(t, d, live(api.Running, 1, 0, due), api.Do, api.Good, now, over(api.Committed, 2))
		}
		for _, now := range append(beyond, -1, api.MaxTime+1, api.MaxTime+9999, api.MaxTime+10000) {
			for what := api.Good; what <= api.Failed; what++ {
				noReply(t, d, live(api.Running, 0, 0, due), 0, api.Do, what, now)
				noReply(t, d, live(api.Running, 1, 0, due), 1, api.Do, what, now)
				noReply(t, d, live(api.Compensating, 0, 0, due), 0, api.Undo, what, now)
			}
		}
	}
}

// P19.2: replies for another step or direction, and such as there are none of.
func TestReplyWrong(t *testing.T) {
	d := def(step(1, 10), step(0, 20), step(3, 30))
	for at := range 3 {
		for _, status := range []int{api.Running, api.Compensating} {
			for _, x := range []api.Instance{live(status, at, 0, 15), {ID: "a", Def: "p", Status: status, At: at, Due: 15}} {
				for _, n := range append(beyond, -1, 0, 1, 2, 3, 4, 256, 257, 1<<32, 1<<32+1, 1<<32+2) {
					for what := api.Good; what <= api.Failed; what++ {
						if n != at {
							noReply(t, d, x, n, status, what, 5)
						}
						if n != status {
							noReply(t, d, x, at, n, what, 5)
						}
					}
					if n < api.Good || n > api.Failed {
						noReply(t, d, x, at, status, n, 5)
					}
				}
			}
		}
	}
}

// P19.2: there is no reply to a saga that is over.
func TestReplyOver(t *testing.T) {
	d := def(step(1, 10), step(0, 20))
	for _, x := range []api.Instance{over(api.Committed, 2), over(api.Aborted, 0), over(api.Stuck, 0), over(api.Stuck, 1)} {
		right(t, d, x)
		for step := -1; step <= 3; step++ {
			for dir := range 6 {
				for what := range 5 {
					noReply(t, d, x, step, dir, what, 5)
				}
			}
		}
		for _, now := range []int{0, 5, api.MaxTime} {
			noExpiry(t, d, x, now)
		}
	}
}

// P19.3: an instance expires from the time on that it is due at, as if its command had failed.
func TestExpire(t *testing.T) {
	d := def(step(1, 10), step(0, 20), step(3, 30))
	for at, s := range d.Steps {
		for tries := range s.Retry + 1 {
			for _, status := range []int{api.Running, api.Compensating} {
				for _, x := range []api.Instance{live(status, at, tries, 100), {ID: "a", Def: "p", Status: status, At: at, Tries: tries, Due: 100}} {
					for _, now := range []int{0, 1, 98, 99} {
						noExpiry(t, d, x, now)
					}
					for _, now := range []int{100, 101, 356, 1 << 32, api.MaxTime - 1, api.MaxTime} {
						want := live(status, at, tries+1, now+s.Timeout)
						if tries == s.Retry && status == api.Running {
							want = live(api.Compensating, at, 0, now+s.Timeout)
						} else if tries == s.Retry {
							want = over(api.Stuck, at)
						}
						if y, ok := saga.Expire(d, x, now); y != want || !ok {
							t.Errorf("Expire(%v, %+v, %d) = %+v, %t; want %+v, true", d, x, now, y, ok, want)
						}
					}
					for _, now := range append(beyond, -1, api.MaxTime+1, api.MaxTime+10000) {
						noExpiry(t, d, x, now)
					}
				}
			}
		}
	}
}

// P19.3: what is due behind the last time of all never expires.
func TestExpireNever(t *testing.T) {
	d := def(step(1, 10))
	x := live(api.Running, 0, 0, api.MaxTime)
	noExpiry(t, d, x, api.MaxTime-1)
	if y, ok := saga.Expire(d, x, api.MaxTime); y != live(api.Running, 0, 1, api.MaxTime+10) || !ok {
		t.Errorf("Expire at the last time = %+v, %t", y, ok)
	}
	for _, due := range []int{api.MaxTime + 1, api.MaxTime + 10, api.MaxTime + 10000} {
		x.Due = due
		right(t, d, x)
		for _, now := range []int{0, api.MaxTime, api.MaxTime + 1, due - 1, due, due + 1, math.MaxInt} {
			noExpiry(t, d, x, now)
		}
	}
}

// P19.3: an ack is taken once, for the step and the direction of the command, and changes nothing else.
func TestAck(t *testing.T) {
	for at := range 6 {
		for _, status := range []int{api.Running, api.Compensating} {
			x := live(status, at, at%3, 77)
			want := x
			want.Out = false
			if y, ok := saga.Ack(x, at, status); y != want || !ok {
				t.Errorf("Ack(%+v, %d, %d) = %+v, %t; want %+v, true", x, at, status, y, ok, want)
			}
			noAck(t, want, at, status)
			for _, n := range append(beyond, -1, 0, 1, 2, 3, 4, 5, 6, 256, 257, 1<<32, 1<<32+1) {
				if n != at {
					noAck(t, x, n, status)
				}
				if n != status {
					noAck(t, x, at, n)
				}
			}
		}
	}
	for _, status := range append(beyond, -1, 0, 3, 4, 5, 6, 257) {
		for dir := range 7 {
			noAck(t, over(status, 0), 0, dir)
			noAck(t, live(status, 0, 0, 5), 0, dir)
			noAck(t, live(status, 0, 0, 5), 0, status)
		}
	}
}

// noAck checks that an ack is not accepted.
func noAck(t *testing.T, x api.Instance, step, dir int) {
	t.Helper()
	if y, ok := saga.Ack(x, step, dir); y != x || ok {
		t.Errorf("Ack(%+v, %d, %d) = %+v, %t; want the instance, false", x, step, dir, y, ok)
	}
}

// P19.3: Ack takes a live instance as it is, for it knows no definition.
func TestAckAny(t *testing.T) {
	for _, n := range append(beyond, -1, 7) {
		x := api.Instance{ID: "A", Status: api.Running, At: n, Tries: n, Due: n, Out: true}
		want := x
		want.Out = false
		if y, ok := saga.Ack(x, n, api.Do); y != want || !ok {
			t.Errorf("Ack(%+v, %d, 1) = %+v, %t; want %+v, true", x, n, y, ok, want)
		}
	}
}

// P3: no call changes the steps of a definition, nor the memory behind them.
func TestArguments(t *testing.T) {
	whole := []api.Step{step(1, 10), step(0, 20), step(2, 30), step(3, 40)}
	kept := slices.Clone(whole)
	for many := range 5 {
		d := def(whole[:many]...)
		saga.Begin(d, "a", 5)
		all(d, span(0, 6), span(-1, 5), span(0, 3), []int{0, 5}, func(x api.Instance) {
			saga.Right(d, x)
			saga.Expire(d, x, 9)
			for what := range 5 {
				saga.Reply(d, x, x.At, x.Status, what, 9)
			}
		})
		if !slices.Equal(whole, kept) {
			t.Fatalf("the %d steps have become %v", many, whole)
		}
	}
}
