package saga_test

import (
	"math"
	"testing"

	"palinode/api"
	"palinode/define"
	"palinode/saga"
)

// within tells whether n is from least to most.
func within(n, least, most int) bool { return n >= least && n <= most }

// clocked is what the chapter's words say of a time.
func clocked(n int) bool { return within(n, 0, 1<<40) }

// alive is what the chapter's words say of a live instance.
func alive(x api.Instance) bool { return x.Status == 1 || x.Status == 2 }

// valid is what the chapter's words say of an instance that is valid for a definition.
func valid(d api.Def, x api.Instance) bool {
	many := len(d.Steps)
	step := x.At >= 0 && x.At < many
	named := define.Right(d) && define.Name(x.ID) && x.Def == d.Name
	none := x.Tries == 0 && x.Due == 0 && !x.Out
	switch x.Status {
	case 1, 2:
		return named && step && x.Tries >= 0 && x.Tries <= d.Steps[x.At].Retry && within(x.Due, 1, 1<<40+10000)
	case 3:
		return named && none && x.At == many
	case 4:
		return named && none && x.At == 0
	case 5:
		return named && none && step
	}
	return false
}

// modelBegin is a new instance, and whether there may be one.
func modelBegin(d api.Def, id string, now int) (api.Instance, bool) {
	if !define.Right(d) || !define.Name(id) || !clocked(now) {
		return api.Instance{}, false
	}
	return api.Instance{ID: id, Def: d.Name, Status: 1, Due: now + d.Steps[0].Timeout, Out: true}, true
}

// modelCommand is the command of an instance, and whether it has one.
func modelCommand(x api.Instance) (api.Command, bool) {
	// A live instance has the status 1 with the direction 1, or 2 with 2.
	if !alive(x) {
		return api.Command{}, false
	}
	return api.Command{ID: x.ID, Step: x.At, Dir: x.Status, Try: x.Tries}, true
}

// after is what becomes of an instance: its status, its step and its tries; an end says which step there is, and no tries.
type after struct {
	status, at, tries int
	over              bool
}

// row is what the chapter's table says of an instance that is valid and live, and of a reply.
func row(d api.Def, x api.Instance, what int) after {
	last, more := x.At == len(d.Steps)-1, x.Tries < d.Steps[x.At].Retry
	switch 10*x.Status + what {
	case 11:
		if last {
			return after{3, x.At + 1, 0, true}
		}
		return after{1, x.At + 1, 0, false}
	case 12:
		if x.At == 0 {
			return after{4, 0, 0, true}
		}
		return after{2, x.At - 1, 0, false}
	case 13:
		if more {
			return after{1, x.At, x.Tries + 1, false}
		}
		return after{2, x.At, 0, false}
	case 21:
		if x.At == 0 {
			return after{4, 0, 0, true}
		}
		return after{2, x.At - 1, 0, false}
	}
	if more {
		return after{2, x.At, x.Tries + 1, false}
	}
	return after{5, x.At, 0, true}
}

// modelReply is an instance behind a reply, and whether that is accepted.
func modelReply(d api.Def, x api.Instance, step, dir, what, now int) (api.Instance, bool) {
	c, live := modelCommand(x)
	if !live || !valid(d, x) || step != c.Step || dir != c.Dir || !within(what, 1, 3) || !clocked(now) {
		return x, false
	}
	a := row(d, x, what)
	y := api.Instance{ID: x.ID, Def: x.Def, Status: a.status, At: a.at, Tries: a.tries}
	if !a.over {
		y.Due, y.Out = now+d.Steps[a.at].Timeout, true
	}
	return y, true
}

// modelExpire is an instance behind a timeout, and whether there is one.
func modelExpire(d api.Def, x api.Instance, now int) (api.Instance, bool) {
	if !alive(x) || !valid(d, x) || !clocked(now) || now < x.Due {
		return x, false
	}
	return modelReply(d, x, x.At, x.Status, 3, now)
}

// modelAck is an instance whose command was taken, and whether it was there.
func modelAck(x api.Instance, step, dir int) (api.Instance, bool) {
	if !alive(x) || !x.Out || step != x.At || dir != x.Status {
		return x, false
	}
	return api.Instance{ID: x.ID, Def: x.Def, Status: x.Status, At: x.At, Tries: x.Tries, Due: x.Due}, true
}

// agrees holds what the calls tell of an instance alone against the model, and tells whether it is valid.
func agrees(t *testing.T, d api.Def, x api.Instance) bool {
	t.Helper()
	ok := valid(d, x)
	if got := saga.Right(d, x); got != ok {
		t.Fatalf("Right(%v, %+v) = %t; want %t", d, x, got, ok)
	}
	if got, want := saga.Live(x), alive(x); got != want {
		t.Fatalf("Live(%+v) = %t; want %t", x, got, want)
	}
	c, has := saga.Command(x)
	if want, wants := modelCommand(x); c != want || has != wants {
		t.Fatalf("Command(%+v) = %+v, %t; want %+v, %t", x, c, has, want, wants)
	}
	return ok
}

// replies holds a reply against the model, checks that what comes of it is valid (P19.4), and tells whether it is accepted.
func replies(t *testing.T, d api.Def, x api.Instance, step, dir, what, now int) bool {
	t.Helper()
	y, ok := saga.Reply(d, x, step, dir, what, now)
	want, wants := modelReply(d, x, step, dir, what, now)
	if y != want || ok != wants {
		t.Fatalf("Reply(%v, %+v, %d, %d, %d, %d) = %+v, %t; want %+v, %t", d, x, step, dir, what, now, y, ok, want, wants)
	}
	if ok && !saga.Right(d, y) {
		t.Fatalf("Reply(%v, %+v, %d, %d, %d, %d) = %+v, which is not valid", d, x, step, dir, what, now, y)
	}
	return ok
}

// expires holds a timeout against the model, checks that what comes of it is valid (P19.4), and tells whether there is one.
func expires(t *testing.T, d api.Def, x api.Instance, now int) bool {
	t.Helper()
	y, ok := saga.Expire(d, x, now)
	want, wants := modelExpire(d, x, now)
	if y != want || ok != wants {
		t.Fatalf("Expire(%v, %+v, %d) = %+v, %t; want %+v, %t", d, x, now, y, ok, want, wants)
	}
	if ok && !saga.Right(d, y) {
		t.Fatalf("Expire(%v, %+v, %d) = %+v, which is not valid", d, x, now, y)
	}
	return ok
}

// acks holds an ack against the model, checks that what comes of a valid instance is valid (P19.4), and tells whether it is accepted.
func acks(t *testing.T, d api.Def, x api.Instance, step, dir int) bool {
	t.Helper()
	y, ok := saga.Ack(x, step, dir)
	want, wants := modelAck(x, step, dir)
	if y != want || ok != wants {
		t.Fatalf("Ack(%+v, %d, %d) = %+v, %t; want %+v, %t", x, step, dir, y, ok, want, wants)
	}
	if saga.Right(d, x) && !saga.Right(d, y) {
		t.Fatalf("Ack(%+v, %d, %d) = %+v, which is not valid", x, step, dir, y)
	}
	return ok
}

// begins holds a beginning against the model, checks that what comes of it is valid (P19.4), and tells whether there may be one.
func begins(t *testing.T, d api.Def, id string, now int) bool {
	t.Helper()
	x, err := saga.Begin(d, id, now)
	want, ok := modelBegin(d, id, now)
	var no error
	if !ok {
		no = api.ErrArg
	}
	if x != want || err != no {
		t.Fatalf("Begin(%.200v, %.100q, %d) = %+v, %v; want %+v, %v", d, id, now, x, err, want, no)
	}
	if ok && !saga.Right(d, x) {
		t.Fatalf("Begin(%v, %q, %d) = %+v, which is not valid", d, id, now, x)
	}
	return ok
}

// all calls a function with every instance of these statuses, steps, tries and times, with and without its command in the outbox.
func all(d api.Def, statuses, ats, tries, dues []int, visit func(x api.Instance)) {
	for _, status := range statuses {
		for _, at := range ats {
			for _, tried := range tries {
				for _, due := range dues {
					x := api.Instance{ID: "a", Def: d.Name, Status: status, At: at, Tries: tried, Due: due}
					visit(x)
					x.Out = true
					visit(x)
				}
			}
		}
	}
}

// span is the numbers from least to most.
func span(least, most int) []int {
	var l []int
	for n := least; n <= most; n++ {
		l = append(l, n)
	}
	return l
}

// P19.1 to P19.4: every instance near the limits of some definitions, with every reply, timeout and ack near it.
func TestEveryNear(t *testing.T) {
	nows := []int{-1, 0, 1, 14, 15, 16, api.MaxTime, api.MaxTime + 1}
	dues := []int{-1, 0, 1, 15, api.MaxTime, api.MaxTime + 10000, api.MaxTime + 10001}
	for _, d := range small() {
		many := len(d.Steps)
		ats := span(-1, many+1)
		right, taken, late := 0, 0, 0
		all(d, span(-1, 6), ats, span(-1, 3), dues, func(x api.Instance) {
			if agrees(t, d, x) {
				right++
			}
			for _, now := range nows {
				if expires(t, d, x, now) {
					late++
				}
			}
			for _, step := range ats {
				for dir := range 4 {
					acks(t, d, x, step, dir)
					for what := range 5 {
						for _, now := range nows {
							if replies(t, d, x, step, dir, what, now) {
								taken++
							}
						}
					}
				}
			}
		})
		// The live ones: of each try of each step two statuses, four times, with and without Out. The others: one Committed, one Aborted, and as many Stuck as there are steps.
		lives := define.Tries(d) * 4 * 2
		if want := lives + 2 + many; right != want {
			t.Errorf("%v has %d valid instances here; want %d", d, right, want)
		}
		// Each of the live ones takes three replies at six times.
		if want := lives * 3 * 6; taken != want {
			t.Errorf("%v takes %d replies here; want %d", d, taken, want)
		}
		// Of the four times, 1 is reached by five of the others, 15 by three, the last one of all by one.
		if want := lives / 4 * (5 + 3 + 1); late != want {
			t.Errorf("%v has %d timeouts here; want %d", d, late, want)
		}
	}
}

// P19.1 to P19.4: every valid instance of a great definition and those around them, with numbers far from any that may be.
func TestEveryFar(t *testing.T) {
	d := great()
	dues := []int{0, 1, 500, api.MaxTime + 10000}
	taken := 0
	all(d, span(0, 6), append(span(-1, 8), beyond...), append(span(-1, 7), beyond...), dues, func(x api.Instance) {
		agrees(t, d, x)
		for _, now := range []int{0, 499, 500, api.MaxTime} {
			expires(t, d, x, now)
			if replies(t, d, x, x.At, x.Status, 1+now%3, now) {
				taken++
			}
		}
		for _, n := range beyond {
			if expires(t, d, x, n) {
				t.Fatalf("Expire(%v, %+v, %d) is true", d, x, n)
			}
			acks(t, d, x, n, x.Status)
			acks(t, d, x, x.At, n)
			// A status that is the direction of the command may stand at a step far away, but is not valid there.
			if replies(t, d, x, n, x.Status, 1, 5) || replies(t, d, x, x.At, n, 1, 5) || replies(t, d, x, x.At, x.Status, n, 5) || replies(t, d, x, x.At, x.Status, 1, n) {
				t.Fatalf("%v takes a reply with %d at %+v", d, n, x)
			}
		}
	})
	if want := define.Tries(d) * 3 * 2 * 4; taken != want {
		t.Errorf("%v takes %d replies here; want %d", d, taken, want)
	}
}

// script is bytes that say what is called; behind its end it says zeros.
type script struct{ b []byte }

func (s *script) next() int {
	if len(s.b) == 0 {
		return 0
	}
	c := s.b[0]
	s.b = s.b[1:]
	return int(c)
}

// number is mostly one from least to most, else one at the limits or beyond.
func (s *script) number(least, most int) int {
	if c := s.next(); c < 230 {
		return least + (c*65536+s.next()*256+s.next())%(most-least+1)
	}
	l := []int{least - 1, most + 1, least, most, -1, math.MinInt, math.MaxInt, 1 << 32, 256, api.MaxTime, api.MaxTime + 10000, api.MaxTime + 10001}
	return l[s.next()%len(l)]
}

// name is mostly one that is valid.
func (s *script) name() string {
	return []string{"a", "b", "p", "ship-9", "abcdefghijklmnopqrst", "a", "b", "p", "", "A", "abcdefghijklmnopqrstu"}[s.next()%11]
}

// def is a definition, mostly one that is valid.
func (s *script) def() api.Def {
	d := api.Def{Name: s.name()}
	for range s.number(1, 6) & 7 {
		retry := s.number(0, 5)
		d.Steps = append(d.Steps, api.Step{Retry: retry, Timeout: s.number(1, 10000)})
	}
	return d
}

// instance is an instance, mostly one that is valid for a definition.
func (s *script) instance(d api.Def) api.Instance {
	x := api.Instance{ID: s.name(), Def: d.Name, Status: s.number(1, 5)}
	if s.next() > 240 {
		x.Def = s.name()
	}
	x.At = s.number(0, max(1, len(d.Steps)))
	x.Tries, x.Due, x.Out = s.number(0, 1), s.number(0, api.MaxTime), s.next()%2 == 1
	if x.Status > 2 && s.next() < 200 {
		x.Tries, x.Due, x.Out = 0, 0, false
	}
	return x
}

// FuzzCalls looks for calls that are answered otherwise than the chapter's words say, or that make a valid instance one that is not (P19.1 to P19.4).
func FuzzCalls(f *testing.F) {
	f.Add([]byte{})
	f.Add([]byte("\x02\x00\x00\x01\x00\x00\x01\x00\x00\x09\x00\x00\x00\x00\x00\x13\x00\x00\x00\x00\x01\x01\x01\x02"))
	f.Add([]byte("\x03\xe6\x03\x00\x00\x05\x00\x01\x00\x00\x00\x02\x00\x02\x00\x00\x00\x03\x00\x03\x00\x00\x00\x04\x02\x01\x01\x01\x01\x01"))
	f.Add([]byte("\x02\xff\x09\xff\x0a\xff\x0b\xff\x05\xff\x06\xff\x07\xff\x08"))
	f.Fuzz(func(t *testing.T, b []byte) {
		s := &script{b}
		d := s.def()
		begins(t, d, s.name(), s.number(0, api.MaxTime))
		x := s.instance(d)
		for range 30 {
			agrees(t, d, x)
			step, dir := x.At, x.Status
			if s.next() > 200 {
				step, dir = s.number(0, 5), s.number(1, 2)
			}
			what, now := s.number(1, 3), s.number(0, api.MaxTime)
			acks(t, d, x, step, dir)
			expires(t, d, x, now)
			replies(t, d, x, step, dir, what, now)
			y, ok := saga.Reply(d, x, step, dir, what, now)
			if !ok {
				y, _ = saga.Ack(x, step, dir)
			}
			x = y
		}
	})
}
