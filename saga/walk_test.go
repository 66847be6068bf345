package saga_test

import (
	"math/rand"
	"testing"

	"palinode/api"
	"palinode/define"
	"palinode/saga"
)

// walk is a saga on its way: its commands so far, each step and direction once, the replies to the last try of each of them, and how many replies there were.
type walk struct {
	d        api.Def
	x        api.Instance
	commands []api.Command
	answers  []int
	replies  int
}

// begin is a walk at its beginning.
func begin(t *testing.T, d api.Def) walk {
	t.Helper()
	x, err := saga.Begin(d, "a", 0)
	if err != nil {
		t.Fatalf("Begin(%v) = %v", d, err)
	}
	return walk{d: d, x: x}
}

// reply is the walk behind a reply to its command; each of a command's tries must be one more than the one ahead of it.
func (w walk) reply(t *testing.T, what int) walk {
	t.Helper()
	c, ok := saga.Command(w.x)
	if !ok || !saga.Right(w.d, w.x) {
		t.Fatalf("%+v has no command, or is not valid for %v", w.x, w.d)
	}
	tried := c.Try
	c.Try = 0
	n := len(w.commands)
	if n == 0 || w.commands[n-1] != c {
		if tried != 0 {
			t.Fatalf("%v: the first try of %+v is %d", w.d, c, tried)
		}
		w.commands, w.answers = append(w.commands[:n:n], c), append(w.answers[:n:n], 0)
		n++
	} else if w.x.Tries < 1 || w.x.Tries > w.d.Steps[c.Step].Retry {
		t.Fatalf("%v: another try of %+v is %d", w.d, c, w.x.Tries)
	}
	w.answers = append(w.answers[:n-1:n-1], what)
	w.replies++
	w.x, ok = saga.Reply(w.d, w.x, c.Step, c.Dir, what, w.replies)
	if !ok {
		t.Fatalf("%v takes no reply %d to %+v", w.d, what, c)
	}
	return w
}

// undone is the commands that come behind the last Do, by what was answered to it.
func (w walk) undone(last, what int) []api.Command {
	first := last
	if what == api.Refused {
		first--
	}
	var l []api.Command
	for at := first; at >= 0; at-- {
		l = append(l, api.Command{ID: "a", Step: at, Dir: api.Undo})
	}
	return l
}

// check holds a walk that is over against P19.4: its commands, its end, its number of replies.
func (w walk) check(t *testing.T) {
	t.Helper()
	last := -1
	for last+1 < len(w.commands) && w.commands[last+1] == (api.Command{ID: "a", Step: last + 1, Dir: api.Do}) {
		last++
	}
	if last < 0 || !saga.Right(w.d, w.x) || w.replies > define.Tries(w.d) {
		t.Fatalf("%v: %+v behind %d replies to %v", w.d, w.x, w.replies, w.commands)
	}
	for _, what := range w.answers[:last] {
		if what != api.Good {
			t.Fatalf("%v: %v goes on behind %v", w.d, w.commands, w.answers)
		}
	}
	want := over(api.Committed, len(w.d.Steps))
	undo := w.undone(last, w.answers[last])
	if w.answers[last] == api.Good {
		if last != len(w.d.Steps)-1 {
			t.Fatalf("%v: no Do behind %v", w.d, w.commands)
		}
		undo = nil
	} else {
		want = over(api.Aborted, 0)
	}
	for i, c := range w.commands[last+1:] {
		if i >= len(undo) || c != undo[i] {
			t.Fatalf("%v: the commands are %v, answered with %v", w.d, w.commands, w.answers)
		}
		if w.answers[last+1+i] != api.Good {
			want = over(api.Stuck, c.Step)
			undo = undo[:i+1]
		}
	}
	if len(w.commands[last+1:]) != len(undo) || w.x != want {
		t.Fatalf("%v: %+v behind %v, answered with %v; want %+v", w.d, w.x, w.commands, w.answers, want)
	}
}

// visit checks all walks that go on from here, and tells how many they are, and the most replies that one has.
func (w walk) visit(t *testing.T) (walks, most int) {
	if !saga.Live(w.x) {
		w.check(t)
		return 1, w.replies
	}
	for what := api.Good; what <= api.Failed; what++ {
		n, replies := w.reply(t, what).visit(t)
		walks, most = walks+n, max(most, replies)
	}
	return walks, most
}

// P19.4: all walks of small definitions; the longest one has as many replies as there may be.
func TestEveryWalk(t *testing.T) {
	defs := append(small(), def(step(5, 1)), def(step(3, 1), step(2, 1)), def(step(0, 1), step(0, 2), step(0, 3), step(0, 4), step(0, 5), step(0, 6)))
	for _, d := range defs {
		walks, most := begin(t, d).visit(t)
		if most != define.Tries(d) || walks < 1 {
			t.Errorf("%v: %d walks, of at most %d replies; want %d", d, walks, most, define.Tries(d))
		}
	}
	// With one step that is not retried: Good, Refused, and Failed with each of three replies to the Undo.
	if walks, _ := begin(t, def(step(0, 1))).visit(t); walks != 5 {
		t.Errorf("%d walks of the shortest definition; want 5", walks)
	}
}

// P19.4: walks of definitions of all sizes, with replies of all kinds in different proportions.
func TestRandomWalks(t *testing.T) {
	r := rand.New(rand.NewSource(19))
	ends := map[int]int{}
	for range 40000 {
		d := def()
		for range 1 + r.Intn(6) {
			d.Steps = append(d.Steps, step(r.Intn(6), 1+r.Intn(10000)))
		}
		good, refused := 1+r.Intn(30), 1+r.Intn(3)
		w := begin(t, d)
		for saga.Live(w.x) {
			what := api.Failed
			if n := r.Intn(good + refused + 3); n < good {
				what = api.Good
			} else if n < good+refused {
				what = api.Refused
			}
			w = w.reply(t, what)
		}
		w.check(t)
		ends[w.x.Status]++
	}
	for _, status := range []int{api.Committed, api.Aborted, api.Stuck} {
		if ends[status] < 1000 {
			t.Errorf("%d walks have come to the end %d; the test wants many", ends[status], status)
		}
	}
}

// longest is the most replies that there may be from here on, by what was found of other states; each of them must be valid.
func longest(t *testing.T, d api.Def, x api.Instance, found map[api.Instance]int) int {
	if !saga.Right(d, x) {
		t.Fatalf("%+v is not valid for %v", x, d)
	}
	if !saga.Live(x) {
		return 0
	}
	if n, ok := found[x]; ok {
		return n
	}
	c, _ := saga.Command(x)
	most := 0
	for what := api.Good; what <= api.Failed; what++ {
		y, ok := saga.Reply(d, x, c.Step, c.Dir, what, 0)
		if !ok {
			t.Fatalf("%v takes no reply %d to %+v", d, what, x)
		}
		most = max(most, 1+longest(t, d, y, found))
	}
	found[x] = most
	return most
}

// P19.4: a saga is over after at most so many replies as its definition has tries, and there is one that has so many; all definitions of up to four steps by their retries, and the greatest one.
func TestLongest(t *testing.T) {
	lists := [][]api.Step{nil}
	for i := 0; i < len(lists); i++ {
		l := lists[i]
		for retry := range 6 {
			if len(l) < 4 {
				lists = append(lists, append(l[:len(l):len(l)], step(retry, 1+len(l))))
			}
		}
	}
	greatest := def(step(5, 1), step(5, 2), step(5, 3), step(5, 4), step(5, 5), step(5, 6))
	for _, l := range append(lists[1:], greatest.Steps, great().Steps) {
		d := def(l...)
		found := map[api.Instance]int{}
		if got := longest(t, d, begin(t, d).x, found); got != define.Tries(d) {
			t.Fatalf("%v: at most %d replies; want %d", d, got, define.Tries(d))
		}
		// Each try of each step in each direction is one state.
		if len(found) != define.Tries(d) {
			t.Fatalf("%v has %d live states; want %d", d, len(found), define.Tries(d))
		}
	}
}

// P19.2 to P19.4: what is answered twice, late or to nothing changes nothing; what is lost expires, and the commands stay in order.
func TestDisorder(t *testing.T) {
	r := rand.New(rand.NewSource(20))
	for range 3000 {
		d := great()
		w := begin(t, d)
		for saga.Live(w.x) {
			old := w.x
			c, _ := saga.Command(old)
			taken, ok := saga.Ack(old, c.Step, c.Dir)
			if !ok {
				t.Fatalf("Ack(%+v) = false", old)
			}
			if r.Intn(2) == 0 {
				w.x = taken
			}
			if r.Intn(4) == 0 {
				// A command that nobody answers to is as one that has failed.
				want := w.reply(t, api.Failed)
				y, ok := saga.Expire(d, w.x, w.x.Due)
				z, same := saga.Reply(d, w.x, c.Step, c.Dir, api.Failed, w.x.Due)
				if !ok || !same || y != z || y.Status != want.x.Status || y.At != want.x.At || y.Tries != want.x.Tries {
					t.Fatalf("Expire(%+v) = %+v, %t; want %+v", w.x, y, ok, z)
				}
				w = want
			} else {
				w = w.reply(t, 1+r.Intn(3)*r.Intn(2))
			}
			if now, _ := saga.Command(w.x); now.Step != c.Step || now.Dir != c.Dir {
				noReply(t, d, w.x, c.Step, c.Dir, 1+r.Intn(3), 5)
				noAck(t, w.x, c.Step, c.Dir)
			}
		}
		w.check(t)
	}
}
