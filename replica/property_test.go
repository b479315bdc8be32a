package replica_test

import (
	"slices"
	"strconv"
	"testing"

	"errata/api"
	"errata/replica"
)

// cluster has three replicas, what each of them has stored, and the messages in flight.
type cluster struct {
	t         *testing.T
	next      func(n int) int
	up        [3]*pair // nil for one that has crashed
	hard      [3]api.Hard
	log       [3][]api.Rec
	flight    []string
	leaders   map[int]int // the one of each term
	committed []api.Rec   // the longest list that any replica has committed
	proposed  int
	replaced  int // how often entries were replaced by others
	restarts  int
}

func newCluster(t *testing.T, seed int) *cluster {
	c := &cluster{t: t, next: numbers(uint64(seed)), leaders: map[int]int{}}
	for id := range c.up {
		c.hard[id].Vote = -1
		c.start(id)
	}
	return c
}

// start begins again with what was stored.
func (c *cluster) start(id int) {
	c.t.Helper()
	if c.up[id] == nil {
		c.up[id] = newPair(c.t, id, c.hard[id], c.log[id])
		c.restarts++
	}
}

// do does a result, of which the last parts are left out by a crash after a number of them, unless it is negative.
func (c *cluster) do(id int, o api.Out, crash int) {
	c.t.Helper()
	parts := []func(){func() {
		if o.Save {
			c.hard[id] = o.Hard
		}
	}, func() {
		if o.From > 0 && o.From <= len(c.log[id]) {
			c.log[id] = slices.Clone(c.log[id][:o.From-1])
			c.replaced++
		}
	}, func() {
		c.log[id] = slices.Concat(c.log[id], o.Recs)
	}}
	for _, m := range o.Send {
		parts = append(parts, func() { c.flight = append(c.flight, replica.Bytes(m)) })
	}
	for i, part := range parts {
		if i == crash {
			c.up[id] = nil
			break
		}
		part()
	}
	if r := c.up[id]; r != nil && (c.hard[id] != r.r.Hard() || !slices.Equal(c.log[id], r.r.Log())) {
		c.t.Fatalf("%d has stored %v, %v, but is %v, %v", id, c.hard[id], c.log[id], r.r.Hard(), r.r.Log())
	}
	c.check()
}

// check checks what the theorem says.
func (c *cluster) check() {
	c.t.Helper()
	for id, r := range c.up {
		if r == nil {
			continue
		}
		term := c.hard[id].Term
		if first, ok := c.leaders[term]; r.r.Role() == replica.Lead && ok && first != id {
			c.t.Fatalf("%d and %d lead in the term %d", first, id, term)
		} else if r.r.Role() == replica.Lead {
			c.leaders[term] = id
		}
		l := c.log[id][:r.r.Commit()]
		n := min(len(l), len(c.committed))
		if !slices.Equal(l[:n], c.committed[:n]) {
			c.t.Fatalf("%d has committed %v, and another one %v", id, l, c.committed)
		}
		c.committed = slices.Concat(c.committed, l[n:])
	}
	for _, ids := range [][2]int{{0, 1}, {0, 2}, {1, 2}} {
		a, b := c.log[ids[0]], c.log[ids[1]]
		n := min(len(a), len(b))
		for n > 0 && a[n-1].Term != b[n-1].Term {
			n--
		}
		if !slices.Equal(a[:n], b[:n]) {
			c.t.Fatalf("%v and %v have entries with the same number and term, and others before them", a, b)
		}
	}
}

// deliver delivers the message with an index.
func (c *cluster) deliver(i, crash int) {
	c.t.Helper()
	m, ok := replica.Read(c.flight[i])
	if !ok {
		c.t.Fatalf("%q is no message", c.flight[i])
	}
	c.flight = slices.Delete(c.flight, i, i+1)
	if r := c.up[m.To]; r != nil {
		c.do(m.To, r.Hear(m), crash)
	}
}

func (c *cluster) tick(id, crash int) {
	c.t.Helper()
	if r := c.up[id]; r != nil {
		c.do(id, r.Tick(), crash)
	}
}

// propose gives one replica an entry that no other one is equal to.
func (c *cluster) propose(id, crash int) {
	c.t.Helper()
	if r := c.up[id]; r != nil {
		c.proposed++
		_, _, o := r.Propose(strconv.Itoa(c.proposed))
		c.do(id, o, crash)
	}
}

// mood says how often things happen, of 100 steps, and after how many of them another replica is cut off.
type mood struct{ tick, propose, crash, start, lose, double, cut int }

func moods() []mood {
	return []mood{
		{3, 10, 0, 0, 0, 0, 30},
		{3, 10, 0, 0, 8, 5, 30},
		{6, 8, 2, 10, 0, 0, 30},
		{4, 15, 2, 6, 5, 5, 20},
		{12, 10, 0, 0, 0, 5, 15},
		{12, 6, 4, 15, 10, 2, 30},
		{8, 25, 1, 3, 3, 0, 30},
		{2, 30, 0, 0, 0, 0, 100}, // logs that differ in more entries than a message can have
		{6, 3, 0, 0, 0, 0, 12},   // leaders that come and go, and send entries of older terms
		{10, 4, 0, 0, 0, 0, 10},
	}
}

// step does anything that can happen; one replica is cut off, unless that is 3.
func (c *cluster) step(m mood, cut int) {
	c.t.Helper()
	id, crash := c.next(3), -1
	if c.next(100) < 2*m.crash {
		crash = c.next(6)
	}
	k := c.next(100)
	less := func(n int) bool { k -= n; return k < 0 }
	switch i := c.next(len(c.flight) + 1); {
	case less(m.tick):
		c.tick(id, crash)
	case less(m.propose):
		c.propose(c.leading(id), crash)
	case less(m.crash):
		c.up[id] = nil
	case less(m.start):
		c.start(id)
	case i == len(c.flight):
	case less(m.lose), c.concerns(c.flight[i], cut):
		c.flight = slices.Delete(c.flight, i, i+1)
	case less(m.double):
		c.flight = append(c.flight, c.flight[i])
	default:
		c.deliver(i, crash)
	}
}

// leading returns the first replica from a number on that leads, or the number.
func (c *cluster) leading(id int) int {
	for i := range 3 {
		if r := c.up[(id+i)%3]; r != nil && r.r.Role() == replica.Lead {
			return (id + i) % 3
		}
	}
	return id
}

// concerns reports whether a message is from or to a replica.
func (c *cluster) concerns(s string, id int) bool {
	m, _ := replica.Read(s)
	return m.From == id || m.To == id
}

// steps does anything that can happen, a number of times.
func (c *cluster) steps(m mood, count int) {
	c.t.Helper()
	cut := 3
	for range count {
		if c.next(m.cut) == 0 {
			cut = c.next(4)
		}
		c.step(m, cut)
	}
}

// P8.7: whatever is lost, doubled, delayed and reordered, and whoever crashes.
func TestTheorem(t *testing.T) {
	all := moods()
	committed, replaced, elected, restarts := 0, 0, 0, 0
	for seed := range 1000 {
		c := newCluster(t, seed)
		c.steps(all[seed%len(all)], 1000)
		committed += len(c.committed)
		replaced += c.replaced
		elected += len(c.leaders)
		restarts += c.restarts
	}
	if committed < 9000 || replaced < 400 || elected < 3000 || restarts < 5000 {
		t.Errorf("only %d entries committed, %d replacements, %d leaders, %d restarts", committed, replaced, elected, restarts)
	}
}

// quiet delivers all messages in flight, and what comes of them, in any order, or the oldest one first.
func (c *cluster) quiet() {
	c.t.Helper()
	inOrder := c.next(2) == 0
	for n := 0; len(c.flight) > 0; n++ {
		if n > 20000 {
			c.t.Fatal("there is no end of messages")
		}
		i := 0
		if !inOrder {
			i = c.next(len(c.flight))
		}
		c.deliver(i, -1)
	}
}

// elect lets replicas tick one after the other until one leads in the greatest term, which it returns.
func (c *cluster) elect() int {
	c.t.Helper()
	for id := range 3 {
		c.start(id)
	}
	for n := range 6 {
		c.tick(n%3, -1)
		c.quiet()
		greatest := max(c.hard[0].Term, c.hard[1].Term, c.hard[2].Term)
		for id, r := range c.up {
			if r.r.Role() == replica.Lead && c.hard[id].Term == greatest {
				return id
			}
		}
	}
	c.t.Fatal("no replica leads")
	return 0
}

// agreed checks that all replicas have committed the whole log of one of them, once it has ticked.
func (c *cluster) agreed(id int) {
	c.t.Helper()
	c.tick(id, -1)
	c.quiet()
	log := c.log[id]
	for other, r := range c.up {
		if r.r.Commit() != len(log) || !slices.Equal(c.log[other], log) {
			c.t.Fatalf("%d leads with %.200v, but %d has %.200v, of which %d are committed", id, log, other, c.log[other], r.r.Commit())
		}
	}
}

// P8.8: whatever came before, once no message is lost any more, one of them leads soon, and what it is given is committed by all.
func TestProgress(t *testing.T) {
	all := moods()
	for seed := range 700 {
		c := newCluster(t, seed)
		c.steps(all[seed%len(all)], c.next(500))
		id := c.elect()
		for range c.next(20) {
			c.propose(id, -1)
		}
		c.propose(id, -1)
		c.quiet()
		if r := c.up[id]; r.r.Role() != replica.Lead || r.r.Commit() != len(c.log[id]) {
			t.Fatalf("the leader %d has committed %d of %v", id, r.r.Commit(), c.log[id])
		}
		c.agreed(id)
	}
}

// P8.8: logs that are very different become one, up to a full one, after which nothing more is taken.
func TestFullLog(t *testing.T) {
	for id := range 3 {
		c := newCluster(t, id)
		long, short := id, (id+1)%3
		c.hard[long], c.log[long] = api.Hard{Term: 2, Vote: long}, slices.Repeat([]api.Rec{{Term: 2, Data: "long"}}, replica.MaxLog-2)
		c.hard[short], c.log[short] = api.Hard{Term: 5, Vote: -1}, slices.Repeat([]api.Rec{{Term: 1, Data: "short"}}, 70)
		c.up = [3]*pair{}
		for other := range 3 {
			c.start(other)
		}
		for range 2 { // the first time, it learns only of the greater term
			c.tick(long, -1)
			c.quiet()
		}
		for range 2 {
			if _, e, o := c.up[long].Propose("end"); e != api.OK {
				t.Fatalf("the last entries: %d", e)
			} else {
				c.do(long, o, -1)
			}
			c.quiet()
		}
		c.agreed(long)
		if n, e, _ := c.up[long].Propose("more"); n != 0 || e != api.ErrFull || len(c.log[long]) != replica.MaxLog {
			t.Errorf("one more entry: %d, %d", n, e)
		}
	}
}

// P8.8: in the last term nothing can be begun any more.
func TestLastTerm(t *testing.T) {
	c := newCluster(t, 1)
	for id := range c.up {
		c.hard[id] = api.Hard{Term: replica.MaxTerm - 1, Vote: -1}
	}
	c.up = [3]*pair{}
	id := c.elect()
	c.propose(id, -1)
	c.quiet()
	c.agreed(id)
	c.up[id] = nil
	c.start(id)
	for range 3 {
		for other := range 3 {
			c.tick(other, -1)
			c.quiet()
		}
	}
	for other, r := range c.up {
		if r.r.Role() == replica.Lead || c.hard[other].Term != replica.MaxTerm {
			t.Errorf("%d: the role %d, the term %d", other, r.r.Role(), c.hard[other].Term)
		}
	}
}
