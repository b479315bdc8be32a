package group_test

import (
	"slices"
	"strconv"
	"testing"

	"errata/api"
	"errata/group"
	"errata/replica"
)

// watch has what was seen of a group.
type watch struct {
	t         *testing.T
	g         *group.Group
	next      func(n int) int
	committed []string
	leaders   map[int]int // the one of each term
	crashes   int         // how many members were seen to be down
}

func newWatch(t *testing.T, seed int) *watch {
	return &watch{t: t, g: group.New(), next: numbers(uint64(seed)), leaders: map[int]int{}}
}

// steps does anything that can happen, a number of times.
func (w *watch) steps(m mood, count int) {
	w.t.Helper()
	for range count {
		pick(w.next, m, w.g)(w.g)
		w.look()
		if w.next(6) == 0 {
			w.lookDurable()
		}
	}
}

// look checks what the theorem says of the group, as far as it can be seen.
func (w *watch) look() {
	w.t.Helper()
	l := w.g.Committed()
	if len(l) < len(w.committed) || !slices.Equal(l[:len(w.committed)], w.committed) {
		w.t.Fatalf("%v was committed, and then %v", w.committed, l)
	}
	w.committed = l
	for id := range 3 {
		term := w.g.Term(id)
		if first, ok := w.leaders[term]; w.g.Role(id) == replica.Lead && ok && first != id {
			w.t.Fatalf("%d and %d lead in the term %d", first, id, term)
		} else if w.g.Role(id) == replica.Lead {
			w.leaders[term] = id
		}
		if !w.g.Up(id) {
			w.crashes++
		}
	}
}

// lookDurable checks that two members have stored what is committed, and that members that are up have nothing but what is stored.
func (w *watch) lookDurable() {
	w.t.Helper()
	count := 0
	for id := range 3 {
		stored := w.g.Stored(id)
		if w.begins(stored) {
			count++
		}
		if w.g.Up(id) && !slices.Equal(w.g.Log(id), stored) {
			w.t.Fatalf("%d has stored %v, but its log is %v", id, stored, w.g.Log(id))
		}
	}
	if count < 2 {
		w.t.Fatalf("%v is committed, but %d members have stored it", w.committed, count)
	}
}

// begins reports whether a log begins with what is committed.
func (w *watch) begins(log []api.Rec) bool {
	if len(log) < len(w.committed) {
		return false
	}
	for i, data := range w.committed {
		if log[i].Data != data {
			return false
		}
	}
	return true
}

// P9.8, P9.9: whatever is lost, doubled, reordered and split, and whoever crashes, whatever survives.
func TestTheorem(t *testing.T) {
	all := moods()
	committed, elected, crashes := 0, 0, 0
	for seed := range 84 {
		w := newWatch(t, 1000+seed)
		w.steps(all[seed%len(all)], 300)
		committed += len(w.committed)
		elected += len(w.leaders)
		crashes += w.crashes
	}
	if committed < 1000 || elected < 400 || crashes < 5000 {
		t.Errorf("only %d entries were committed, %d members elected, %d down", committed, elected, crashes)
	}
}

// P9.8: the committed entries of any two members that are up are beginnings of one another.
func TestBeginnings(t *testing.T) {
	all := moods()
	for seed := range 84 {
		next := numbers(uint64(2000 + seed))
		m := newModel()
		for range 300 {
			pick(next, all[seed%len(all)], m)(m)
			for id, r := range m.replicas {
				if m.up[id] && !begins(m.committed, r.Log()[:r.Commit()]) {
					t.Fatalf("%d has committed %d of %v, but %v is committed", id, r.Commit(), r.Log(), m.committed)
				}
			}
		}
	}
}

// begins reports whether a list begins with the data of entries.
func begins(l []string, log []api.Rec) bool {
	if len(log) > len(l) {
		return false
	}
	for i, x := range log {
		if x.Data != l[i] {
			return false
		}
	}
	return true
}

// repair brings all members up; nothing is lost from then on.
func (w *watch) repair() {
	w.t.Helper()
	w.g.Heal()
	for id := range 3 {
		w.g.Lose(id, 0)
		w.g.Arm(id, 0, nil)
		if e := w.g.Start(id); e != api.OK && e != api.ErrState {
			w.t.Fatalf("%d does not start: %d", id, e)
		}
	}
	w.look()
}

// leader returns the one that leads in the greatest term, or -1.
func (w *watch) leader() int {
	g := w.g
	for id := range 3 {
		if g.Role(id) == replica.Lead && g.Term(id) == max(g.Term(0), g.Term(1), g.Term(2)) {
			return id
		}
	}
	return -1
}

// elect lets members settle one after the other until one leads.
func (w *watch) elect() int {
	w.t.Helper()
	first := w.next(3)
	for n := range 6 {
		w.g.Settle((first+n)%3, huge)
		w.look()
		if id := w.leader(); id >= 0 {
			return id
		}
	}
	w.t.Fatal("nobody leads")
	return -1
}

// P9.10: whatever came before, once all are up and nothing is lost any more, one of them leads soon, and what it is given is committed.
func TestProgress(t *testing.T) {
	all := moods()
	for seed := range 96 {
		w := newWatch(t, 3000+seed)
		w.steps(all[seed%len(all)], w.next(250))
		w.repair()
		id := w.elect()
		for i := range 1 + w.next(20) {
			data := "new" + strconv.Itoa(i)
			n, e := w.g.Propose(id, data)
			if e != api.OK {
				t.Fatalf("the leader %d: %d", id, e)
			}
			w.g.Settle(id, huge)
			w.look()
			if len(w.committed) != n || w.committed[n-1] != data {
				t.Fatalf("the entry %d is %q, but %q is committed", n, data, w.committed)
			}
		}
		w.g.Settle(id, huge)
		w.lookDurable()
		for other := range 3 {
			if !slices.Equal(w.g.Log(other), w.g.Log(id)) || len(w.g.Log(other)) != len(w.committed) {
				t.Fatalf("%d has %v, and the leader %v", other, w.g.Log(other), w.g.Log(id))
			}
		}
	}
}

// P9.8: a majority goes on, however often one of them crashes, and after the others have, too.
func TestMajority(t *testing.T) {
	for seed := range 12 {
		w := newWatch(t, 4000+seed)
		for round := range 30 {
			away := (round + seed) % 3
			w.g.Crash(away, keeps()[w.next(6)])
			for id := range 3 {
				if id != away && !w.g.Up(id) {
					returns(t, w.g.Start(id), api.OK)
				}
			}
			for n := 0; w.leader() < 0; n++ {
				if n == 6 {
					t.Fatal("nobody leads")
				}
				w.g.Settle((away+1+n%2)%3, huge)
			}
			n, e := w.g.Propose(w.leader(), strconv.Itoa(round))
			w.g.Settle(w.leader(), huge)
			w.look()
			w.lookDurable()
			if e != api.OK || n != round+1 || len(w.committed) != n {
				t.Fatalf("the round %d: %d, %d, %q", round, n, e, w.committed)
			}
		}
	}
}
