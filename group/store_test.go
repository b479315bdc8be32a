package group_test

import (
	"testing"

	"errata/api"
	"errata/group"
	"errata/replica"
)

// restarted returns a group whose members have an entry, and have been started again.
func restarted(t *testing.T) *group.Group {
	t.Helper()
	g := led(t, "a")
	for id := range 3 {
		g.Crash(id, nil)
		returns(t, g.Start(id), api.OK)
	}
	return g
}

// replacing returns a group in which the packet 1 is an entry of the leader 2 in the term 2, by which 1 has to replace two entries of the term 1.
func replacing(t *testing.T) *group.Group {
	t.Helper()
	g := led(t, "a")
	g.Split(2)
	proposes(t, g, 1, "b", 2, api.OK)
	proposes(t, g, 1, "c", 3, api.OK)
	g.Settle(2, 99)
	proposes(t, g, 2, "d", 2, api.OK)
	dropAll(g)
	g.Heal()
	g.Tick(2)
	is(t, g, 1, replica.Lead, 1, "1a 1b 1c")
	is(t, g, 2, replica.Lead, 2, "1a 2d")
	return g
}

// task is something to be stored.
type task struct {
	name  string
	group func(t *testing.T) *group.Group
	id    int
	call  func(g *group.Group) api.Errno
	disk  int // how many calls of the disk there are
	gone  int // how many packets are gone, even if it fails
}

func propose(id int) func(g *group.Group) api.Errno {
	return func(g *group.Group) api.Errno {
		_, e := g.Propose(id, "z")
		return e
	}
}

func tick(id int) func(g *group.Group) api.Errno {
	return func(g *group.Group) api.Errno { return g.Tick(id) }
}

func deliver(i int) func(g *group.Group) api.Errno {
	return func(g *group.Group) api.Errno { return g.Deliver(i) }
}

// ticked returns a maker of groups in which a member has ticked.
func ticked(id int, make func(t *testing.T) *group.Group) func(t *testing.T) *group.Group {
	return func(t *testing.T) *group.Group {
		g := make(t)
		g.Tick(id)
		return g
	}
}

func tasks() []task {
	fresh := func(*testing.T) *group.Group { return group.New() }
	leads := func(t *testing.T) *group.Group { return led(t, "a") }
	given := func(t *testing.T) *group.Group { g := led(t, "a"); proposes(t, g, 1, "b", 2, api.OK); return g }
	leadsAgain := func(t *testing.T) *group.Group { g := restarted(t); g.Settle(1, 99); return g }
	return []task{
		{"a first election", fresh, 2, tick(2), 4, 0},
		{"another election", leads, 0, tick(0), 4, 0},
		{"an election after a start", restarted, 0, tick(0), 5, 0},
		{"a leader ticks", leads, 1, tick(1), 0, 0},
		{"a first vote", ticked(0, fresh), 1, deliver(0), 4, 1},
		{"another vote", ticked(0, leads), 2, deliver(1), 4, 1},
		{"a vote after a start", ticked(0, restarted), 2, deliver(1), 5, 1},
		{"nothing new", ticked(1, leads), 2, deliver(1), 0, 1},
		{"an entry for the leader", leads, 1, propose(1), 6, 0},
		{"an entry for another one", given, 2, deliver(1), 6, 1},
		{"an entry for the leader after a start", leadsAgain, 1, propose(1), 7, 0},
		{"entries of a new term in the place of others", replacing, 1, deliver(1), 14, 1},
	}
}

// The definition of storing: which calls of the disk there are; if one fails, the member stops, and sends nothing.
func TestStoring(t *testing.T) {
	for _, c := range tasks() {
		for n := 1; n <= c.disk+1; n++ {
			g := c.group(t)
			before := g.Packets() - c.gone
			g.Arm(c.id, n, nil)
			e := c.call(g)
			if n > c.disk {
				if e != api.OK || !g.Up(c.id) {
					t.Errorf("%s has more than %d calls: %d", c.name, c.disk, e)
				}
				continue
			}
			if e != api.ErrDown || g.Up(c.id) || g.Packets() != before {
				t.Errorf("%s, with a crash at the call %d: %d, up %v, %d packets, not %d", c.name, n, e, g.Up(c.id), g.Packets(), before)
			}
		}
		g := c.group(t)
		before := g.Packets() - c.gone
		g.Lose(c.id, 1)
		if e := c.call(g); c.disk > 0 && (e != api.ErrLost || g.Up(c.id) || g.Packets() != before) {
			t.Errorf("%s, with a lost sync: %d, up %v, %d packets, not %d", c.name, e, g.Up(c.id), g.Packets(), before)
		}
	}
}

// The definition of storing: the term and the vote come first, then the end of the journal is cut off, and then all new entries come at once.
func TestOrder(t *testing.T) {
	type state struct {
		term int
		log  string
	}
	old, voted, cut, all := state{1, "1a 1b 1c"}, state{2, "1a 1b 1c"}, state{2, "1a"}, state{2, "1a 2d"}
	for _, c := range []struct {
		keep  []int
		until [3]int // the last calls at which a crash leaves the first three states
	}{
		{nil, [3]int{4, 8, 14}},
		{[]int{0}, [3]int{4, 8, 14}},
		{[]int{1}, [3]int{2, 6, 12}},
		{[]int{1, 0}, [3]int{2, 6, 12}},
	} {
		for n := 1; n <= 15; n++ {
			g := replacing(t)
			g.Arm(1, n, c.keep)
			g.Deliver(1)
			g.Crash(1, nil)
			returns(t, g.Start(1), api.OK)
			want := all
			switch {
			case n <= c.until[0]:
				want = old
			case n <= c.until[1]:
				want = voted
			case n <= c.until[2]:
				want = cut
			}
			if got := (state{g.Term(1), show(g.Log(1))}); got != want {
				t.Errorf("a crash at the call %d that keeps %v leaves %v, not %v", n, c.keep, got, want)
			}
		}
	}
}

// The definition of storing: several entries are appended at once, or none of them.
func TestAtOnce(t *testing.T) {
	for n := 1; n <= 7; n++ {
		g := led(t)
		g.Split(4)
		for i, s := range []string{"a", "b", "c"} {
			proposes(t, g, 1, s, i+1, api.OK)
		}
		dropAll(g)
		g.Heal()
		g.Tick(1)
		g.Arm(2, n, []int{1})
		g.Deliver(1)
		g.Crash(2, nil)
		g.Start(2)
		want := ""
		if n > 4 {
			want = "1a 1b 1c"
		}
		is(t, g, 2, replica.Follow, 1, want)
	}
}

// P9.4: the vote is stored, so that nobody votes for two in a term.
func TestVoteStored(t *testing.T) {
	g := group.New()
	g.Tick(0)
	g.Tick(1)
	returns(t, g.Deliver(1), api.OK) // 2 votes for 0
	g.Crash(2, nil)
	returns(t, g.Start(2), api.OK)
	is(t, g, 2, replica.Follow, 1, "")
	returns(t, g.Deliver(2), api.OK) // 1 asks 2
	returns(t, g.Deliver(3), api.OK) // the answer
	is(t, g, 1, replica.Ask, 1, "")
	returns(t, g.Deliver(2), api.OK)
	is(t, g, 0, replica.Lead, 1, "")
}

// P9.4: that there was no vote in a term is stored, too.
func TestNoVoteStored(t *testing.T) {
	g := led(t)
	g.Split(1)
	proposes(t, g, 1, "a", 1, api.OK)
	g.Settle(1, 99)
	g.Heal()
	g.Tick(0)
	returns(t, g.Deliver(1), api.OK) // 2 learns the term, but does not vote for 0, which has no entry
	for _, id := range []int{1, 2} {
		g.Crash(id, nil)
		returns(t, g.Start(id), api.OK)
	}
	is(t, g, 2, replica.Follow, 2, "1a")
	dropAll(g)
	g.Tick(1)
	returns(t, g.Deliver(1), api.OK)
	returns(t, g.Deliver(1), api.OK)
	is(t, g, 1, replica.Lead, 2, "1a")
}
