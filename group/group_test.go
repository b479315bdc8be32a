package group_test

import (
	"math"
	"slices"
	"strconv"
	"strings"
	"testing"

	"errata/api"
	"errata/group"
	"errata/journal"
	"errata/replica"
)

const huge, least = math.MaxInt, math.MinInt

// strangers are numbers that no member has.
var strangers = []int{-1, 3, 4, 15, 256, huge, least}

// show returns the entries of a log, each of them as its term and its data.
func show(l []api.Rec) string {
	var out []string
	for _, x := range l {
		out = append(out, strconv.Itoa(x.Term)+x.Data)
	}
	return strings.Join(out, " ")
}

// is checks what a member that is up is.
func is(t *testing.T, g *group.Group, id, role, term int, log string) {
	t.Helper()
	if !g.Up(id) || g.Role(id) != role || g.Term(id) != term || show(g.Log(id)) != log || show(g.Stored(id)) != log {
		t.Errorf("the member %d: up %v, the role %d, the term %d, the log %.200q, stored %.200q, not %d, %d, %q", id, g.Up(id), g.Role(id), g.Term(id), show(g.Log(id)), show(g.Stored(id)), role, term, log)
	}
}

// isDown checks a member that is not up.
func isDown(t *testing.T, g *group.Group, id int, stored string) {
	t.Helper()
	if g.Up(id) || g.Role(id) != -1 || g.Term(id) != 0 || len(g.Log(id)) > 0 || show(g.Stored(id)) != stored {
		t.Errorf("the member %d: up %v, the role %d, the term %d, the log %.200q, stored %.200q, not %q", id, g.Up(id), g.Role(id), g.Term(id), show(g.Log(id)), show(g.Stored(id)), stored)
	}
}

// committed checks what is committed.
func committed(t *testing.T, g *group.Group, want string) {
	t.Helper()
	if got := strings.Join(g.Committed(), " "); got != want {
		t.Errorf("%.200q is committed, not %q", got, want)
	}
}

// returns checks the error of a call.
func returns(t *testing.T, got, want api.Errno) {
	t.Helper()
	if got != want {
		t.Errorf("the call returns %d, not %d", got, want)
	}
}

// proposes gives a member an entry, and checks the result.
func proposes(t *testing.T, g *group.Group, id int, data string, number int, e api.Errno) {
	t.Helper()
	if n, got := g.Propose(id, data); n != number || got != e {
		t.Errorf("%.20q for %d: %d, %d, not %d, %d", data, id, n, got, number, e)
	}
}

// flies checks how many packets are in flight.
func flies(t *testing.T, g *group.Group, want int) {
	t.Helper()
	if g.Packets() != want {
		t.Errorf("%d packets are in flight, not %d", g.Packets(), want)
	}
}

// led returns a group in which 1 leads in the term 1, and has been given entries, which all have.
func led(t *testing.T, entries ...string) *group.Group {
	t.Helper()
	g := group.New()
	g.Settle(1, 99)
	for i, s := range entries {
		proposes(t, g, 1, s, i+1, api.OK)
		g.Settle(1, 99)
	}
	flies(t, g, 0)
	return g
}

// dropAll loses all packets.
func dropAll(g *group.Group) {
	for g.Drop(0) == api.OK {
	}
}

// P9.1: the members of a new group are up and follow, and have no log; no two groups share anything.
func TestNew(t *testing.T) {
	g, other := group.New(), group.New()
	other.Settle(1, 99)
	other.Propose(1, "a")
	other.Settle(1, 99)
	other.Crash(0, nil)
	other.Split(1)
	for id := range 3 {
		is(t, g, id, replica.Follow, 0, "")
	}
	flies(t, g, 0)
	committed(t, g, "")
	returns(t, g.Tick(2), api.OK)
	flies(t, g, 2)
	is(t, g, 2, replica.Ask, 1, "")
}

// The examples of the chapter.
func TestExamples(t *testing.T) {
	g := group.New()
	if n := g.Settle(1, 99); n != 8 || g.Role(1) != replica.Lead || g.Term(0) != 1 {
		t.Errorf("the first Settle: %d, the role %d, the term %d", n, g.Role(1), g.Term(0))
	}
	proposes(t, g, 1, "a", 1, api.OK)
	if n := g.Settle(1, 99); n != 8 {
		t.Errorf("the second Settle: %d", n)
	}
	committed(t, g, "a")
	proposes(t, g, 0, "b", 0, api.ErrLeader)
}

// P9.2, P9.4, P9.6: what is no member has nothing, and nothing can be done with it.
func TestStrangers(t *testing.T) {
	g := led(t, "a")
	g.Tick(1)
	for _, id := range strangers {
		_, e := g.Propose(id, strings.Repeat("x", replica.MaxData+1))
		for _, got := range []api.Errno{g.Tick(id), e, g.Crash(id, []int{1}), g.Start(id), g.Lose(id, 1), g.Arm(id, 1, []int{1})} {
			returns(t, got, api.ErrArg)
		}
		isDown(t, g, id, "")
		if g.Log(id) != nil || g.Stored(id) != nil {
			t.Errorf("%d has a log", id)
		}
	}
	flies(t, g, 2)
	is(t, g, 0, replica.Follow, 1, "1a")
	is(t, g, 1, replica.Lead, 1, "1a")
	is(t, g, 2, replica.Follow, 1, "1a")
}

// P9.2: who is not up does nothing.
func TestDown(t *testing.T) {
	g := led(t, "a")
	for id := range 3 {
		returns(t, g.Crash(id, nil), api.OK)
		returns(t, g.Tick(id), api.ErrDown)
		proposes(t, g, id, "b", 0, api.ErrDown)
		proposes(t, g, id, strings.Repeat("x", replica.MaxData+1), 0, api.ErrDown)
		isDown(t, g, id, "1a")
	}
	flies(t, g, 0)
}

// P9.2: Tick begins an election, which is stored; a leader sends entries.
func TestTick(t *testing.T) {
	for id := range 3 {
		g := group.New()
		for term := 1; term < 4; term++ {
			returns(t, g.Tick(id), api.OK)
			flies(t, g, 2*term)
			is(t, g, id, replica.Ask, term, "")
		}
		g.Crash(id, nil)
		g.Start(id)
		is(t, g, id, replica.Follow, 3, "")
	}
	g := led(t, "a")
	returns(t, g.Tick(1), api.OK)
	flies(t, g, 2)
	is(t, g, 1, replica.Lead, 1, "1a")
}

// P9.2: who does not lead takes nothing; a leader refuses what is too long.
func TestProposeRefused(t *testing.T) {
	g := led(t)
	long := strings.Repeat("x", replica.MaxData)
	for _, id := range []int{0, 2} {
		proposes(t, g, id, "a", 0, api.ErrLeader)
		proposes(t, g, id, long+"x", 0, api.ErrLeader)
	}
	proposes(t, g, 1, long+"x", 0, api.ErrArg)
	flies(t, g, 0)
	is(t, g, 1, replica.Lead, 1, "")
	proposes(t, g, 1, long, 1, api.OK)
	proposes(t, g, 1, "", 2, api.OK)
	proposes(t, g, 1, "\x00\xff1;,", 3, api.OK)
	flies(t, g, 6)
	g.Settle(1, 99)
	committed(t, g, long+"  \x00\xff1;,")
	for id := range 3 {
		is(t, g, id, g.Role(id), 1, "1"+long+" 1 1\x00\xff1;,")
	}
}

// P9.2: a leader takes entries until its log is full; what the network does not take is lost.
func TestFullLog(t *testing.T) {
	g := led(t)
	for n := range replica.MaxLog {
		proposes(t, g, 1, "", n+1, api.OK)
	}
	proposes(t, g, 1, "", 0, api.ErrFull)
	flies(t, g, 500)
	if !g.Up(1) || len(g.Stored(1)) != replica.MaxLog {
		t.Errorf("up %v, %d entries", g.Up(1), len(g.Stored(1)))
	}
	g.Settle(1, huge)
	g.Settle(1, huge)
	for id := range 3 {
		if !slices.Equal(g.Log(id), g.Log(1)) || len(g.Stored(id)) != replica.MaxLog {
			t.Errorf("%d has %d entries", id, len(g.Log(id)))
		}
	}
	if len(g.Committed()) != replica.MaxLog {
		t.Errorf("%d entries are committed", len(g.Committed()))
	}
}

// P9.2, P9.3: a journal that is full is an error of storing: the member stops, and has what fitted when it starts again.
func TestFullJournal(t *testing.T) {
	data := strings.Repeat("x", replica.MaxData)
	size := len(replica.RecBytes(api.Rec{Term: 1, Data: data}))
	count := journal.Max / (len(strconv.Itoa(size)) + len(":,") + size)
	g := led(t)
	for n := range count {
		proposes(t, g, 1, data, n+1, api.OK)
		if n%100 == 0 {
			g.Settle(1, huge)
		}
	}
	g.Settle(1, huge)
	g.Settle(1, huge)
	before := g.Stored(1)
	proposes(t, g, 1, data, 0, api.ErrFull)
	isDown(t, g, 1, show(before))
	flies(t, g, 0)
	if len(before) != count || len(g.Committed()) != count {
		t.Errorf("%d entries of %d, %d committed", len(before), count, len(g.Committed()))
	}
	returns(t, g.Start(1), api.OK)
	is(t, g, 1, replica.Follow, 1, show(before))
	// The others have no room either: the one that leads then stops, too.
	g.Settle(2, huge)
	proposes(t, g, 2, data, 0, api.ErrFull)
	returns(t, g.Start(2), api.OK)
	g.Settle(0, huge)
	proposes(t, g, 0, "small", count+1, api.OK)
}

// P9.3: what is not in flight is not delivered, dropped or doubled.
func TestNoPacket(t *testing.T) {
	g := group.New()
	check := func(i int) {
		t.Helper()
		returns(t, g.Deliver(i), api.ErrNone)
		returns(t, g.Drop(i), api.ErrNone)
		returns(t, g.Double(i), api.ErrNone)
	}
	for _, i := range []int{-1, 0, 1, huge, least} {
		check(i)
	}
	g.Tick(0)
	for _, i := range []int{-1, 2, 3, huge, least} {
		check(i)
	}
	flies(t, g, 2)
	is(t, g, 1, replica.Follow, 0, "")
	is(t, g, 2, replica.Follow, 0, "")
}

// P9.3: any packet can be delivered, whose answer is sent; those that are dropped are not, and those that are doubled twice.
func TestDeliver(t *testing.T) {
	g := group.New()
	g.Tick(0)
	returns(t, g.Deliver(1), api.OK)
	flies(t, g, 2)
	is(t, g, 1, replica.Follow, 0, "")
	is(t, g, 2, replica.Follow, 1, "")
	returns(t, g.Drop(0), api.OK)
	flies(t, g, 1)
	returns(t, g.Double(0), api.OK)
	flies(t, g, 2)
	returns(t, g.Deliver(1), api.OK)
	is(t, g, 0, replica.Lead, 1, "")
	is(t, g, 1, replica.Follow, 0, "")
	flies(t, g, 3)
	returns(t, g.Deliver(0), api.OK) // the vote for the second time
	flies(t, g, 2)
	proposes(t, g, 0, "a", 1, api.OK)
	returns(t, g.Deliver(2), api.OK) // the entry for 1, which has heard nothing before
	is(t, g, 1, replica.Follow, 1, "1a")
	committed(t, g, "")
	returns(t, g.Deliver(3), api.OK)
	committed(t, g, "a")
}

// P9.3: a packet for a member that is not up is lost; that its ends do not hear each other counts first.
func TestDeliverDown(t *testing.T) {
	g := group.New()
	for range 3 {
		g.Tick(0)
	}
	g.Crash(2, nil)
	flies(t, g, 6)
	returns(t, g.Deliver(1), api.ErrDown)
	flies(t, g, 5)
	g.Split(1)
	returns(t, g.Deliver(2), api.ErrLost)
	returns(t, g.Deliver(0), api.ErrLost)
	flies(t, g, 3)
	is(t, g, 1, replica.Follow, 0, "")
	g.Heal()
	g.Start(2)
	returns(t, g.Deliver(2), api.OK) // the third one for 2, which stayed in flight
	is(t, g, 2, replica.Follow, 3, "")
	flies(t, g, 3)
}

// P9.3: no more packets are in flight than the network takes.
func TestDoubleFull(t *testing.T) {
	g := group.New()
	g.Tick(0)
	for n := 2; n < 500; n++ {
		returns(t, g.Double(n%2), api.OK)
		flies(t, g, n+1)
	}
	returns(t, g.Double(0), api.ErrFull)
	returns(t, g.Tick(2), api.OK) // its messages are lost
	flies(t, g, 500)
	is(t, g, 2, replica.Ask, 1, "")
	for n := 499; n >= 0; n-- {
		returns(t, g.Drop(n/2), api.OK)
		flies(t, g, n)
	}
}

// P9.3: who is on another side hears nothing, until that ends; only the lowest bits count.
func TestSplit(t *testing.T) {
	for _, c := range []struct {
		mask  int
		terms [3]int // what they are after 0 has ticked
	}{
		{0, [3]int{1, 1, 1}}, {1, [3]int{1, 0, 0}}, {2, [3]int{1, 0, 1}}, {3, [3]int{1, 1, 0}},
		{4, [3]int{1, 1, 0}}, {5, [3]int{1, 0, 1}}, {6, [3]int{1, 0, 0}}, {7, [3]int{1, 1, 1}},
		{-1, [3]int{1, 1, 1}}, {-2, [3]int{1, 0, 0}}, {1 << 16, [3]int{1, 1, 1}}, {1<<16 + 2, [3]int{1, 0, 1}},
		{8, [3]int{1, 1, 1}}, {huge, [3]int{1, 1, 1}}, {least, [3]int{1, 1, 1}},
	} {
		g := group.New()
		g.Split(7)
		g.Split(c.mask)
		g.Settle(0, 99)
		for id, term := range c.terms {
			if g.Term(id) != term {
				t.Errorf("the mask %d: the term of %d is %d", c.mask, id, g.Term(id))
			}
		}
		g.Heal()
		g.Settle(0, 99)
		g.Settle(0, 99)
		if g.Role(0) != replica.Lead || g.Term(1) != g.Term(0) || g.Term(2) != g.Term(0) {
			t.Errorf("the mask %d: not all follow 0", c.mask)
		}
	}
}

// P9.4: a crash leaves what is stored, and nothing else; what is in flight stays.
func TestCrash(t *testing.T) {
	g := led(t, "a", "b")
	proposes(t, g, 1, "c", 3, api.OK)
	for _, keep := range [][]int{nil, {}, {0}, {1}, {0, 1}} {
		for id := range 3 {
			returns(t, g.Crash(id, keep), api.OK)
			returns(t, g.Crash(id, keep), api.OK) // it is down already
		}
		isDown(t, g, 0, "1a 1b")
		isDown(t, g, 1, "1a 1b 1c")
		committed(t, g, "a b")
		flies(t, g, 2)
		for id := range 3 {
			returns(t, g.Start(id), api.OK)
			returns(t, g.Start(id), api.ErrState)
		}
		is(t, g, 0, replica.Follow, 1, "1a 1b")
		is(t, g, 1, replica.Follow, 1, "1a 1b 1c")
		is(t, g, 2, replica.Follow, 1, "1a 1b")
	}
	returns(t, g.Deliver(0), api.OK)
	is(t, g, 0, replica.Follow, 1, "1a 1b 1c")
	committed(t, g, "a b") // the one that could have committed it has crashed
	g.Settle(2, 99)
	g.Settle(0, 99)
	is(t, g, 0, replica.Lead, 3, "1a 1b 1c")
	proposes(t, g, 0, "d", 4, api.OK)
	g.Settle(0, 99)
	committed(t, g, "a b c d")
}

// P9.4: who starts first makes sure that what is read stays; what fails then is returned, and it can be tried again.
func TestStart(t *testing.T) {
	for id := range 3 {
		for n := -1; n < 6; n++ {
			g := led(t, "a")
			g.Crash(id, nil)
			returns(t, g.Arm(id, n, []int{1}), api.OK)
			if n < 1 || n > 3 { // there are three syncs
				returns(t, g.Start(id), api.OK)
				continue
			}
			returns(t, g.Start(id), api.ErrDown)
			isDown(t, g, id, "1a")
			returns(t, g.Start(id), api.OK)
			is(t, g, id, replica.Follow, 1, "1a")
		}
	}
}

// P9.4: all calls of Start are made, so that of the syncs that are lost it takes two: the one of the file 2, and the first one of the journal.
func TestStartLost(t *testing.T) {
	for lost, failures := range []int{0, 1, 1, 2, 2, 3} {
		g := led(t, "a")
		g.Crash(1, nil)
		returns(t, g.Lose(1, lost), api.OK)
		for range failures {
			returns(t, g.Start(1), api.ErrLost)
			isDown(t, g, 1, "1a")
		}
		returns(t, g.Start(1), api.OK)
		is(t, g, 1, replica.Follow, 1, "1a")
	}
}

// P9.4: Lose and Arm concern the disk, whether the member is up or not; what they set is replaced, and stays.
func TestLoseArm(t *testing.T) {
	g := led(t)
	g.Lose(1, 3)
	g.Lose(1, -1)
	g.Arm(1, 1, nil)
	g.Arm(1, least, []int{1})
	proposes(t, g, 1, "a", 1, api.OK)
	g.Lose(1, 1)
	returns(t, g.Tick(1), api.OK) // a leader stores nothing
	proposes(t, g, 1, "b", 0, api.ErrLost)
	isDown(t, g, 1, "1a")
	returns(t, g.Lose(1, 0), api.OK)
	returns(t, g.Arm(1, 4, nil), api.OK)
	returns(t, g.Start(1), api.OK) // three calls
	returns(t, g.Tick(1), api.ErrDown)
	isDown(t, g, 1, "1a")
	g.Arm(0, 9, nil) // a crash cancels it
	g.Crash(0, nil)
	returns(t, g.Start(0), api.OK)
	for range 3 {
		returns(t, g.Tick(0), api.OK)
	}
	g.Lose(2, 1) // a crash does not cancel that
	g.Crash(2, nil)
	returns(t, g.Start(2), api.ErrLost)
	returns(t, g.Start(2), api.OK)
}

// P9.4: a machine that is up, of a member that is not, can crash.
func TestCrashStopped(t *testing.T) {
	g := led(t, "a")
	g.Lose(1, 1)
	proposes(t, g, 1, "b", 0, api.ErrLost)
	returns(t, g.Crash(1, []int{1}), api.OK)
	isDown(t, g, 1, "1a")
	returns(t, g.Start(1), api.OK)
	is(t, g, 1, replica.Follow, 1, "1a")
}

// P9.5: Settle delivers the oldest packets, at most as many as it is told, whatever comes of that.
func TestSettle(t *testing.T) {
	for _, c := range []struct{ most, want, packets int }{
		{0, 0, 2}, {-1, 0, 2}, {least, 0, 2}, {1, 1, 2}, {2, 2, 2}, {3, 3, 3}, {7, 7, 1}, {8, 8, 0}, {9, 8, 0}, {huge, 8, 0},
	} {
		g := group.New()
		if n := g.Settle(2, c.most); n != c.want {
			t.Errorf("Settle of at most %d returns %d", c.most, n)
		}
		flies(t, g, c.packets)
		if g.Term(2) != 1 {
			t.Errorf("Settle of at most %d does not tick", c.most)
		}
	}
	g := group.New()
	g.Settle(0, 1)
	is(t, g, 1, replica.Follow, 1, "") // the first one of 0 is for 1
	is(t, g, 2, replica.Follow, 0, "")
}

// P9.5: packets that are lost are delivered, too; who cannot tick does not.
func TestSettleLost(t *testing.T) {
	g := group.New()
	g.Tick(0)
	g.Split(1)
	if n := g.Settle(0, 99); n != 2 || g.Term(0) != 2 || g.Term(1) != 0 {
		t.Errorf("Settle of one that is cut off: %d", n)
	}
	g.Heal()
	g.Tick(0)
	g.Crash(1, nil)
	if n := g.Settle(1, 99); n != 6 || g.Role(0) != replica.Lead {
		t.Errorf("Settle of one that is down: %d", n)
	}
	for _, id := range strangers {
		g.Tick(0)
		if n := g.Settle(id, 99); n != 3 {
			t.Errorf("Settle of %d: %d", id, n)
		}
	}
	g.Tick(0)
	g.Arm(2, 1, nil)
	proposes(t, g, 0, "a", 1, api.OK)
	if n := g.Settle(2, 99); n != 4 || g.Up(2) { // it crashes when it ticks
		t.Errorf("Settle of one that crashes: %d", n)
	}
}

// The definition of Committed: what was committed during a call of Settle counts, although the one that knew it has crashed before its end.
func TestCommittedThen(t *testing.T) {
	g := led(t)
	proposes(t, g, 1, "a", 1, api.OK)
	g.Deliver(1) // 2 answers
	g.Arm(1, 1, nil)
	g.Settle(0, 99)
	isDown(t, g, 1, "1a")
	committed(t, g, "a")
}

// The definition of Committed: it grows when the first one knows it, stays when none does, and is that of the whole group.
func TestCommitted(t *testing.T) {
	g := led(t)
	proposes(t, g, 1, "a", 1, api.OK)
	committed(t, g, "")
	g.Deliver(0)
	committed(t, g, "")
	g.Deliver(1)
	committed(t, g, "a")
	for id := range 3 {
		g.Crash(id, nil)
		committed(t, g, "a")
		g.Start(id)
		committed(t, g, "a")
	}
	g.Settle(0, 99) // the entry of an older term is not committed again by itself
	committed(t, g, "a")
	proposes(t, g, 0, "b", 2, api.OK)
	proposes(t, g, 0, "c", 3, api.OK)
	g.Settle(0, 99)
	committed(t, g, "a b c")
}

// P9.6: Stored is what a crash would leave, and changes nothing: no lost sync is used up, and no crash comes nearer.
func TestStored(t *testing.T) {
	g := led(t, "a")
	g.Lose(1, 1)
	g.Arm(1, 3, nil)
	for range 5 {
		is(t, g, 1, replica.Lead, 1, "1a")
	}
	proposes(t, g, 1, "b", 0, api.ErrLost)
	g.Arm(1, 5, nil)
	for range 5 {
		isDown(t, g, 1, "1a")
	}
	returns(t, g.Start(1), api.OK)
	returns(t, g.Tick(1), api.ErrDown)
	isDown(t, g, 1, "1a")
}

// P9.7: results are fresh, and arguments are not kept.
func TestMemory(t *testing.T) {
	g := led(t, "a", "b")
	for id := range 3 {
		g.Log(id)[0].Data = "x"
		g.Stored(id)[1] = api.Rec{}
		_ = append(g.Log(id)[:1], api.Rec{Term: 7})
		is(t, g, id, g.Role(id), 1, "1a 1b")
	}
	g.Committed()[1] = "x"
	_ = append(g.Committed()[:1], "x")
	committed(t, g, "a b")
	proposes(t, g, 1, "c", 3, api.OK)
	g.Settle(1, 99)
	committed(t, g, "a b c")
	for _, keep := range [][]int{{0, 0}, {1, 1}} {
		g := led(t)
		given := slices.Clone(keep)
		g.Arm(1, 5, given) // the header of the cell of the journal
		clear(given)
		given[0] = 1 - keep[0]
		proposes(t, g, 1, "a", 0, api.ErrDown)
		isDown(t, g, 1, []string{"", "1a"}[keep[0]])
		again := slices.Clone(keep)
		g.Crash(1, again)
		if !slices.Equal(again, keep) {
			t.Errorf("%v has become %v", keep, again)
		}
	}
}
