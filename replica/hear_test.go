package replica_test

import (
	"slices"
	"strconv"
	"strings"
	"testing"

	"errata/api"
	"errata/replica"
)

// right returns messages for the replica 0 with all limits that its fields can have.
func right() []api.Msg {
	full := slices.Repeat([]api.Rec{{Term: 3, Data: strings.Repeat("d", replica.MaxData)}}, replica.MaxRecs)
	return []api.Msg{
		{From: 1, Term: 1},
		{From: 2, Term: 1, Yes: true},
		{From: 1, Term: replica.MaxTerm},
		{From: 1, Term: 3, Index: 1},
		{From: 1, Term: 3, Index: 1, Prev: 3},
		{From: 1, Term: 3, Index: replica.MaxLog, Prev: 2, Commit: replica.MaxLog},
		{From: 1, Term: 3, Commit: replica.MaxLog},
		{From: 1, Term: replica.MaxTerm, Index: 9, Prev: replica.MaxTerm, Recs: []api.Rec{{Term: replica.MaxTerm}}},
		{From: 1, Term: 3, Recs: recs(1, 1, 3)},
		{From: 1, Term: 3, Index: 1, Recs: recs(1)},
		{From: 1, Term: 3, Index: 1, Prev: 2, Recs: recs(2, 3)},
		{From: 1, Term: 3, Index: replica.MaxLog - replica.MaxRecs, Prev: 3, Recs: full},
		{From: 2, Term: 3, Index: replica.MaxLog - 1, Prev: 3, Recs: recs(3)},
	}
}

// wrong returns messages that are not right for the replica 0.
func wrong() []api.Msg {
	l := []api.Msg{
		{From: 1, Term: 3, Index: 1, Prev: -1},
		{From: 1, Term: 3, Index: 1, Prev: 4},
		{From: 1, Term: 3, Index: 1, Prev: huge},
		{From: 1, Term: 3, Index: 0, Prev: 1},
		{From: 1, Term: 3, Index: 0, Prev: -1},
		{From: 1, Term: 3, Recs: slices.Repeat([]api.Rec{{Term: 1}}, replica.MaxRecs+1)},
		{From: 1, Term: 3, Index: replica.MaxLog, Prev: 1, Recs: recs(1)},
		{From: 1, Term: 3, Index: replica.MaxLog - 7, Prev: 1, Recs: slices.Repeat([]api.Rec{{Term: 1}}, 8)},
		{From: 1, Term: 3, Recs: []api.Rec{{Term: 1, Data: strings.Repeat("d", replica.MaxData+1)}}},
		{From: 1, Term: 3, Recs: []api.Rec{{Term: 1}, {Term: 1, Data: strings.Repeat("d", replica.MaxData+1)}}},
		{From: 1, Term: 3, Recs: recs(0)},
		{From: 1, Term: 3, Recs: recs(-1)},
		{From: 1, Term: 3, Recs: recs(least)},
		{From: 1, Term: 3, Recs: recs(4)},
		{From: 1, Term: 3, Recs: recs(1, 4)},
		{From: 1, Term: 3, Recs: recs(4, 1)},
		{From: 1, Term: 3, Recs: recs(2, 1)},
		{From: 1, Term: 3, Recs: recs(1, 3, 2, 3)},
		{From: 1, Term: 3, Index: 1, Recs: recs(0)},
		{From: 1, Term: 3, Index: 1, Prev: 2, Recs: recs(1)},
		{From: 1, Term: 3, Index: 1, Prev: 2, Recs: recs(1, 2)},
		{From: 1, Term: 3, Index: 1, Prev: 3, Recs: recs(2, 3)},
	}
	for _, n := range []int{0, 3, 4, -1, huge, least} {
		l = append(l, api.Msg{From: n, Term: 3})
	}
	for _, n := range []int{1, 2, 3, -1, huge, least} {
		l = append(l, api.Msg{From: 1, To: n, Term: 3}, api.Msg{From: 2, To: n, Term: 3})
	}
	for _, n := range []int{0, -1, least, replica.MaxTerm + 1, huge} {
		l = append(l, api.Msg{From: 1, Term: n})
	}
	for _, n := range []int{-1, least, replica.MaxLog + 1, huge} {
		l = append(l, api.Msg{From: 1, Term: 3, Index: n}, api.Msg{From: 1, Term: 3, Index: n, Recs: recs(1)}, api.Msg{From: 1, Term: 3, Commit: n})
	}
	return l
}

// P8.3: a right message of whatever kind is heard: its term, which is greater, is stored.
func TestHearRight(t *testing.T) {
	for kind := range api.MgKinds {
		for i, m := range right() {
			m.Kind = kind
			r := fresh(t)
			if o := r.Hear(m); !o.Save || o.Hard != r.Hard() || r.Hard().Term != m.Term {
				t.Errorf("the kind %d: the message %d: %v", kind, i, o)
			}
		}
	}
	for id := range 3 {
		for from := range 3 {
			r := replica.New(id, api.Hard{Vote: -1}, nil)
			if o := r.Hear(api.Msg{Kind: api.MgAppended, From: from, To: id, Term: 1}); o.Save != (from != id) {
				t.Errorf("%d hears %d: %v", id, from, o)
			}
		}
	}
}

// P8.3: what is not right does nothing, whatever the kind and the role are.
func TestHearWrong(t *testing.T) {
	roles := map[string]func() *replica.Replica{
		"follows": func() *replica.Replica { return stored(t, 2, 1, recs(1, 2)) },
		"asks":    func() *replica.Replica { r := stored(t, 1, -1, recs(1)); r.Tick(); return r },
		"leads":   func() *replica.Replica { return leader(t, recs(1)) },
	}
	for name, role := range roles {
		r, same := role(), role()
		hear := func(i int, m api.Msg) {
			t.Helper()
			if o := r.Hear(m); !sameOut(o, api.Out{}) {
				t.Errorf("one that %s: the message %d of the kind %d: %v", name, i, m.Kind, o)
			}
			is(t, r, same.Hard().Term, same.Hard().Vote, same.Role(), same.Commit(), same.Log())
		}
		for kind := range api.MgKinds {
			for i, m := range wrong() {
				m.Kind = kind
				hear(i, m)
				m.Yes = true
				hear(i, m)
			}
		}
		for _, kind := range []int{-1, api.MgKinds, api.MgKinds + 1, 1 << 32, huge, least} {
			for i, m := range right() {
				m.Kind = kind
				hear(i, m)
			}
		}
		gives(t, r.Tick(), same.Tick())
	}
}

// P8.3: a greater term ends whatever was before, also if the message means nothing else.
func TestGreaterTerm(t *testing.T) {
	for kind := range api.MgKinds {
		for _, yes := range []bool{false, true} {
			m := api.Msg{Kind: kind, From: 2, Term: 5, Index: 9, Prev: 1, Yes: yes}
			answer := map[int][]api.Msg{
				api.MgVote:   {{Kind: api.MgVoted, To: 2, Term: 5}},
				api.MgAppend: {{Kind: api.MgAppended, To: 2, Term: 5, Index: 2}},
			}[kind]
			l := leader(t, recs(1, 2))
			gives(t, l.Hear(m), saves(5, -1, answer...))
			is(t, l, 5, -1, replica.Follow, 0, recs(1, 2))
			gives(t, l.Hear(m), sends(answer...))
			a := stored(t, 3, -1, recs(1, 2))
			a.Tick()
			gives(t, a.Hear(m), saves(5, -1, answer...))
			is(t, a, 5, -1, replica.Follow, 0, recs(1, 2))
			f := stored(t, 4, 1, recs(1, 2))
			gives(t, f.Hear(m), saves(5, -1, answer...))
			is(t, f, 5, -1, replica.Follow, 0, recs(1, 2))
		}
	}
}

// P8.3: in each term one replica gets the vote, and gets it again; what does not change is not stored.
func TestVote(t *testing.T) {
	ask := func(from, term int) api.Msg { return api.Msg{Kind: api.MgVote, From: from, Term: term} }
	r := fresh(t)
	gives(t, r.Hear(ask(1, 2)), saves(2, 1, voted(1, 2, true)))
	is(t, r, 2, 1, replica.Follow, 0, nil)
	gives(t, r.Hear(ask(1, 2)), sends(voted(1, 2, true)))
	gives(t, r.Hear(ask(2, 2)), sends(voted(2, 2, false)))
	gives(t, r.Hear(ask(1, 1)), sends(voted(1, 2, false)))
	gives(t, r.Hear(ask(2, 1)), sends(voted(2, 2, false)))
	is(t, r, 2, 1, replica.Follow, 0, nil)
	gives(t, r.Hear(ask(2, 3)), saves(3, 2, voted(2, 3, true)))
	gives(t, r.Hear(ask(1, 3)), sends(voted(1, 3, false)))
	r.Tick()
	gives(t, r.Hear(ask(1, 4)), sends(voted(1, 4, false)))
	is(t, r, 4, 0, replica.Ask, 0, nil)
	free := stored(t, 2, -1, nil)
	gives(t, free.Hear(ask(1, 1)), sends(voted(1, 2, false)))
	gives(t, free.Hear(ask(2, 2)), saves(2, 2, voted(2, 2, true)))
	l := leader(t, nil)
	gives(t, l.Hear(ask(1, 1)), sends(voted(1, 1, false)))
	is(t, l, 1, 0, replica.Lead, 0, nil)
}

// P8.3: the vote is for logs that are not behind: the terms of the last entries are compared first, and then the lengths.
func TestVoteLog(t *testing.T) {
	for _, c := range []struct {
		log         []api.Rec
		prev, index int
		yes         bool
	}{
		{nil, 0, 0, true}, {nil, 0, 5, true}, {nil, 1, 1, true},
		{recs(1), 0, 0, false}, {recs(1), 0, 5, false}, {recs(1), 1, 1, true}, {recs(1), 1, 2, true}, {recs(1), 2, 1, true},
		{recs(1, 1, 3), 3, 3, true}, {recs(1, 1, 3), 3, 4, true}, {recs(1, 1, 3), 3, 2, false}, {recs(1, 1, 3), 2, 3, false},
		{recs(1, 1, 3), 2, 4000, false}, {recs(1, 1, 3), 4, 1, true}, {recs(1, 1, 3), 1, 3, false}, {recs(1, 1, 3), 0, 0, false},
	} {
		for _, term := range []int{4, 5} {
			r := stored(t, 4, -1, c.log)
			choice := -1
			if c.yes {
				choice = 2
			}
			want := saves(term, choice, voted(2, term, c.yes))
			if term == 4 && !c.yes {
				want = sends(voted(2, 4, false))
			}
			gives(t, r.Hear(api.Msg{Kind: api.MgVote, From: 2, Term: term, Index: c.index, Prev: c.prev}), want)
			is(t, r, term, choice, replica.Follow, 0, c.log)
		}
	}
}

// P8.3: one more vote makes a leader, which sends the entries after its last one, whatever it sent before.
func TestElected(t *testing.T) {
	for from := 1; from < 3; from++ {
		r := leader(t, recs(1, 1))
		r.Hear(appended(1, 2, 0, false))
		r.Hear(appended(2, 2, 2, true))
		r.Hear(api.Msg{Kind: api.MgAppend, From: 3 - from, Term: 3, Index: 2, Prev: 1, Recs: []api.Rec{{Term: 2, Data: "3"}}})
		r.Tick()
		gives(t, r.Hear(vote(from, 4, true)), sends(sent(1, 4, 3, 2, 0, nil), sent(2, 4, 3, 2, 0, nil)))
		is(t, r, 4, 0, replica.Lead, 0, recs(1, 1, 2))
		gives(t, r.Hear(vote(3-from, 4, true)), api.Out{})
		// The numbers of the first election are gone: only what is answered now counts.
		r.Propose("4")
		gives(t, r.Hear(appended(2, 4, 0, false)), sends(sent(2, 4, 0, 0, 0, recs(1, 1, 2, 4))))
	}
}

// P8.3: votes that do not count: a refused one, one of another term, one for a replica that does not ask any more, or not yet.
func TestVotedNot(t *testing.T) {
	r := stored(t, 3, -1, recs(1))
	gives(t, r.Hear(vote(1, 3, true)), api.Out{})
	is(t, r, 3, -1, replica.Follow, 0, recs(1))
	r.Tick()
	for _, m := range []api.Msg{vote(1, 4, false), vote(2, 4, false), vote(1, 3, true), vote(2, 1, true)} {
		gives(t, r.Hear(m), api.Out{})
		is(t, r, 4, 0, replica.Ask, 0, recs(1))
	}
	gives(t, r.Hear(vote(1, 5, true)), saves(5, -1))
	is(t, r, 5, -1, replica.Follow, 0, recs(1))
	own := stored(t, 3, 0, nil) // it has voted for itself before a crash
	gives(t, own.Hear(vote(1, 3, true)), api.Out{})
	is(t, own, 3, 0, replica.Follow, 0, nil)
}

// P8.3: entries of an older leader are not taken, and it learns the term.
func TestAppendOld(t *testing.T) {
	for _, old := range []int{1, 3} {
		r := stored(t, 4, 2, recs(1))
		gives(t, r.Hear(entries(old, 1, 1, 1, recs(1)...)), sends(taken(4, 0, false)))
		is(t, r, 4, 2, replica.Follow, 0, recs(1))
		r.Tick()
		gives(t, r.Hear(entries(old, 0, 0, 0)), sends(taken(5, 0, false)))
		is(t, r, 5, 0, replica.Ask, 0, recs(1))
		l := leader(t, recs(4))
		gives(t, l.Hear(entries(old, 1, 1, 1)), sends(taken(5, 0, false)))
		is(t, l, 5, 0, replica.Lead, 0, recs(4))
	}
}

// P8.3: a leader takes nothing in its own term; one that asks follows then, and keeps its vote.
func TestAppendRoles(t *testing.T) {
	l := leader(t, recs(1))
	gives(t, l.Hear(entries(2, 1, 1, 1, recs(2)...)), api.Out{})
	gives(t, l.Hear(entries(2, 0, 0, 1)), api.Out{})
	is(t, l, 2, 0, replica.Lead, 0, recs(1))
	for _, c := range []struct {
		index, commit int
		yes           bool
	}{{1, 1, true}, {5, 0, false}} {
		a := stored(t, 1, -1, recs(1))
		a.Tick()
		gives(t, a.Hear(entries(2, c.index, 1, 1)), sends(taken(2, 1, c.yes)))
		is(t, a, 2, 0, replica.Follow, c.commit, recs(1))
		gives(t, a.Hear(vote(1, 2, true)), api.Out{})
		is(t, a, 2, 0, replica.Follow, c.commit, recs(1))
	}
}

// P8.3: where the entry before them is missing, or has another term, no entries are taken; the answer says from where to try again.
func TestAppendGap(t *testing.T) {
	for _, c := range []struct {
		log         []api.Rec
		index, prev int
		answer      int
	}{
		{nil, 1, 1, 0}, {nil, 1, 0, 0}, {nil, 4000, 3, 0},
		{recs(1, 1, 2), 4, 2, 3}, {recs(1, 1, 2), 9, 2, 3}, {recs(1, 1, 2), 5, 0, 3},
		{recs(1, 1, 2), 3, 3, 2}, {recs(1, 1, 2), 3, 1, 2}, {recs(1, 1, 2), 3, 0, 2},
		{recs(1, 1, 2), 2, 2, 1}, {recs(1, 1, 2), 1, 2, 0}, {recs(1, 1, 2), 1, 0, 0},
	} {
		r := stored(t, 3, -1, c.log)
		gives(t, r.Hear(entries(3, c.index, c.prev, c.index)), sends(taken(3, c.answer, false)))
		is(t, r, 3, -1, replica.Follow, 0, c.log)
		gives(t, r.Hear(entries(4, c.index, c.prev, c.index)), saves(4, -1, taken(4, c.answer, false)))
		is(t, r, 4, -1, replica.Follow, 0, c.log)
	}
}

// P8.3: entries that the log has are kept, with what follows them; from the first other one on, all are replaced.
func TestAppendReplace(t *testing.T) {
	old := recs(1, 1, 2, 2)
	next := func(terms ...int) []api.Rec {
		var l []api.Rec
		for i, n := range terms {
			l = append(l, api.Rec{Term: n, Data: "new" + strconv.Itoa(i)})
		}
		return l
	}
	for i, c := range []struct {
		log         []api.Rec
		index, prev int
		recs        []api.Rec
		from        int // what is replaced, or 0
		known       int // how many of the entries are kept
		want        []api.Rec
	}{
		{nil, 0, 0, nil, 0, 0, nil},
		{nil, 0, 0, next(1), 1, 0, next(1)},
		{nil, 0, 0, next(1, 1, 1, 2, 2, 2, 4, 4), 1, 0, next(1, 1, 1, 2, 2, 2, 4, 4)},
		{old, 4, 2, nil, 0, 0, old},
		{old, 0, 0, nil, 0, 0, old},
		{old, 2, 1, nil, 0, 0, old},
		{old, 4, 2, next(2, 4), 5, 0, slices.Concat(old, next(2, 4))},
		{old, 0, 0, next(1, 1), 0, 2, old},
		{old, 0, 0, next(1, 1, 2, 2), 0, 4, old},
		{old, 1, 1, next(1, 2), 0, 2, old},
		{old, 1, 1, next(1, 2, 2, 3), 5, 3, slices.Concat(old, next(1, 2, 2, 3)[3:])},
		{old, 1, 1, next(3), 2, 0, slices.Concat(old[:1], next(3))},
		{old, 0, 0, next(1, 1, 1), 3, 2, slices.Concat(old[:2], next(1, 1, 1)[2:])},
		{old, 0, 0, next(2, 2, 2, 2, 2), 1, 0, next(2, 2, 2, 2, 2)},
		{old, 3, 2, next(4), 4, 0, slices.Concat(old[:3], next(4))},
	} {
		r := stored(t, 4, 2, c.log)
		want := sends(taken(4, c.index+len(c.recs), true))
		if c.from > 0 {
			want.From, want.Recs = c.from, c.recs[c.known:]
		}
		gives(t, r.Hear(entries(4, c.index, c.prev, 0, c.recs...)), want)
		is(t, r, 4, 2, replica.Follow, 0, c.want)
		gives(t, r.Hear(entries(4, c.index, c.prev, 0, c.recs...)), sends(want.Send...))
		is(t, r, 4, 2, replica.Follow, 0, c.want)
		if t.Failed() {
			t.Fatalf("the case %d", i)
		}
	}
}

// P8.3: the commit number goes up to that of the leader, but not beyond what is known to be equal, and never back.
func TestAppendCommit(t *testing.T) {
	r := stored(t, 3, 1, recs(1, 1, 2, 2))
	for _, c := range []struct {
		m    api.Msg
		want int
	}{
		{entries(3, 1, 1, 4), 1},
		{entries(3, 0, 0, 4), 1},
		{entries(3, 1, 1, 0, recs(1)...), 1},
		{entries(3, 1, 1, 4, recs(1)...), 2},
		{entries(3, 4, 2, 1), 2},
		{entries(3, 4, 2, 3), 3},
		{entries(3, 9, 2, 4), 3},
		{entries(3, 4, 1, 4), 3},
		{entries(2, 4, 2, 4), 3},
		{entries(3, 4, 2, 4000, recs(3)...), 5},
		{entries(3, 5, 3, 0), 5},
	} {
		r.Hear(c.m)
		if r.Commit() != c.want {
			t.Errorf("after %v the commit number is %d, not %d", c.m, r.Commit(), c.want)
		}
	}
	if len(r.Log()) != 5 {
		t.Error(r.Log())
	}
}

// P8.3: entries that are committed are never replaced: nothing happens then, but for the term and the role.
func TestAppendCommitted(t *testing.T) {
	for i := range 2 {
		r := stored(t, 3, 1, recs(1, 1, 2, 2))
		r.Hear(entries(3, 4, 2, 2))
		gives(t, r.Hear(entries(3, i, i, 4, recs(3, 3, 3)...)), api.Out{})
		is(t, r, 3, 1, replica.Follow, 2, recs(1, 1, 2, 2))
		r.Tick()
		gives(t, r.Hear(entries(4, i, i, 4, recs(3)...)), api.Out{})
		is(t, r, 4, 0, replica.Follow, 2, recs(1, 1, 2, 2))
		gives(t, r.Hear(entries(5, 1, 1, 4, recs(2)...)), saves(5, -1))
		is(t, r, 5, -1, replica.Follow, 2, recs(1, 1, 2, 2))
		want := sends(taken(5, 3, true))
		want.From, want.Recs = 3, recs(1, 1, 5)[2:]
		gives(t, r.Hear(entries(5, 2, 1, 2, want.Recs...)), want)
		is(t, r, 5, -1, replica.Follow, 2, recs(1, 1, 5))
	}
}

// P8.3: a full log is taken up to its last entry.
func TestAppendFull(t *testing.T) {
	log := slices.Repeat([]api.Rec{{Term: 1}}, replica.MaxLog-3)
	r := stored(t, 1, 1, log)
	gives(t, r.Hear(entries(1, replica.MaxLog-3, 1, 0, recs(1, 1, 1, 1)...)), api.Out{})
	want := sends(taken(1, replica.MaxLog, true))
	want.From, want.Recs = replica.MaxLog-2, recs(1, 1, 1)
	gives(t, r.Hear(entries(1, replica.MaxLog-3, 1, replica.MaxLog, recs(1, 1, 1)...)), want)
	is(t, r, 1, 1, replica.Follow, replica.MaxLog, append(log, recs(1, 1, 1)...))
}

// P8.3: a leader goes on where an answer says, at most MaxRecs entries at once, until the other one has them all.
func TestAppendedYes(t *testing.T) {
	log := recs(slices.Repeat([]int{1}, 20)...)
	r := leader(t, log)
	next := func(to, index int) api.Msg { return sent(to, 2, index, min(index, 1), 0, log[index:min(20, index+8)]) }
	gives(t, r.Hear(appended(1, 2, 0, true)), sends(next(1, 0)))
	gives(t, r.Hear(appended(1, 2, 8, true)), sends(next(1, 8)))
	gives(t, r.Hear(appended(1, 2, 3, true)), sends(next(1, 8)))
	gives(t, r.Hear(appended(1, 2, 21, true)), api.Out{})
	gives(t, r.Hear(appended(1, 2, 4000, true)), api.Out{})
	gives(t, r.Hear(appended(1, 2, 16, true)), sends(next(1, 16)))
	gives(t, r.Hear(appended(1, 2, 19, true)), sends(next(1, 19)))
	gives(t, r.Hear(appended(1, 2, 20, true)), api.Out{})
	gives(t, r.Hear(appended(1, 2, 0, true)), api.Out{})
	gives(t, r.Tick(), sends(next(1, 20), next(2, 20)))
	is(t, r, 2, 0, replica.Lead, 0, log)
}

// P8.3: where entries were not taken, a leader tries again from before, but not before what the other one has.
func TestAppendedNo(t *testing.T) {
	log := recs(1, 1, 1, 1, 1, 1)
	for _, c := range []struct{ match, first, second, next int }{
		{0, 5, 3, 4}, {0, 6, 6, 5}, {0, 4, 4, 4}, {0, 0, 0, 1}, {0, 0, 6, 1}, {0, 4000, 4000, 5},
		{0, 5, 0, 1}, {3, 6, 0, 4}, {3, 4, 4, 4}, {4, 2, 1, 5}, {6, 0, 0, 7}, {6, 6, 6, 7}, {2, 4, 3, 3},
	} {
		r := leader(t, log)
		if c.match > 0 {
			r.Hear(appended(1, 2, c.match, true))
		}
		r.Hear(appended(1, 2, c.first, false))
		gives(t, r.Hear(appended(1, 2, c.second, false)), sends(sent(1, 2, c.next-1, min(c.next-1, 1), 0, log[c.next-1:])))
		if o := r.Tick(); len(o.Send) != 2 || o.Send[0].Index != c.next-1 || o.Send[1].Index != 6 {
			t.Errorf("%v: %v", c, o)
		}
	}
}

// P8.3: answers that do not count: of an older term, or to a replica that does not lead.
func TestAppendedNot(t *testing.T) {
	for _, yes := range []bool{false, true} {
		l := leader(t, recs(1, 1))
		l.Propose("3")
		gives(t, l.Hear(appended(1, 1, 1, yes)), api.Out{})
		gives(t, l.Hear(appended(2, 1, 3, yes)), api.Out{})
		is(t, l, 2, 0, replica.Lead, 0, recs(1, 1, 2))
		gives(t, l.Tick(), sends(sent(1, 2, 2, 1, 0, recs(1, 1, 2)[2:]), sent(2, 2, 2, 1, 0, recs(1, 1, 2)[2:])))
		a := stored(t, 1, -1, recs(1, 1))
		a.Tick()
		gives(t, a.Hear(appended(1, 2, 1, yes)), api.Out{})
		is(t, a, 2, 0, replica.Ask, 0, recs(1, 1))
		f := stored(t, 2, 0, recs(1, 2))
		gives(t, f.Hear(appended(1, 2, 2, yes)), api.Out{})
		is(t, f, 2, 0, replica.Follow, 0, recs(1, 2))
	}
}

// P8.3: a leader commits what one other has, if the last entry of it has the own term; it never goes back.
func TestCommit(t *testing.T) {
	r := leader(t, recs(1, 1))
	for i, c := range []struct {
		from, index int
		yes         bool
		propose     bool
		want        int
	}{
		{1, 2, true, false, 0}, // an entry of an older term
		{2, 2, true, true, 0},
		{2, 2, true, true, 0},
		{1, 3, false, false, 0},
		{2, 3, true, false, 3},
		{1, 2, true, false, 3},
		{1, 4, true, true, 4},
		{2, 4, true, false, 4},
		{2, 6, true, false, 4},
		{2, 5, true, false, 5},
		{2, 1, false, false, 5},
	} {
		if c.propose {
			r.Propose("x")
		}
		r.Hear(appended(c.from, 2, c.index, c.yes))
		if r.Commit() != c.want {
			t.Errorf("after the answer %d the commit number is %d, not %d", i, r.Commit(), c.want)
		}
	}
	f := stored(t, 1, -1, recs(1, 1, 1))
	f.Hear(entries(1, 3, 1, 2))
	f.Tick()
	f.Hear(vote(1, 2, true))
	f.Propose("4")
	for i, want := range []int{2, 2, 2, 2, 4} {
		if f.Hear(appended(2, 2, i, true)); f.Commit() != want {
			t.Errorf("the commit number is %d, not %d", f.Commit(), want)
		}
	}
	is(t, f, 2, 0, replica.Lead, 4, append(recs(1, 1, 1), api.Rec{Term: 2, Data: "4"}))
}
