package replica_test

import (
	"math"
	"reflect"
	"slices"
	"strconv"
	"strings"
	"testing"

	"errata/api"
	"errata/replica"
)

const huge, least = math.MaxInt, math.MinInt

// recs returns entries with these terms, whose data are their numbers.
func recs(terms ...int) []api.Rec {
	var l []api.Rec
	for i, n := range terms {
		l = append(l, api.Rec{Term: n, Data: strconv.Itoa(i + 1)})
	}
	return l
}

// stored returns the replica 0 with a stored state.
func stored(t *testing.T, term, vote int, log []api.Rec) *replica.Replica {
	t.Helper()
	r := replica.New(0, api.Hard{Term: term, Vote: vote}, log)
	if r == nil {
		t.Fatalf("the term %d, the vote %d and %v are not taken", term, vote, log)
	}
	return r
}

// fresh returns the replica 0 without a term, a vote and entries.
func fresh(t *testing.T) *replica.Replica {
	t.Helper()
	return stored(t, 0, -1, nil)
}

// leader returns the replica 0, which leads with a log in the term after the greatest one.
func leader(t *testing.T, log []api.Rec) *replica.Replica {
	t.Helper()
	term := 0
	if len(log) > 0 {
		term = log[len(log)-1].Term
	}
	r := stored(t, term, -1, log)
	r.Tick()
	r.Hear(vote(1, term+1, true))
	if r.Role() != replica.Lead {
		t.Fatal("the replica does not lead")
	}
	return r
}

// sameMsg reports whether two messages are equal.
func sameMsg(a, b api.Msg) bool {
	if !slices.Equal(a.Recs, b.Recs) {
		return false
	}
	a.Recs, b.Recs = nil, nil
	return reflect.DeepEqual(a, b)
}

// sameOut reports whether two results are equal.
func sameOut(a, b api.Out) bool {
	return a.Save == b.Save && a.Hard == b.Hard && a.From == b.From && slices.Equal(a.Recs, b.Recs) && slices.EqualFunc(a.Send, b.Send, sameMsg)
}

// gives checks a result.
func gives(t *testing.T, got, want api.Out) {
	t.Helper()
	if !sameOut(got, want) {
		t.Errorf("the result is\n%v, not\n%v", got, want)
	}
}

// saves returns the result that stores a term and a vote, and sends messages.
func saves(term, vote int, send ...api.Msg) api.Out {
	return api.Out{Save: true, Hard: api.Hard{Term: term, Vote: vote}, Send: send}
}

// sends returns the result that sends messages.
func sends(send ...api.Msg) api.Out { return api.Out{Send: send} }

// is checks all that can be seen of a replica.
func is(t *testing.T, r *replica.Replica, term, vote, role, commit int, log []api.Rec) {
	t.Helper()
	if h := r.Hard(); h != (api.Hard{Term: term, Vote: vote}) {
		t.Errorf("the term and the vote are %v, not %d and %d", h, term, vote)
	}
	if r.Role() != role || r.Commit() != commit {
		t.Errorf("the role is %d, not %d, and the commit number %d, not %d", r.Role(), role, r.Commit(), commit)
	}
	if l := r.Log(); !slices.Equal(l, log) {
		t.Errorf("the log is %v, not %v", l, log)
	}
}

// vote returns the answer to a request of 0.
func vote(from, term int, yes bool) api.Msg {
	return api.Msg{Kind: api.MgVoted, From: from, Term: term, Yes: yes}
}

// voted returns the answer of 0 to a request.
func voted(to, term int, yes bool) api.Msg {
	return api.Msg{Kind: api.MgVoted, To: to, Term: term, Yes: yes}
}

// sent returns a message of 0 with entries.
func sent(to, term, index, prev, commit int, l []api.Rec) api.Msg {
	return api.Msg{Kind: api.MgAppend, To: to, Term: term, Index: index, Prev: prev, Commit: commit, Recs: l}
}

// entries returns a message with entries to 0.
func entries(term, index, prev, commit int, l ...api.Rec) api.Msg {
	return api.Msg{Kind: api.MgAppend, From: 1, Term: term, Index: index, Prev: prev, Commit: commit, Recs: l}
}

// taken returns the answer of 0 to entries.
func taken(term, index int, yes bool) api.Msg {
	return api.Msg{Kind: api.MgAppended, To: 1, Term: term, Index: index, Yes: yes}
}

// appended returns the answer to entries of 0.
func appended(from, term, index int, yes bool) api.Msg {
	return api.Msg{Kind: api.MgAppended, From: from, Term: term, Index: index, Yes: yes}
}

// P8.1: the roles and the limits that the chapter declares.
func TestConstants(t *testing.T) {
	if replica.Follow != 0 || replica.Ask != 1 || replica.Lead != 2 {
		t.Error("the roles")
	}
	if replica.MaxTerm != 1<<40 || replica.MaxLog != 4000 || replica.MaxData != 2000 || replica.MaxRecs != 8 {
		t.Error("the limits")
	}
}

// P8.1: a right stored state is taken as it is, up to the limits.
func TestNew(t *testing.T) {
	most := slices.Repeat([]api.Rec{{Term: 1}}, replica.MaxLog)
	for i, c := range []struct {
		h   api.Hard
		log []api.Rec
	}{
		{api.Hard{}, nil},
		{api.Hard{Vote: -1}, []api.Rec{}},
		{api.Hard{Vote: 2}, nil},
		{api.Hard{Term: 1, Vote: 1}, recs(1)},
		{api.Hard{Term: 7, Vote: 2}, recs(1, 1, 3, 7, 7)},
		{api.Hard{Term: 9, Vote: -1}, recs(2)},
		{api.Hard{Term: replica.MaxTerm, Vote: 0}, recs(1, replica.MaxTerm, replica.MaxTerm)},
		{api.Hard{Term: 1}, most},
		{api.Hard{Term: 1}, []api.Rec{{Term: 1}, {Term: 1, Data: strings.Repeat("\xff", replica.MaxData)}}},
	} {
		for id := range 3 {
			r := replica.New(id, c.h, c.log)
			if r == nil {
				t.Errorf("the state %d is not taken by %d", i, id)
				continue
			}
			is(t, r, c.h.Term, c.h.Vote, replica.Follow, 0, c.log)
		}
	}
}

// P8.1: what is no replica, or no right stored state.
func TestNewWrong(t *testing.T) {
	for _, id := range []int{-1, -2, 3, 4, 1 << 32, huge, least} {
		if replica.New(id, api.Hard{Vote: -1}, nil) != nil {
			t.Errorf("there is a replica %d", id)
		}
	}
	long := []api.Rec{{Term: 1, Data: strings.Repeat("x", replica.MaxData+1)}}
	for i, c := range []struct {
		h   api.Hard
		log []api.Rec
	}{
		{api.Hard{Term: -1}, nil},
		{api.Hard{Term: least}, nil},
		{api.Hard{Term: replica.MaxTerm + 1}, nil},
		{api.Hard{Term: huge}, nil},
		{api.Hard{Vote: -2}, nil},
		{api.Hard{Vote: 3}, nil},
		{api.Hard{Vote: least}, nil},
		{api.Hard{Vote: huge}, nil},
		{api.Hard{Term: 1}, slices.Repeat([]api.Rec{{Term: 1}}, replica.MaxLog+1)},
		{api.Hard{Term: 0}, recs(1)},
		{api.Hard{Term: 3}, recs(0)},
		{api.Hard{Term: 3}, recs(-1)},
		{api.Hard{Term: 3}, recs(0, 1)},
		{api.Hard{Term: 3}, recs(1, 4)},
		{api.Hard{Term: 3}, recs(4, 1)},
		{api.Hard{Term: 3}, recs(2, 1)},
		{api.Hard{Term: 3}, recs(1, 3, 2)},
		{api.Hard{Term: 3}, recs(1, 3, 2, 3)},
		{api.Hard{Term: 3}, recs(1, least)},
		{api.Hard{Term: 3}, recs(1, huge)},
		{api.Hard{Term: 3}, long},
		{api.Hard{Term: 3}, append(long, recs(2)...)},
		{api.Hard{Term: 3}, append(recs(1), long...)},
	} {
		for id := range 3 {
			if replica.New(id, c.h, c.log) != nil {
				t.Errorf("the state %d is taken by %d", i, id)
			}
		}
	}
}

// P8.1: a copy is equal, also in what is not seen, and neither changes the other.
func TestCopy(t *testing.T) {
	r := leader(t, recs(1, 1, 2))
	r.Hear(appended(1, 3, 1, false))
	before := r.Tick()
	c := r.Copy()
	is(t, c, 3, 0, replica.Lead, 0, recs(1, 1, 2))
	gives(t, c.Tick(), before)
	c.Propose("c")
	c.Hear(appended(2, 3, 4, true))
	is(t, c, 3, 0, replica.Lead, 4, append(recs(1, 1, 2), api.Rec{Term: 3, Data: "c"}))
	is(t, r, 3, 0, replica.Lead, 0, recs(1, 1, 2))
	gives(t, r.Tick(), before)
	r.Propose("r")
	is(t, c, 3, 0, replica.Lead, 4, append(recs(1, 1, 2), api.Rec{Term: 3, Data: "c"}))
	is(t, r, 3, 0, replica.Lead, 0, append(recs(1, 1, 2), api.Rec{Term: 3, Data: "r"}))

	f := stored(t, 2, 1, recs(1, 2, 2))
	d := f.Copy()
	f.Hear(entries(3, 1, 1, 0, api.Rec{Term: 3, Data: "f"}))
	is(t, f, 3, -1, replica.Follow, 0, []api.Rec{{Term: 1, Data: "1"}, {Term: 3, Data: "f"}})
	is(t, d, 2, 1, replica.Follow, 0, recs(1, 2, 2))
}

// P8.2: whoever does not lead asks for the votes of both others, in each term anew.
func TestTick(t *testing.T) {
	for id := range 3 {
		others := [][]int{{1, 2}, {0, 2}, {0, 1}}[id]
		r := replica.New(id, api.Hard{Term: 4, Vote: others[0]}, recs(1, 3))
		for term := 5; term < 8; term++ {
			var want []api.Msg
			for _, to := range others {
				want = append(want, api.Msg{Kind: api.MgVote, From: id, To: to, Term: term, Index: 2, Prev: 3})
			}
			gives(t, r.Tick(), saves(term, id, want...))
			is(t, r, term, id, replica.Ask, 0, recs(1, 3))
		}
	}
	gives(t, fresh(t).Tick(), saves(1, 0, api.Msg{Kind: api.MgVote, To: 1, Term: 1}, api.Msg{Kind: api.MgVote, To: 2, Term: 1}))
}

// P8.2: there is no term after the greatest one.
func TestTickLast(t *testing.T) {
	r := stored(t, replica.MaxTerm-1, 2, nil)
	r.Tick()
	is(t, r, replica.MaxTerm, 0, replica.Ask, 0, nil)
	gives(t, r.Tick(), api.Out{})
	is(t, r, replica.MaxTerm, 0, replica.Ask, 0, nil)
	r.Hear(vote(2, replica.MaxTerm, true))
	if o := r.Tick(); r.Role() != replica.Lead || o.Save || len(o.Send) != 2 || o.Send[1].Kind != api.MgAppend {
		t.Error("a leader in the last term", o)
	}
	f := stored(t, replica.MaxTerm, -1, recs(2))
	gives(t, f.Tick(), api.Out{})
	is(t, f, replica.MaxTerm, -1, replica.Follow, 0, recs(2))
}

// P8.2: a leader sends both others what each of them needs, at most MaxRecs entries.
func TestTickLead(t *testing.T) {
	log := recs(1, 1, 2, 2, 2, 4, 4, 4, 4, 5, 5, 5)
	r := leader(t, log)
	gives(t, r.Tick(), sends(sent(1, 6, 12, 5, 0, nil), sent(2, 6, 12, 5, 0, nil)))
	r.Hear(appended(1, 6, 5, false))
	r.Hear(appended(2, 6, 0, false))
	gives(t, r.Tick(), sends(sent(1, 6, 5, 2, 0, log[5:]), sent(2, 6, 0, 0, 0, log[:8])))
	r.Hear(appended(1, 6, 4, false))
	_, _, o := r.Propose("13")
	all := append(slices.Clone(log), api.Rec{Term: 6, Data: "13"})
	gives(t, o, api.Out{From: 13, Recs: all[12:], Send: []api.Msg{sent(1, 6, 4, 2, 0, all[4:12]), sent(2, 6, 0, 0, 0, all[:8])}})
	r.Hear(appended(2, 6, 13, true))
	gives(t, r.Tick(), sends(sent(1, 6, 4, 2, 13, all[4:12]), sent(2, 6, 13, 6, 13, nil)))
	is(t, r, 6, 0, replica.Lead, 13, all)
}

// P8.4: an entry of the own term comes at the end of the log, and is sent.
func TestPropose(t *testing.T) {
	for _, old := range [][]api.Rec{nil, recs(1, 1)} {
		r := leader(t, old)
		term := 1 + len(old)/2
		log := slices.Clone(old)
		for _, data := range []string{"a", "", strings.Repeat("\x00", replica.MaxData), "a"} {
			log = append(log, api.Rec{Term: term, Data: data})
			var send []api.Msg
			for to := 1; to < 3; to++ {
				send = append(send, sent(to, term, len(old), min(len(old), 1), 0, log[len(old):]))
			}
			n, e, o := r.Propose(data)
			if n != len(log) || e != api.OK {
				t.Errorf("the number is %d, the error %d", n, e)
			}
			gives(t, o, api.Out{From: n, Recs: log[n-1:], Send: send})
			is(t, r, term, 0, replica.Lead, 0, log)
		}
	}
}

// P8.4: the errors, in their order; with them nothing changes.
func TestProposeErrors(t *testing.T) {
	long := strings.Repeat("x", replica.MaxData+1)
	f := stored(t, 3, 0, slices.Repeat([]api.Rec{{Term: 3}}, replica.MaxLog))
	a := stored(t, 3, 0, f.Log())
	a.Tick()
	l := leader(t, recs(1))
	full := leader(t, f.Log())
	for i, c := range []struct {
		r    *replica.Replica
		data string
		want api.Errno
	}{
		{f, "", api.ErrLeader}, {f, long, api.ErrLeader}, {a, "", api.ErrLeader}, {a, long, api.ErrLeader},
		{l, long, api.ErrArg}, {full, long, api.ErrArg}, {full, "", api.ErrFull}, {full, long[1:], api.ErrFull},
	} {
		same := c.r.Copy()
		n, e, o := c.r.Propose(c.data)
		if n != 0 || e != c.want {
			t.Errorf("the case %d returns %d, %d", i, n, e)
		}
		gives(t, o, api.Out{})
		is(t, c.r, same.Hard().Term, same.Hard().Vote, same.Role(), same.Commit(), same.Log())
	}
	last := leader(t, f.Log()[1:])
	if n, e, o := last.Propose(""); n != replica.MaxLog || e != api.OK || o.From != n {
		t.Error(n, e)
	}
	if n, e, o := last.Propose(""); n != 0 || e != api.ErrFull || !sameOut(o, api.Out{}) {
		t.Error(n, e)
	}
}

// P8.6: what is given is neither changed nor kept, also beyond its length.
func TestArguments(t *testing.T) {
	log, more := recs(1, 1, 2, 2), recs(2, 2, 2)
	r := stored(t, 2, 1, log[:2])
	r.Hear(entries(2, 2, 1, 0, more[:1]...))
	r.Hear(entries(2, 3, 2, 0, api.Rec{Term: 2, Data: "x"}))
	if !slices.Equal(log, recs(1, 1, 2, 2)) || !slices.Equal(more, recs(2, 2, 2)) {
		t.Error(log, more)
	}
	spoil(log)
	spoil(more)
	is(t, r, 2, 1, replica.Follow, 0, []api.Rec{{Term: 1, Data: "1"}, {Term: 1, Data: "2"}, {Term: 2, Data: "1"}, {Term: 2, Data: "x"}})
	l := recs(1, 2, 3)
	replica.Bytes(api.Msg{Recs: l[:1]})
	if !slices.Equal(l, recs(1, 2, 3)) {
		t.Error(l)
	}
}

// spoil changes everything in a list, and behind it.
func spoil(l []api.Rec) {
	for i := range l {
		l[i] = api.Rec{Term: 99, Data: "spoilt"}
	}
	_ = append(l, api.Rec{Term: 99, Data: "spoilt"})
}

// P8.6: results share nothing with each other, or with the replica.
func TestResults(t *testing.T) {
	r := leader(t, recs(1, 1))
	r.Hear(appended(1, 2, 0, false))
	r.Hear(appended(2, 2, 0, false))
	_, _, o := r.Propose("3")
	log := recs(1, 1, 2)
	spoil(o.Recs)
	if !slices.Equal(o.Send[0].Recs, log) || !slices.Equal(o.Send[1].Recs, log) {
		t.Error("entries are shared with messages")
	}
	spoil(o.Send[0].Recs)
	if !slices.Equal(o.Send[1].Recs, log) {
		t.Error("two messages share entries")
	}
	spoil(o.Send[1].Recs)
	spoil(r.Log())
	again := r.Tick()
	gives(t, again, sends(sent(1, 2, 0, 0, 0, log), sent(2, 2, 0, 0, 0, log)))
	spoil(again.Send[0].Recs)
	spoil(r.Hear(appended(1, 2, 1, true)).Send[0].Recs)
	is(t, r, 2, 0, replica.Lead, 0, log)

	f := stored(t, 2, 1, recs(1, 1))
	given := recs(2, 2)
	o = f.Hear(entries(2, 1, 1, 0, given...))
	spoil(o.Recs)
	if !slices.Equal(given, recs(2, 2)) {
		t.Error("a result shares entries with an argument")
	}
	is(t, f, 2, 1, replica.Follow, 0, []api.Rec{{Term: 1, Data: "1"}, {Term: 2, Data: "1"}, {Term: 2, Data: "2"}})

	s := replica.Bytes(api.Msg{Recs: recs(1, 2)})
	a, _ := replica.Read(s)
	b, _ := replica.Read(s)
	spoil(a.Recs)
	if !slices.Equal(b.Recs, recs(1, 2)) {
		t.Error("two messages that were read share entries")
	}
}

// The examples at the end of the chapter.
func TestExamples(t *testing.T) {
	var l [3]*replica.Replica
	for id := range l {
		l[id] = replica.New(id, api.Hard{Vote: -1}, nil)
	}
	o := l[0].Tick()
	if l[0].Hard() != (api.Hard{Term: 1, Vote: 0}) || len(o.Send) != 2 || o.Send[0].Kind != api.MgVote || o.Send[1].Kind != api.MgVote {
		t.Error(o)
	}
	o = l[1].Hear(o.Send[0])
	if len(o.Send) != 1 || !o.Send[0].Yes {
		t.Fatal(o)
	}
	o = l[0].Hear(o.Send[0])
	if l[0].Role() != replica.Lead || len(o.Send) != 2 || o.Send[0].Kind != api.MgAppend || o.Send[1].Kind != api.MgAppend {
		t.Error(o)
	}
	n, e, o := l[0].Propose("a")
	if n != 1 || e != api.OK || len(o.Send) != 2 {
		t.Fatal(n, e, o)
	}
	o = l[1].Hear(o.Send[0])
	l[0].Hear(o.Send[0])
	if l[0].Commit() != 1 {
		t.Error(l[0].Commit())
	}
}
