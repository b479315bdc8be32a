package replica_test

import (
	"maps"
	"slices"
	"testing"

	"errata/api"
	"errata/replica"
)

// machine has the calls of a replica.
type machine interface {
	Tick() api.Out
	Hear(m api.Msg) api.Out
	Propose(data string) (int, api.Errno, api.Out)
	Hard() api.Hard
	Role() int
	Commit() int
	Log() []api.Rec
}

var _ machine = (*replica.Replica)(nil)

// model is a replica as the chapter defines it, word by word.
type model struct {
	id, term, vote, role, commit int
	log                          []api.Rec
	votes                        map[int]bool
	next, match                  map[int]int
}

func newModel(id int, h api.Hard, log []api.Rec) *model {
	return &model{id: id, term: h.Term, vote: h.Vote, log: slices.Clone(log)}
}

func (m *model) copy() *model {
	c := *m
	c.log, c.votes, c.next, c.match = slices.Clone(m.log), maps.Clone(m.votes), maps.Clone(m.next), maps.Clone(m.match)
	return &c
}

func (m *model) Hard() api.Hard { return api.Hard{Term: m.term, Vote: m.vote} }
func (m *model) Role() int      { return m.role }
func (m *model) Commit() int    { return m.commit }
func (m *model) Log() []api.Rec { return m.log }

func (m *model) others() []int {
	return slices.DeleteFunc([]int{0, 1, 2}, func(id int) bool { return id == m.id })
}

func (m *model) termOf(n int) int {
	if n == 0 {
		return 0
	}
	return m.log[n-1].Term
}

func (m *model) message(kind, to int) api.Msg {
	return api.Msg{Kind: kind, From: m.id, To: to, Term: m.term}
}

func (m *model) sendEntries(to int) api.Msg {
	x := m.message(api.MgAppend, to)
	x.Index = m.next[to] - 1
	x.Prev = m.termOf(x.Index)
	x.Commit = m.commit
	for n := m.next[to]; n <= len(m.log) && len(x.Recs) < 8; n++ {
		x.Recs = append(x.Recs, m.log[n-1])
	}
	return x
}

func (m *model) sendAll() (l []api.Msg) {
	for _, to := range m.others() {
		l = append(l, m.sendEntries(to))
	}
	return l
}

func (m *model) Tick() (o api.Out) {
	if m.role == replica.Lead {
		o.Send = m.sendAll()
		return o
	}
	if m.term == 1<<40 {
		return o
	}
	m.term++
	m.vote, m.role, m.votes = m.id, replica.Ask, map[int]bool{m.id: true}
	o.Save, o.Hard = true, m.Hard()
	for _, to := range m.others() {
		x := m.message(api.MgVote, to)
		x.Index, x.Prev = len(m.log), m.termOf(len(m.log))
		o.Send = append(o.Send, x)
	}
	return o
}

func (m *model) Propose(data string) (int, api.Errno, api.Out) {
	switch {
	case m.role != replica.Lead:
		return 0, api.ErrLeader, api.Out{}
	case len(data) > 2000:
		return 0, api.ErrArg, api.Out{}
	case len(m.log) == 4000:
		return 0, api.ErrFull, api.Out{}
	}
	x := api.Rec{Term: m.term, Data: data}
	m.log = append(m.log, x)
	return len(m.log), api.OK, api.Out{From: len(m.log), Recs: []api.Rec{x}, Send: m.sendAll()}
}

func (m *model) right(x api.Msg) bool {
	switch {
	case x.Kind != api.MgVote && x.Kind != api.MgVoted && x.Kind != api.MgAppend && x.Kind != api.MgAppended,
		x.To != m.id || !slices.Contains(m.others(), x.From),
		x.Term < 1 || x.Term > 1<<40,
		x.Index < 0 || x.Index > 4000,
		x.Prev < 0 || x.Prev > x.Term,
		x.Index == 0 && x.Prev != 0,
		x.Commit < 0 || x.Commit > 4000,
		len(x.Recs) > 8,
		x.Index+len(x.Recs) > 4000:
		return false
	}
	before := max(1, x.Prev)
	for _, e := range x.Recs {
		if len(e.Data) > 2000 || e.Term < before || e.Term > x.Term {
			return false
		}
		before = e.Term
	}
	return true
}

func (m *model) Hear(x api.Msg) (o api.Out) {
	if !m.right(x) {
		return o
	}
	before := m.Hard()
	if x.Term > m.term {
		m.term, m.vote, m.role = x.Term, -1, replica.Follow
	}
	switch x.Kind {
	case api.MgVote:
		m.hearVote(x, &o)
	case api.MgVoted:
		if m.role == replica.Ask && x.Term == m.term && x.Yes {
			m.votes[x.From] = true
			if len(m.votes) >= 2 {
				m.role, m.next, m.match = replica.Lead, map[int]int{}, map[int]int{}
				for _, to := range m.others() {
					m.next[to], m.match[to] = len(m.log)+1, 0
				}
				o.Send = m.sendAll()
			}
		}
	case api.MgAppend:
		m.hearAppend(x, &o)
	case api.MgAppended:
		m.hearAppended(x, &o)
	}
	if m.Hard() != before {
		o.Save, o.Hard = true, m.Hard()
	}
	return o
}

func (m *model) hearVote(x api.Msg, o *api.Out) {
	a := m.message(api.MgVoted, x.From)
	last := []int{m.termOf(len(m.log)), len(m.log)}
	if x.Term == m.term && (m.vote == -1 || m.vote == x.From) && slices.Compare([]int{x.Prev, x.Index}, last) >= 0 {
		a.Yes = true
		m.vote = x.From
	}
	o.Send = []api.Msg{a}
}

func (m *model) hearAppend(x api.Msg, o *api.Out) {
	a := m.message(api.MgAppended, x.From)
	if x.Term < m.term {
		o.Send = []api.Msg{a}
		return
	}
	if m.role == replica.Lead {
		return
	}
	m.role = replica.Follow
	if x.Index > len(m.log) || m.termOf(x.Index) != x.Prev {
		a.Index = min(len(m.log), x.Index-1)
		o.Send = []api.Msg{a}
		return
	}
	for k, e := range x.Recs {
		i := x.Index + 1 + k
		if i <= len(m.log) && m.log[i-1].Term == e.Term {
			continue
		}
		if i <= m.commit {
			return
		}
		o.From, o.Recs = i, x.Recs[k:]
		m.log = slices.Concat(m.log[:i-1], x.Recs[k:])
		break
	}
	n := x.Index + len(x.Recs)
	m.commit = max(m.commit, min(x.Commit, n))
	a.Yes, a.Index = true, n
	o.Send = []api.Msg{a}
}

func (m *model) hearAppended(x api.Msg, o *api.Out) {
	if m.role != replica.Lead || x.Term != m.term {
		return
	}
	if !x.Yes {
		m.next[x.From] = max(m.match[x.From]+1, min(m.next[x.From]-1, x.Index+1))
		o.Send = []api.Msg{m.sendEntries(x.From)}
		return
	}
	if x.Index > len(m.log) {
		return
	}
	m.match[x.From] = max(m.match[x.From], x.Index)
	m.next[x.From] = m.match[x.From] + 1
	m.doCommit()
	if m.next[x.From] <= len(m.log) {
		o.Send = []api.Msg{m.sendEntries(x.From)}
	}
}

func (m *model) doCommit() {
	for n := m.commit + 1; n <= len(m.log); n++ {
		had := slices.ContainsFunc(m.others(), func(id int) bool { return m.match[id] >= n })
		if m.termOf(n) == m.term && had {
			m.commit = n
		}
	}
}

// same reports whether all that can be seen of two replicas is the same.
func same(a, b machine) bool {
	return a.Hard() == b.Hard() && a.Role() == b.Role() && a.Commit() == b.Commit() && slices.Equal(a.Log(), b.Log())
}

// pair is a replica with its model: each call is made to both, and what comes of it is compared.
type pair struct {
	t *testing.T
	r *replica.Replica
	m *model
}

func newPair(t *testing.T, id int, h api.Hard, log []api.Rec) *pair {
	t.Helper()
	r := replica.New(id, h, log)
	if r == nil {
		t.Fatalf("%d does not take %v, %v", id, h, log)
	}
	return &pair{t: t, r: r, m: newModel(id, h, log)}
}

func (p *pair) copy() *pair { return &pair{t: p.t, r: p.r.Copy(), m: p.m.copy()} }

// agree checks that both are the same after a call.
func (p *pair) agree(call string, with any, got, want api.Out) api.Out {
	p.t.Helper()
	if !sameOut(got, want) || !same(p.r, p.m) {
		p.t.Fatalf("%s of %v: the result is\n%v, not\n%v, or the replica is another one than\n%v", call, with, got, want, p.m)
	}
	return got
}

func (p *pair) Tick() api.Out {
	p.t.Helper()
	return p.agree("Tick", nil, p.r.Tick(), p.m.Tick())
}

func (p *pair) Hear(m api.Msg) api.Out {
	p.t.Helper()
	return p.agree("Hear", m, p.r.Hear(m), p.m.Hear(m))
}

func (p *pair) Propose(data string) (int, api.Errno, api.Out) {
	p.t.Helper()
	n, e, o := p.r.Propose(data)
	k, f, want := p.m.Propose(data)
	if n != k || e != f {
		p.t.Fatalf("Propose of %.20q returns %d, %d, not %d, %d", data, n, e, k, f)
	}
	return n, e, p.agree("Propose", data, o, want)
}

// starts returns pairs with the number 0 in several states.
func starts(t *testing.T) []*pair {
	var l []*pair
	logs := [][]api.Rec{nil, recs(1), recs(1, 1), recs(1, 2), recs(1, 1, 2), recs(1, 2, 2, 2), recs(1, 1, 2, 3)}
	for _, log := range logs {
		term := 0
		if len(log) > 0 {
			term = log[len(log)-1].Term
		}
		for _, h := range []api.Hard{{Term: term, Vote: -1}, {Term: term, Vote: 1}, {Term: 3, Vote: 0}, {Term: 3, Vote: 2}} {
			l = append(l, newPair(t, 0, h, log))
		}
		f := newPair(t, 0, api.Hard{Term: term, Vote: -1}, log)
		f.Hear(api.Msg{Kind: api.MgAppend, From: 2, Term: max(term, 1), Index: len(log), Prev: term, Commit: max(0, len(log)-1)})
		a := f.copy()
		a.Tick()
		lead := a.copy()
		lead.Hear(api.Msg{Kind: api.MgVoted, From: 2, Term: a.r.Hard().Term, Yes: true})
		back := lead.copy()
		back.Hear(api.Msg{Kind: api.MgAppended, From: 1, Term: a.r.Hard().Term, Index: 1})
		back.Propose("p")
		back.Propose("q")
		ahead := back.copy()
		ahead.Hear(api.Msg{Kind: api.MgAppended, From: 2, Term: a.r.Hard().Term, Index: len(log) + 1, Yes: true})
		l = append(l, f, a, lead, back, ahead)
	}
	return l
}

// runs returns all lists of up to n entries whose terms go from the least one to the greatest one, and one that falls.
func runs(n, least, greatest int) [][]api.Rec {
	all := [][]api.Rec{nil, recs(greatest, least-1)}
	var walk func(terms []int, from int)
	walk = func(terms []int, from int) {
		for term := from; term <= greatest && len(terms) < n; term++ {
			next := append(slices.Clone(terms), term)
			all = append(all, recs(next...))
			walk(next, term)
		}
	}
	walk(nil, least)
	return all
}

// small returns the messages whose numbers are small, right ones and some others.
func small() []api.Msg {
	var l []api.Msg
	for term := range 5 {
		for index := range 6 {
			for _, yes := range []bool{false, true} {
				l = append(l,
					api.Msg{Kind: api.MgVoted, From: 1, Term: term, Index: index, Yes: yes},
					api.Msg{Kind: api.MgAppended, From: 1, Term: term, Index: index, Yes: yes},
					api.Msg{Kind: api.MgAppended, From: 2, Term: term, Index: index, Yes: yes})
			}
			for prev := range term + 2 {
				l = append(l,
					api.Msg{Kind: api.MgVote, From: 1, Term: term, Index: index, Prev: prev},
					api.Msg{Kind: api.MgVote, From: 2, Term: term, Index: index, Prev: prev})
				for _, r := range runs(2, max(1, prev), term) {
					for commit := range 5 {
						l = append(l, api.Msg{Kind: api.MgAppend, From: 1, Term: term, Index: index, Prev: prev, Commit: commit, Recs: r})
					}
				}
			}
		}
	}
	return l
}

// P8.2 to P8.4: every small message in every one of some states, and what is done after it, against the chapter's definitions.
func TestSmallMessages(t *testing.T) {
	l := small()
	for _, p := range starts(t) {
		for _, m := range l {
			c := p.copy()
			o := c.Hear(m)
			if o.Save || o.From > 0 || len(o.Send) > 0 {
				c.Propose("x")
				c.Tick()
			}
		}
		p.Tick()
	}
}

// P8.2 to P8.4: every two of some messages, one after the other.
func TestTwoMessages(t *testing.T) {
	var l []api.Msg
	for i, m := range small() {
		if m.Kind != api.MgAppend && i%3 == 0 || i%41 == 0 {
			l = append(l, m)
		}
	}
	for i, p := range starts(t) {
		if i%4 != 3 {
			continue
		}
		for _, m := range l {
			c := p.copy()
			c.Hear(m)
			for _, n := range l {
				c.copy().Hear(n)
			}
		}
	}
}

// odd returns a message that fits a replica more or less.
func odd(next func(n int) int, m *model) api.Msg {
	near := func(n int) int { return n + next(4) - next(4) }
	x := api.Msg{Kind: next(4), From: 1 + next(2), Term: m.term, Index: near(len(m.log)), Commit: near(m.commit), Yes: next(3) > 0}
	switch next(12) {
	case 0:
		x.Term += next(3) - 1
	case 1:
		x.From, x.To = next(4)-1, next(4)-1
	case 2:
		x.Kind = next(6) - 1
	case 3:
		x.Index = next(4003) - 1
	}
	if x.Index > 0 && x.Index <= len(m.log) {
		x.Prev = m.termOf(x.Index)
	}
	if next(5) == 0 {
		x.Prev = near(x.Prev)
	}
	term := max(1, x.Prev)
	for range next(11) - 2 {
		if next(8) == 0 {
			term++
		}
		x.Recs = append(x.Recs, api.Rec{Term: min(term, x.Term+next(20)/19), Data: string(rune('a' + next(26)))})
	}
	return x
}

// P8.2 to P8.4: long sequences of calls against the chapter's definitions.
func TestLongSequences(t *testing.T) {
	var seen [3]int
	var kinds [api.MgKinds]int
	for seed := range 150 {
		next := numbers(uint64(seed))
		h := api.Hard{Vote: -1}
		if seed%10 == 9 {
			h.Term = replica.MaxTerm - 20
		}
		p := newPair(t, 0, h, nil)
		for range 400 {
			seen[p.r.Role()]++
			switch k := next(20); {
			case k == 0:
				p.Tick()
			case k == 1 && p.r.Role() == replica.Ask:
				p.Hear(api.Msg{Kind: api.MgVoted, From: 1 + next(2), Term: p.m.term, Yes: true})
			case k < 6:
				p.Propose(string(rune('A' + next(26))))
			case k == 6:
				p = p.copy()
			default:
				for _, m := range p.Hear(odd(next, p.m)).Send {
					kinds[m.Kind]++
				}
			}
		}
	}
	for role, n := range seen {
		if n < 1000 {
			t.Errorf("only %d calls with the role %d", n, role)
		}
	}
	for _, kind := range []int{api.MgVoted, api.MgAppend, api.MgAppended} {
		if kinds[kind] < 1000 {
			t.Errorf("only %d messages of the kind %d", kinds[kind], kind)
		}
	}
}

// numbers returns a function that yields a fixed sequence of numbers.
func numbers(seed uint64) func(n int) int {
	return func(n int) int {
		seed = seed*6364136223846793005 + 1442695040888963407
		return int(seed>>33) % n
	}
}
