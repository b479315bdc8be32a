package replica

import (
	"slices"

	"errata/api"
)

// handle handles a right message, whose term is not greater than the own one any more.
func (r *Replica) handle(m api.Msg) api.Out {
	switch m.Kind {
	case api.MgVote:
		return r.vote(m)
	case api.MgVoted:
		return r.count(m)
	case api.MgAppend:
		return r.take(m)
	}
	return r.note(m)
}

// vote answers a replica that asks for the vote.
func (r *Replica) vote(m api.Msg) api.Out {
	a := r.message(api.MgVoted, m.From)
	a.Yes = m.Term == r.hard.Term && (r.hard.Vote == nobody || r.hard.Vote == m.From) && r.reaches(m.Prev, m.Index)
	if a.Yes {
		r.hard.Vote = m.From
	}
	return api.Out{Send: []api.Msg{a}}
}

// reaches reports whether a log whose last entry has a term and a number is not behind the own one.
func (r *Replica) reaches(term, number int) bool {
	last := len(r.log)
	if own := r.termOf(last); term != own {
		return term > own
	}
	return number >= last
}

// count counts a vote.
func (r *Replica) count(m api.Msg) api.Out {
	if r.role != Ask || m.Term != r.hard.Term || !m.Yes {
		return api.Out{}
	}
	// With the own vote, the first one of another is a majority, so that no votes need to be kept.
	r.role = Lead
	for i := range r.next {
		r.next[i], r.match[i] = len(r.log)+1, 0
	}
	return api.Out{Send: r.toOthers(r.entries)}
}

// take takes the entries of a leader.
func (r *Replica) take(m api.Msg) api.Out {
	switch {
	case m.Term < r.hard.Term:
		return r.answer(m.From, false, 0)
	case r.role == Lead:
		return api.Out{}
	}
	r.role = Follow
	if !r.has(m.Index, m.Prev) {
		return r.answer(m.From, false, min(len(r.log), m.Index-1))
	}
	end := m.Index + len(m.Recs)
	o := r.answer(m.From, true, end)
	if known := r.known(m); known < len(m.Recs) {
		from, recs := m.Index+known+1, m.Recs[known:]
		if from <= r.commit {
			return api.Out{}
		}
		r.log = append(r.log[:from-1], recs...)
		o.From, o.Recs = from, slices.Clone(recs)
	}
	r.commit = max(r.commit, min(m.Commit, end))
	return o
}

// known returns how many of the entries of a message, from the first one on, the log has.
func (r *Replica) known(m api.Msg) int {
	for i, x := range m.Recs {
		if !r.has(m.Index+1+i, x.Term) {
			return i
		}
	}
	return len(m.Recs)
}

// note notes how far the log of another replica is equal, and sends what it needs next.
func (r *Replica) note(m api.Msg) api.Out {
	last := len(r.log)
	if r.role != Lead || m.Term != r.hard.Term || m.Yes && m.Index > last {
		return api.Out{}
	}
	next, match := &r.next[m.From], &r.match[m.From]
	if !m.Yes {
		*next = max(*match+1, min(*next-1, m.Index+1))
		return api.Out{Send: []api.Msg{r.entries(m.From)}}
	}
	*match = max(*match, m.Index)
	*next = *match + 1
	r.advance()
	if *next > last {
		return api.Out{}
	}
	return api.Out{Send: []api.Msg{r.entries(m.From)}}
}

// advance commits what another replica has, too (the own match stays 0). An entry of an older term is not enough: a log without it could still win an election.
func (r *Replica) advance() {
	if n := slices.Max(r.match[:]); n > r.commit && r.termOf(n) == r.hard.Term {
		r.commit = n
	}
}
