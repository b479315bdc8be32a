package replica

import (
	"slices"

	"errata/api"
)

// message returns a message of the replica.
func (r *Replica) message(kind, to int) api.Msg {
	return api.Msg{Kind: kind, From: r.id, To: to, Term: r.hard.Term}
}

// request returns a message that asks for a vote.
func (r *Replica) request(to int) api.Msg {
	m := r.message(api.MgVote, to)
	m.Index = len(r.log)
	m.Prev = r.termOf(m.Index)
	return m
}

// entries returns a message with the entries that another replica needs next.
func (r *Replica) entries(to int) api.Msg {
	m := r.message(api.MgAppend, to)
	m.Index = r.next[to] - 1
	m.Prev = r.termOf(m.Index)
	m.Commit = r.commit
	m.Recs = slices.Clone(r.log[m.Index:min(len(r.log), m.Index+MaxRecs)])
	return m
}

// answer returns the result with the answer to entries.
func (r *Replica) answer(to int, yes bool, index int) api.Out {
	m := r.message(api.MgAppended, to)
	m.Yes, m.Index = yes, index
	return api.Out{Send: []api.Msg{m}}
}

// toOthers returns a message to each of the others, in ascending order.
func (r *Replica) toOthers(message func(to int) api.Msg) []api.Msg {
	var l []api.Msg
	for to := range api.Replicas {
		if to != r.id {
			l = append(l, message(to))
		}
	}
	return l
}
