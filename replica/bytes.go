package replica

import (
	"strings"

	"errata/api"
	"errata/wire"
)

// Bytes returns the encoding of a message.
func Bytes(m api.Msg) string {
	yes := 0
	if m.Yes {
		yes = 1
	}
	var b strings.Builder
	for _, n := range [...]int{m.Kind, m.From, m.To, m.Term, m.Index, m.Prev, m.Commit, yes} {
		b.WriteString(wire.Int(n))
	}
	b.WriteString(wire.Num(len(m.Recs)))
	for _, x := range m.Recs {
		b.WriteString(RecBytes(x))
	}
	return b.String()
}

// Read decodes a message.
func Read(s string) (api.Msg, bool) {
	r := wire.Open(s)
	m := api.Msg{Kind: r.Int(), From: r.Int(), To: r.Int(), Term: r.Int(), Index: r.Int(), Prev: r.Int(), Commit: r.Int()}
	yes, count := r.Int(), r.Num()
	m.Yes = yes == 1
	// What follows counts, not the number of entries, which may be far more than that.
	for r.Left() > 0 {
		m.Recs = append(m.Recs, readRec(r))
	}
	if !r.Done() || !within(yes, 0, 1) || len(m.Recs) != count {
		return api.Msg{}, false
	}
	return m, true
}

// RecBytes returns the encoding of an entry.
func RecBytes(x api.Rec) string { return wire.Int(x.Term) + wire.Text(x.Data) }

// ReadRec decodes an entry.
func ReadRec(s string) (api.Rec, bool) {
	r := wire.Open(s)
	x := readRec(r)
	if !r.Done() {
		return api.Rec{}, false
	}
	return x, true
}

// readRec reads an entry.
func readRec(r *wire.Reader) api.Rec {
	return api.Rec{Term: r.Int(), Data: r.Text()}
}
