package producer

import (
	"strings"

	"errata/api"
	"errata/wire"
)

// Bytes returns the encoding of a table.
func Bytes(s []api.Producer) string {
	var b strings.Builder
	b.WriteString(wire.Num(len(s)))
	for _, p := range s {
		for _, n := range [...]int{p.Id, p.Epoch, p.Next} {
			b.WriteString(wire.Int(n))
		}
		b.WriteString(wire.Nums(p.Last))
	}
	return b.String()
}

// Read reads the encoding of a table.
func Read(s string) ([]api.Producer, bool) {
	r := wire.Open(s)
	count := r.Num()
	var t []api.Producer
	// What follows counts, not the number of producers, which may be far more than that.
	for r.Left() > 0 {
		t = append(t, api.Producer{Id: r.Int(), Epoch: r.Int(), Next: r.Int(), Last: r.Nums()})
	}
	if !r.Done() || len(t) != count || !Right(t) {
		return nil, false
	}
	return t, true
}
