package value

import (
	"strings"

	"errata/api"
	"errata/wire"
)

// Bytes returns the encoding of a value.
func Bytes(v api.Value) string { return wire.Int(v.Kind) + wire.Int(v.N) + wire.Text(v.S) }

// Read reads the encoding of a value.
func Read(s string) (api.Value, bool) {
	r := wire.Open(s)
	v := take(r)
	if !r.Done() {
		return api.Value{}, false
	}
	return v, true
}

// RowBytes returns the encoding of a row.
func RowBytes(r []api.Value) string {
	var b strings.Builder
	b.WriteString(wire.Num(len(r)))
	for _, v := range r {
		b.WriteString(Bytes(v))
	}
	return b.String()
}

// ReadRow reads the encoding of a row.
func ReadRow(s string) ([]api.Value, bool) {
	r := wire.Open(s)
	var row []api.Value
	for range r.Num() {
		// The number may be far more than the values that follow it.
		if r.Left() == 0 {
			return nil, false
		}
		row = append(row, take(r))
	}
	if !r.Done() {
		return nil, false
	}
	return row, true
}

// take reads the encoding of a value; the reader fails if there is none.
func take(r *wire.Reader) api.Value {
	kind, n := r.Int(), r.Int()
	return api.Value{Kind: kind, N: n, S: r.Text()}
}
