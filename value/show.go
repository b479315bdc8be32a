package value

import (
	"strings"

	"errata/api"
	"errata/text"
)

// Show returns the text of a value.
func Show(v api.Value) string {
	switch {
	case !Right(v):
		return ""
	case v.Kind == api.VInt:
		return text.Decimal(v.N)
	case v.Kind == api.VText:
		return text.Quote(v.S)
	case v == Bool(true):
		return "true"
	}
	return "false"
}

// Parse reads the text of a value.
func Parse(s string) (api.Value, bool) {
	switch s {
	case "true":
		return Bool(true), true
	case "false":
		return Bool(false), true
	}
	if n, ok := text.Int(s); ok {
		return Int(n), true
	}
	if t, ok := text.Unquote(s); ok && Right(Text(t)) {
		return Text(t), true
	}
	return api.Value{}, false
}

// ShowRow returns the text of a row.
func ShowRow(r []api.Value) string {
	texts := make([]string, len(r))
	for i, v := range r {
		if !Right(v) {
			return ""
		}
		texts[i] = Show(v)
	}
	return "(" + strings.Join(texts, ", ") + ")"
}

// ParseRow reads the text of a row.
func ParseRow(s string) ([]api.Value, bool) {
	rest, opened := strings.CutPrefix(s, "(")
	rest, closed := strings.CutSuffix(rest, ")")
	if !opened || !closed {
		return nil, false
	}
	var row []api.Value
	next := func(before string) bool {
		after, found := strings.CutPrefix(rest, before)
		n := extent(after)
		v, ok := Parse(after[:n])
		if !found || !ok {
			return false
		}
		row, rest = append(row, v), after[n:]
		return true
	}
	for before := ""; rest != ""; before = ", " {
		if !next(before) {
			return nil, false
		}
	}
	return row, true
}

// extent returns how many of the first bytes of a string can be the text of a
// value: up to the quotation mark that ends a quoted string, or up to a comma.
func extent(s string) int {
	if !strings.HasPrefix(s, `"`) {
		before, _, _ := strings.Cut(s, ",")
		return len(before)
	}
	for i := 1; i < len(s); i++ {
		switch s[i] {
		case '\\':
			i++ // the byte after a backslash ends nothing
		case '"':
			return i + 1
		}
	}
	return len(s)
}
