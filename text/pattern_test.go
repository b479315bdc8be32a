package text_test

import (
	"strings"
	"testing"

	"errata/text"
)

// A part is a part of a pattern as the chapter defines it, for the tests.
type part struct {
	kind byte   // '*', '?', '[' for a class, '!' for one that excludes its set, 0 for a byte
	set  string // the set of a class, or the byte
	lone bool   // a [ that matches itself alone
}

// first returns the first part of a pattern and what follows it.
func first(p string) (part, string) {
	switch p[0] {
	case '\\':
		if len(p) == 1 {
			return part{set: p}, ""
		}
		return part{set: p[1:2]}, p[2:]
	case '*', '?':
		return part{kind: p[0]}, p[1:]
	case '[':
		if len(p) > 3 && p[1] == '!' {
			if i := strings.Index(p[3:], "]"); i >= 0 {
				return part{kind: '!', set: p[2 : 3+i]}, p[4+i:]
			}
		}
		if len(p) > 2 {
			if i := strings.Index(p[2:], "]"); i >= 0 {
				return part{kind: '[', set: p[1 : 2+i]}, p[3+i:]
			}
		}
		return part{set: "[", lone: true}, p[1:]
	}
	return part{set: p[:1]}, p[1:]
}

// members returns the bytes for which a set stands.
func members(set string) [256]bool {
	var in [256]bool
	for set != "" {
		if len(set) >= 3 && set[1] == '-' {
			for c := int(set[0]); c <= int(set[2]); c++ {
				in[c] = true
			}
			set = set[3:]
			continue
		}
		in[set[0]] = true
		set = set[1:]
	}
	return in
}

// fits says by the definition whether a pattern matches a string.
func fits(p, s string) bool {
	if p == "" {
		return s == ""
	}
	part, rest := first(p)
	if part.kind == '*' {
		for i := range len(s) + 1 {
			if fits(rest, s[i:]) {
				return true
			}
		}
		return false
	}
	if s == "" {
		return false
	}
	ok := true
	switch part.kind {
	case '[', '!':
		ok = members(part.set)[s[0]] == (part.kind == '[')
	case 0:
		ok = part.set == s[:1]
	}
	return ok && fits(rest, s[1:])
}

// P2.4: each part matches what the chapter says.
func TestPattern(t *testing.T) {
	for _, c := range []struct {
		p, s string
		want bool
	}{
		{"", "", true}, {"", "a", false}, {"a", "", false}, {"a", "a", true}, {"a", "A", false}, {"ab", "a", false}, {"a", "ab", false},
		{"*", "", true}, {"*", "a/b.c\n", true}, {"**", "", true}, {"*a", "ba", true}, {"*a", "ab", false}, {"a*", "ab", true}, {"a*", "ba", false}, {"*a*", "bab", true}, {"*a*", "b", false},
		{"a*b*c", "abbcbc", true}, {"a*b*c", "acb", false}, {"*ab", "aab", true}, {"*aab*", "aaab", true}, {"*a?b", "aaab", true}, {"a*a", "a", false}, {"a*a", "aa", true}, {"*ab*ab", "abab", true}, {"*ab*ab", "ab", false}, {"*ab*ab", "abb", false}, {"*.txt", ".txt", true},
		{"?", "", false}, {"?", "a", true}, {"?", "\n", true}, {"?", "\x00", true}, {"?", "ab", false}, {"?", "\u00e9", false}, {"??", "\u00e9", true}, {"?*", "", false}, {"*?", "a", true}, {"?*?", "a", false}, {"?*?", "ab", true},
		{`\*`, "*", true}, {`\*`, "ab", false}, {`\?`, "?", true}, {`\?`, "a", false}, {`\[a]`, "[a]", true}, {`\[a]`, "a", false}, {`\\`, `\`, true}, {`\\`, `\\`, false}, {`\`, `\`, true}, {`\`, "", false}, {`a\`, `a\`, true}, {`a\`, "a", false}, {`\a`, "a", true}, {`\a`, `\a`, false}, {`\n`, "\n", false}, {`\\*`, `\ab`, true}, {`*\`, `a\`, true},
		{"[abc]", "b", true}, {"[abc]", "d", false}, {"[abc]", "", false}, {"[abc]", "ab", false}, {"[!abc]", "d", true}, {"[!abc]", "c", false}, {"[!abc]", "", false}, {"[!abc]", "!", true},
		{"[a-c]", "a", true}, {"[a-c]", "c", true}, {"[a-c]", "d", false}, {"[a-c]", "-", false}, {"[c-a]", "a", false}, {"[c-a]", "b", false}, {"[c-a]", "c", false}, {"[c-a]", "-", false}, {"[!c-a]", "b", true}, {"[b-b]", "b", true}, {"[b-b]", "-", false},
		{"[a-]", "-", true}, {"[a-]", "a", true}, {"[-a]", "-", true}, {"[-a]", "a", true}, {"[-]", "-", true}, {"[--a]", "A", true}, {"[--a]", "b", false}, {"[a-c-e]", "-", true}, {"[a-c-e]", "d", false}, {"[a-c-e]", "e", true}, {"[xa-cy]", "b", true}, {"[xa-cy]", "y", true}, {"[!-a]", "-", false}, {"[!-a]", "b", true}, {"[a-b-d]", "c", false}, {"[a-a-c]", "b", false},
		{"[]]", "]", true}, {"[]]", "[", false}, {"[]a]", "a", true}, {"[]a]", "]a]", false}, {"[]-a]", "^", true}, {"[!]]", "]", false}, {"[!]]", "a", true}, {"[!]]", "!", true}, {"[!]a]", "b", true}, {"[!]a]", "a", false}, {"[!!]", "!", false}, {"[!!]", "a", true},
		{"[!]", "!", true}, {"[!]", "a", false}, {"[!]", "[!]", false}, {"[]", "[]", true}, {"[]", "]", false}, {"[", "[", true}, {"[a", "[a", true}, {"[a", "a", false}, {"[!", "[!", true}, {"[!a", "[!a", true}, {"[*", "[xyz", true}, {"[?", "[x", true}, {`[\`, `[\`, true}, {`[\*`, "[*", true}, {"[[", "[[", true}, {"[[]", "[", true}, {"[[a]", "a", true}, {"[[a]", "[", true}, {"a]", "a]", true}, {"]", "]", true},
		{`[\]`, `\`, true}, {`[\]`, "]", false}, {`[\]]`, `\]`, true}, {`[\*]`, "*", true}, {`[\*]`, `\`, true}, {"[*]", "*", true}, {"[*]", "a", false}, {"[?]", "a", false}, {"[a!]", "!", true}, {"[a!]", "b", false},
		{"[\x00-\xff]", "\xff", true}, {"[\x80-\xff]", "\x7f", false}, {"[\xfe-\xff]", "\xff", true}, {"\xff", "\xff", true}, {"\u00e9", "\u00e9", true}, {"[\u00e9]", "\u00e9", false}, {"[\u00e9][\u00e9]", "\u00e9", true},
		{"a*[!x-z]?", "abcd", true}, {"a*[!x-z]?", "axyz", false}, {"*[!0-9]", "12a", true}, {"*[!0-9]", "123", false}, {"*[ab]*[cd]", "xbxd", true}, {"*[ab]*[cd]", "xdxb", false},
	} {
		if got := text.Pattern(c.p, c.s); got != c.want {
			t.Errorf("Pattern(%q, %q) = %v", c.p, c.s, got)
		}
		if fits(c.p, c.s) != c.want {
			t.Errorf("the table is wrong about Pattern(%q, %q)", c.p, c.s)
		}
	}
}

// P2.4: each byte stands for itself, but for those that begin a part of another kind.
func TestPatternBytes(t *testing.T) {
	for i := range 256 {
		p := string([]byte{byte(i)})
		for j := range 256 {
			s := string([]byte{byte(j)})
			if got, want := text.Pattern(p, s), i == j || p == "*" || p == "?"; got != want {
				t.Errorf("Pattern(%q, %q) = %v", p, s, got)
			}
			if got := text.Pattern(`\`+p, s); got != (i == j) {
				t.Errorf("Pattern(%q, %q) = %v", `\`+p, s, got)
			}
		}
	}
}

// P2.4: for all short patterns and strings the result is that of the definition.
func TestPatternExactly(t *testing.T) {
	agree := func(patterns, strings []string) {
		for _, p := range patterns {
			for _, s := range strings {
				if got, want := text.Pattern(p, s), fits(p, s); got != want {
					t.Fatalf("Pattern(%q, %q) = %v", p, s, got)
				}
			}
		}
	}
	agree(shorts(`*?[]!-\ab`, 4), shorts(`a[]!-\*`, 2))
	agree(shorts("[]!-b", 6), shorts("a[]!-b", 1))
	agree(shorts("*?ab", 6), shorts("ab", 5))
}

// P2.4: many stars do not make the search long.
func TestPatternManyStars(t *testing.T) {
	p, s := strings.Repeat("*a", 200), strings.Repeat("a", 2000)
	if !text.Pattern(p, s) || text.Pattern(p+"b", s) || !text.Pattern(p+"*", s) || text.Pattern(p+"?"+p, s[:400]) || !text.Pattern(p+p, s[:400]) {
		t.Error("many stars")
	}
}

// P2.5: only stars, question marks and classes are magic.
func TestMagic(t *testing.T) {
	for p, want := range map[string]bool{
		"": false, "abc": false, "*": true, "a*": true, "?": true, "a?b": true, "[a]": true, "a[!b]": true, "[!]": true, "[]]": true, "[!]]": true, "[-]": true,
		"[": false, "[]": false, "[a": false, "[!": false, "[!a": false, "]": false, "a]": false, "!-": false,
		`\*`: false, `\?`: false, `\[a]`: false, `\`: false, `a\`: false, `\\`: false, `\\*`: true, `\**`: true, `\\\*`: false, `[\*`: false, `[\]`: true, "[*": true, "[[]": true, "\x00\xff\n": false,
	} {
		if got := text.Magic(p); got != want {
			t.Errorf("Magic(%q) = %v", p, got)
		}
	}
}

// P2.5: Plain leaves out backslashes that stand for the byte after them, and no others.
func TestPlain(t *testing.T) {
	for p, want := range map[string]string{
		"": "", "abc": "abc", `\a`: "a", `a\b`: "ab", `\\`: `\`, `\\\\`: `\\`, `\\\`: `\\`, `\`: `\`, `a\`: `a\`, `\*\?\[`: "*?[", "*?": "*?", `\[a\]`: "[a]",
		`[\]`: `[\]`, `[\]*`: `[\]*`, `[\]\a`: `[\]a`, `[\a`: "[a", `[a\b]`: `[a\b]`, `[!\]]`: `[!\]]`, `[!\]\]`: `[!\]]`, `[]\]`: `[]\]`, "[]": "[]", "\\\n\\\xff": "\n\xff",
	} {
		if got := text.Plain(p); got != want {
			t.Errorf("Plain(%q) = %q", p, got)
		}
	}
}

// P2.5: Escape changes four bytes and no others.
func TestEscape(t *testing.T) {
	for i := range 256 {
		s := string([]byte{byte(i)})
		want := s
		if s == "*" || s == "?" || s == "[" || s == `\` {
			want = `\` + s
		}
		if got := text.Escape(s); got != want {
			t.Errorf("Escape(%q) = %q", s, got)
		}
	}
	if got := text.Escape(`a*?[]\!-` + "\n\\"); got != `a\*\?\[]\\!-`+"\n\\\\" {
		t.Errorf("%q", got)
	}
	if got := text.Escape(""); got != "" {
		t.Errorf("%q", got)
	}
}

// P2.5: for all short patterns Magic and Plain are those of the definition.
func TestPartsExactly(t *testing.T) {
	for _, p := range shorts(`*?[]!-\a`, 5) {
		magic, plain := false, ""
		for rest := p; rest != ""; {
			one, after := first(rest)
			written := rest[:len(rest)-len(after)]
			magic = magic || one.kind != 0
			if len(written) == 2 && written[0] == '\\' {
				written = written[1:]
			}
			plain, rest = plain+written, after
		}
		if got := text.Magic(p); got != magic {
			t.Fatalf("Magic(%q) = %v", p, got)
		}
		if got := text.Plain(p); got != plain {
			t.Fatalf("Plain(%q) = %q, not %q", p, got, plain)
		}
	}
}

// P2.8: a pattern without magic matches what Plain returns and nothing else.
func TestPlainMatches(t *testing.T) {
	all := shorts(`*?[]\a`, 3)
	for _, p := range all {
		if text.Magic(p) {
			continue
		}
		for _, s := range all {
			if got := text.Pattern(p, s); got != (s == text.Plain(p)) {
				t.Fatalf("Pattern(%q, %q) = %v", p, s, got)
			}
		}
	}
}

// P2.8: what Escape returns has no magic, and Plain takes it back.
func TestEscapePlain(t *testing.T) {
	for _, s := range shorts("*?[]!-\\a\n\xff", 5) {
		p := text.Escape(s)
		if text.Magic(p) || text.Plain(p) != s || !text.Pattern(p, s) {
			t.Fatalf("%q becomes %q", s, p)
		}
	}
}

// ends says whether what is written after a pattern cannot change its parts.
func ends(p string) bool {
	for rest := p; rest != ""; {
		one, after := first(rest)
		if one.lone || rest[:len(rest)-len(after)] == "[!]" {
			return false
		}
		rest = after
	}
	return !strings.HasSuffix(p, `\`)
}

// P2.9: patterns one after the other match strings one after the other.
func TestConcatenation(t *testing.T) {
	patterns, strs := shorts(`*?[]!\a`, 3), shorts(`a]!\[`, 2)
	type match struct{ p, s string }
	var before, after []match
	for _, p := range patterns {
		for _, s := range strs {
			if text.Pattern(p, s) {
				after = append(after, match{p, s})
				if ends(p) {
					before = append(before, match{p, s})
				}
			}
		}
	}
	if len(before) < 500 || len(after) <= len(before) {
		t.Fatal("too few matches:", len(before), len(after))
	}
	for _, m := range before {
		for _, n := range after {
			if !text.Pattern(m.p+n.p, m.s+n.s) {
				t.Fatalf("%q matches %q, %q matches %q, both do not match both", m.p, m.s, n.p, n.s)
			}
		}
	}
}

// P2.9: without its conditions it does not hold.
func TestConcatenationConditions(t *testing.T) {
	for _, c := range []struct{ p, s, q, t string }{
		{`\`, `\`, "*", "ab"}, {"[", "[", "a]", "a]"}, {"[!]", "!", "]", "]"},
	} {
		if !text.Pattern(c.p, c.s) || !text.Pattern(c.q, c.t) || text.Pattern(c.p+c.q, c.s+c.t) {
			t.Errorf("%q and %q", c.p, c.q)
		}
	}
}
