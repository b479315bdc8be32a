package text

import "strings"

// Pattern reports whether a pattern matches a string.
func Pattern(p, s string) bool {
	rest := parts(p)
	starred := false // whether what rest matches may begin later in s
search:
	for {
		// Each part but for a star matches one byte, so that the part i of
		// rest stands against the byte i of s.
		for i, part := range rest {
			if part == "*" {
				// What stands before this star has been matched as early in s
				// as it can be, so that no other match of it leaves more of s.
				rest, s, starred = rest[i+1:], s[i:], true
				continue search
			}
			if i == len(s) {
				return false
			}
			if !matches(part, s[i]) {
				if !starred {
					return false
				}
				s = s[1:]
				continue search
			}
		}
		if len(rest) == len(s) {
			return true
		}
		if !starred {
			return false
		}
		// There is no further star: only the end of s can match.
		s = s[len(s)-len(rest):]
	}
}

// Magic reports whether a pattern has a part that matches more than one string.
func Magic(p string) bool {
	for _, part := range parts(p) {
		if part == "*" || part == "?" || isClass(part) {
			return true
		}
	}
	return false
}

// Plain returns a pattern without the backslashes that stand for the byte after them.
func Plain(p string) string {
	var b strings.Builder
	for _, part := range parts(p) {
		if len(part) == 2 {
			part = part[1:]
		}
		b.WriteString(part)
	}
	return b.String()
}

// Escape returns a pattern that matches only the string.
func Escape(s string) string {
	var b strings.Builder
	for i := range len(s) {
		switch s[i] {
		case '*', '?', '[', '\\':
			b.WriteByte('\\')
		}
		b.WriteByte(s[i])
	}
	return b.String()
}

// parts returns the parts of a pattern as they are written: a part of two bytes
// begins with a backslash, one of three or more bytes is a class.
func parts(p string) []string {
	var l []string
	for p != "" {
		n := size(p)
		l = append(l, p[:n])
		p = p[n:]
	}
	return l
}

// size returns the number of bytes of the first part of a pattern.
func size(p string) int {
	switch {
	case p[0] == '\\' && len(p) > 1:
		return 2
	case p[0] == '[':
		return classSize(p)
	}
	return 1
}

// classSize returns the number of bytes of the class with which a pattern
// begins, or 1, if its first byte matches itself alone.
func classSize(p string) int {
	if strings.HasPrefix(p, "[!") {
		if n := endAfter(p, 3); n > 0 {
			return n
		}
	}
	return max(endAfter(p, 2), 1)
}

// endAfter returns the number of bytes up to the first ] that comes after at
// least n bytes, or 0, if there is none.
func endAfter(p string, n int) int {
	if len(p) < n {
		return 0
	}
	i := strings.IndexByte(p[n:], ']')
	if i < 0 {
		return 0
	}
	return n + i + 1
}

// isClass reports whether a part is a class.
func isClass(part string) bool { return len(part) > 2 }

// matches reports whether a part that is no star matches a byte.
func matches(part string, c byte) bool {
	switch {
	case part == "?":
		return true
	case !isClass(part):
		return part[len(part)-1] == c
	// The class [!] has no byte after the ! and matches just this one.
	case part[1] == '!' && len(part) > 3:
		return !within(part[2:len(part)-1], c)
	}
	return within(part[1:len(part)-1], c)
}

// within reports whether a byte is in the set of a class.
func within(set string, c byte) bool {
	for set != "" {
		low, high, n := set[0], set[0], 1
		if len(set) > 2 && set[1] == '-' {
			high, n = set[2], 3
		}
		if low <= c && c <= high {
			return true
		}
		set = set[n:]
	}
	return false
}
