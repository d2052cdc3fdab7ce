// Package signs reads and writes what the texts of rules and of facts have in common: words, numbers and strings; and it passes over what stands between signs (doc/01-text.md).
package signs

import (
	"strconv"
	"strings"

	"lore/api"
)

// The Kinds of an api.Term.
const (
	Variable = iota
	Number
	Name
	String
)

// The limits of terms that hold everywhere.
const (
	MaxTerms  = 8
	MaxDigits = 18
)

// Skip tells the place behind the blanks and remarks that stand at a place.
func Skip(s string, at int) int {
	for at < len(s) {
		switch s[at] {
		case ' ', '\t', '\n':
			at++
		case '%':
			at = lineEnd(s, at)
		default:
			return at
		}
	}
	return at
}

func lineEnd(s string, at int) int {
	if n := strings.IndexByte(s[at:], '\n'); n >= 0 {
		return at + n
	}
	return len(s)
}

// NameAt tells the NAME that begins at a place, and whether one does.
func NameAt(s string, at int) (string, bool) {
	word := wordAt(s, at)
	return word, word != "" && small(word[0])
}

// VariableAt tells whether a VARIABLE begins at a place.
func VariableAt(s string, at int) bool {
	word := wordAt(s, at)
	return word != "" && !small(word[0])
}

// IsName tells whether a text is a NAME, whole.
func IsName(s string) bool {
	name, ok := NameAt(s, 0)
	return ok && name == s
}

// Term reads the term at a place, of an atom that has so many ahead of it. It tells the place behind the term; beside an error it is the error's place.
func Term(s string, at int, ahead int) (api.Term, int, api.Errno) {
	t, end, e := termAt(s, at)
	// What is wrong at the term's first byte is named ahead of ErrMany; what is wrong further right comes behind it.
	if ahead >= MaxTerms && (e == api.OK || end > at) {
		return api.Term{}, at, api.ErrMany
	}
	return t, end, e
}

// Plain writes a term in the plain form (A3).
func Plain(t api.Term) string {
	switch t.Kind {
	case Number:
		return strconv.Itoa(t.Num)
	case String:
		return quote(t.Text)
	}
	return t.Text
}

func termAt(s string, at int) (api.Term, int, api.Errno) {
	if word := wordAt(s, at); word != "" {
		return wordTerm(word), at + len(word), api.OK
	}
	if at < len(s) && s[at] == '"' {
		return stringAt(s, at)
	}
	return numberAt(s, at)
}

func wordTerm(word string) api.Term {
	if small(word[0]) {
		return api.Term{Kind: Name, Text: word}
	}
	return api.Term{Kind: Variable, Text: word}
}

func wordAt(s string, at int) string {
	if at == len(s) || !letter(s[at]) {
		return ""
	}
	end := at
	for end < len(s) && (letter(s[end]) || digit(s[end]) || s[end] == '_') {
		end++
	}
	return s[at:end]
}

func numberAt(s string, at int) (api.Term, int, api.Errno) {
	first := at
	if first < len(s) && s[first] == '-' {
		first++
	}
	end := first
	for end < len(s) && digit(s[end]) {
		end++
	}
	if end == first {
		return api.Term{}, at, api.ErrForm
	}
	if end-first > MaxDigits {
		return api.Term{}, at, api.ErrRange
	}
	n, _ := strconv.Atoi(s[at:end]) // 18 digits fit an int
	return api.Term{Kind: Number, Num: n}, end, api.OK
}

func stringAt(s string, at int) (api.Term, int, api.Errno) {
	var stands strings.Builder
	for i := at + 1; i < len(s); i++ {
		switch c := s[i]; c {
		case '"':
			return api.Term{Kind: String, Text: stands.String()}, i + 1, api.OK
		case '\n':
			return api.Term{}, i, api.ErrForm
		case '\\':
			i++
			meant, ok := escaped(s, i)
			if !ok {
				return api.Term{}, i, api.ErrForm
			}
			stands.WriteByte(meant)
		default:
			stands.WriteByte(c)
		}
	}
	return api.Term{}, len(s), api.ErrForm
}

// escaped tells what the byte behind a backslash stands for, and whether it may stand there.
func escaped(s string, at int) (byte, bool) {
	if at == len(s) {
		return 0, false
	}
	switch c := s[at]; c {
	case '"', '\\':
		return c, true
	case 'n':
		return '\n', true
	}
	return 0, false
}

func quote(text string) string {
	var b strings.Builder
	b.WriteByte('"')
	for i := range len(text) {
		switch c := text[i]; c {
		case '"', '\\':
			b.WriteByte('\\')
			b.WriteByte(c)
		case '\n':
			b.WriteString(`\n`)
		default:
			b.WriteByte(c)
		}
	}
	b.WriteByte('"')
	return b.String()
}

func small(c byte) bool { return 'a' <= c && c <= 'z' }

func letter(c byte) bool { return small(c) || 'A' <= c && c <= 'Z' }

func digit(c byte) bool { return '0' <= c && c <= '9' }
