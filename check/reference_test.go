package check

import (
	"regexp"
	"sort"
	"strings"
	"testing"

	"lore/api"
)

// What D1 to D3 say, taken word by word, for programs in the plain form without strings: held against Check for all programs of three sentences out of these.
var pool = []string{
	"p.", "p(1).", "p(X).", "q(p) :- X=p, r(X).", "p :- q(X), !r(X).", "p :- !q(1), r(p).", "q(X) :- r(X), X!=q.", "q(X) :- !r(X).",
	"r(X) :- q(X).", "r(1) :- !p.", "r(2) :- p.", "q(1) :- !s.", "s :- p, !t.", "t :- s.", "p :- t, q(1,2).", "s :- Y<1, q(Y), !q(Z).",
	"?- !p.", "?- q(X), !r(X).", "?- q(1,2).", "?- r(X), X<Y.", "?- !u(X), r(1).", "?- !s, !t, p.",
}

type word struct {
	text  string
	place int
}

// spoken is a literal or a head as the reference sees it.
type spoken struct {
	atom  bool
	not   bool
	name  string
	terms int
	place int
	vars  []word
}

var (
	atomForm     = regexp.MustCompile(`^!?[a-z]\w*(\(.*\))?$`)
	variableForm = regexp.MustCompile(`\b[A-Z]\w*`)
)

func speak(s string, at int) spoken {
	l := spoken{atom: atomForm.MatchString(s), not: s[0] == '!', place: at}
	if l.atom {
		name, terms, inside := strings.Cut(strings.TrimPrefix(s, "!"), "(")
		l.name = name
		if inside {
			l.terms = strings.Count(terms, ",") + 1
		}
	}
	for _, v := range variableForm.FindAllStringIndex(s, -1) {
		l.vars = append(l.vars, word{s[v[0]:v[1]], at + v[0]})
	}
	return l
}

// stated is a sentence: its head, if it has one, and its body.
type stated struct {
	head []spoken
	body []spoken
}

func state(s string, at int) stated {
	var x stated
	end := at + len(s) - 1 // the dot
	s = s[:len(s)-1]
	if strings.HasPrefix(s, "?- ") {
		s = s[3:]
	} else {
		head, body, _ := strings.Cut(s, " :- ")
		x.head = append(x.head, speak(head, at))
		s = body
	}
	if s == "" {
		return x
	}
	at = end - len(s)
	for _, l := range strings.Split(s, ", ") {
		x.body = append(x.body, speak(l, at))
		at += len(l) + 2
	}
	return x
}

func refer(program []stated) (levels []api.Level, e api.Errno, place int) {
	if places := otherNumbers(program); len(places) > 0 {
		return nil, api.ErrArity, places[0]
	}
	if places := unboundVariables(program); len(places) > 0 {
		return nil, api.ErrSafe, places[0]
	}
	if places := ringPlaces(program); len(places) > 0 {
		return nil, api.ErrRing, places[0]
	}
	return leastLevels(program), api.OK, 0
}

func allAtoms(program []stated) (l []spoken) {
	for _, x := range program {
		for _, a := range append(append([]spoken{}, x.head...), x.body...) {
			if a.atom {
				l = append(l, a)
			}
		}
	}
	return l
}

func otherNumbers(program []stated) (places []int) {
	l := allAtoms(program)
	for i, a := range l {
		for _, b := range l[:i] {
			if a.name == b.name && a.terms != b.terms {
				at := a.place
				if a.not {
					at++
				}
				places = append(places, at)
				break
			}
		}
	}
	return places
}

func unboundVariables(program []stated) (places []int) {
	for _, x := range program {
		bound := map[string]bool{}
		for _, a := range x.body {
			for _, v := range a.vars {
				bound[v.text] = bound[v.text] || a.atom && !a.not
			}
		}
		for _, a := range append(append([]spoken{}, x.head...), x.body...) {
			for _, v := range a.vars {
				if !bound[v.text] {
					places = append(places, v.place)
				}
			}
		}
	}
	return places
}

// farthest tells for each two Names the most `!` on a way from one to the other along heads and bodies, in at most so many steps as there are Names; -1, if there is no way.
func farthest(program []stated) map[[2]string]int {
	names := map[string]bool{}
	far := map[[2]string]int{}
	for _, a := range allAtoms(program) {
		names[a.name] = true
	}
	for a := range names {
		for b := range names {
			far[[2]string{a, b}] = -1
		}
		far[[2]string{a, a}] = 0
	}
	for range names {
		for _, x := range program {
			for _, a := range x.body {
				if len(x.head) == 0 || !a.atom {
					continue
				}
				more := 0
				if a.not {
					more = 1
				}
				for b := range names {
					if n := far[[2]string{a.name, b}]; n >= 0 {
						to := [2]string{x.head[0].name, b}
						far[to] = max(far[to], n+more)
					}
				}
			}
		}
	}
	return far
}

func ringPlaces(program []stated) (places []int) {
	far := farthest(program)
	for _, x := range program {
		for _, a := range x.body {
			if a.not && len(x.head) > 0 && far[[2]string{a.name, x.head[0].name}] >= 0 {
				places = append(places, a.place)
			}
		}
	}
	return places
}

func leastLevels(program []stated) (l []api.Level) {
	far := farthest(program)
	byName := map[string]api.Level{}
	for _, a := range allAtoms(program) {
		byName[a.name] = api.Level{Name: a.name, Terms: a.terms}
	}
	for _, level := range byName {
		for b := range byName {
			level.Level = max(level.Level, far[[2]string{level.Name, b}])
		}
		l = append(l, level)
	}
	sort.Slice(l, func(i, j int) bool { return l[i].Name < l[j].Name })
	return l
}

func TestAgainstReference(t *testing.T) {
	seen := map[api.Errno]int{}
	for _, a := range pool {
		for _, b := range pool {
			for _, c := range pool {
				s := a + "\n" + b + " " + c
				l, e, place := Check(s)
				program := []stated{state(a, 0), state(b, len(a)+1), state(c, len(a)+len(b)+2)}
				levels, wantE, at := refer(program)
				if shown(l) != shown(levels) || e != wantE || place != at {
					t.Fatalf("D1 to D3: Check(%q) = %s, %d, %d, want %s, %d, %d", s, shown(l), e, place, shown(levels), wantE, at)
				}
				seen[e]++
			}
		}
	}
	for _, e := range []api.Errno{api.OK, api.ErrArity, api.ErrSafe, api.ErrRing} {
		if seen[e] < 100 {
			t.Errorf("too few programs that are answered %d: %d", e, seen[e])
		}
	}
}
