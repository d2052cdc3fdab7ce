package fit

import (
	"testing"

	"lore/api"
)

func TestLook(t *testing.T) {
	one := api.Term{Kind: 1, Num: 1}
	terms := Of([]api.Level{{Name: "p", Terms: 1}, {Name: "q", Terms: 0, Level: 2}})
	for _, c := range []struct {
		a    api.Atom
		want api.Errno
	}{
		{api.Atom{Name: "p", Terms: []api.Term{one}}, api.OK},
		{api.Atom{Name: "q"}, api.OK},
		{api.Atom{Name: "other"}, api.OK},
		{api.Atom{Name: "other", Terms: []api.Term{one, one}}, api.OK},
		{api.Atom{Name: "p"}, api.ErrArity},
		{api.Atom{Name: "p", Terms: []api.Term{one, one}}, api.ErrArity},
		{api.Atom{Name: "q", Terms: []api.Term{one, one}}, api.ErrArity},
		{api.Atom{}, api.ErrFact},
		{api.Atom{Name: "p", Terms: []api.Term{{Text: "X"}}}, api.ErrFact},
		{api.Atom{Name: "p", Terms: []api.Term{one, {Text: "X"}}}, api.ErrFact},
		{api.Atom{Name: "Other"}, api.ErrFact},
	} {
		if e := terms.Look(c.a); e != c.want {
			t.Errorf("E1: %v: %d, want %d", c.a, e, c.want)
		}
	}
	if e := Of(nil).Look(api.Atom{Name: "p"}); e != api.OK {
		t.Errorf("E1: %d", e)
	}
}
