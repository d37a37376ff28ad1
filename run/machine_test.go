package run

import (
	"testing"

	"chaperone/api"
)

// These terms are none that Check answers: the machine has an answer for them, too.

var (
	anyType   = api.Type{}
	numType   = api.Type{Kind: api.Num}
	truthType = api.Type{Kind: api.Truth}
	funType   = funOf(anyType, anyType)

	one      = api.Term{Kind: api.Lit, N: 1}
	yes      = api.Term{Kind: api.Says, N: 1}
	identity = termOf(api.Fn, api.Term{Kind: api.Ref})
)

func funOf(a, b api.Type) api.Type { return api.Type{Kind: api.Fun, L: []api.Type{a, b}} }

func termOf(kind int, parts ...api.Term) api.Term { return api.Term{Kind: kind, L: parts} }

func castOf(from, to api.Type, part api.Term) api.Term {
	return api.Term{Kind: api.Cast, N: 7, From: from, T: to, L: []api.Term{part}}
}

func outcomeOf(t *testing.T, x api.Term) api.Outcome {
	t.Helper()
	o, e := outcome(x, 9)
	if e != api.OK {
		t.Errorf("%v: %d", x, e)
	}
	return o
}

func expectStuck(t *testing.T, all []api.Term) {
	t.Helper()
	for _, x := range all {
		if o := outcomeOf(t, x); o != (api.Outcome{Kind: api.Stuck}) {
			t.Errorf("%v: %+v", x, o)
		}
	}
}

// P4.3
func TestKnownUnderAnyIsNone(t *testing.T) {
	hidden := castOf(numType, anyType, one)
	said := castOf(truthType, anyType, yes)
	deed := castOf(funType, anyType, identity)
	expectStuck(t, []api.Term{
		termOf(api.Add, hidden, one), termOf(api.Add, one, hidden), termOf(api.Less, hidden, one), termOf(api.Less, one, hidden),
		termOf(api.If, said, one, one), termOf(api.Call, deed, one),
	})
	if o := outcomeOf(t, termOf(api.Call, identity, hidden)); o != (api.Outcome{Kind: api.IsNum, N: 1}) {
		t.Errorf("%+v", o)
	}
}

// P4.3
func TestRefThatMeansNothing(t *testing.T) {
	far := api.Term{Kind: api.Ref, N: 1}
	expectStuck(t, []api.Term{
		{Kind: api.Ref}, far, {Kind: api.Ref, N: 1 << 40},
		termOf(api.Add, one, api.Term{Kind: api.Ref}), termOf(api.Call, termOf(api.Fn, far), one),
	})
}

// P4.4
func TestCastsOfNoUse(t *testing.T) {
	expectStuck(t, []api.Term{
		castOf(numType, truthType, one), castOf(truthType, numType, yes), castOf(numType, funType, one), castOf(funType, truthType, identity),
		castOf(anyType, numType, one), castOf(anyType, funType, identity), castOf(anyType, truthType, yes),
		termOf(api.Call, castOf(funOf(anyType, numType), funOf(anyType, truthType), termOf(api.Fn, one)), one),
		termOf(api.Call, castOf(funOf(anyType, numType), funOf(anyType, anyType), one), one),
	})
	for _, is := range []api.Type{anyType, numType, truthType, funOf(numType, truthType)} {
		if o := outcomeOf(t, castOf(is, is, one)); o != (api.Outcome{Kind: api.IsNum, N: 1}) {
			t.Errorf("%v: %+v", is, o)
		}
	}
}

// P4.4: the term's number goes into the blame as it is, and at a term it is not Back.
func TestBlameNamesTheTerm(t *testing.T) {
	for _, n := range []int{0, 1, 39, -5, 1 << 40} {
		x := castOf(anyType, truthType, castOf(numType, anyType, one))
		x.N = n
		if o := outcomeOf(t, x); o != (api.Outcome{Kind: api.Blame, N: n}) {
			t.Errorf("%d: %+v", n, o)
		}
	}
}
