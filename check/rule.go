package check

import (
	"chaperone/api"
	"chaperone/kind"
)

// rule is the type of a term, and as what each of its parts is used.
type rule struct {
	is   api.Type
	uses []api.Type
}

// ruleOf goes by the types of the parts, and by what the functions around them
// take. That the parts fit what they are used as is left to who asks.
func ruleOf(t api.Term, parts, takes []api.Type) (rule, bool) {
	num, truth := api.Type{Kind: api.Num}, api.Type{Kind: api.Truth}
	switch t.Kind {
	case api.Ref:
		return rule{is: takes[t.N]}, true
	case api.Lit:
		return rule{is: num}, true
	case api.Says:
		return rule{is: truth}, true
	case api.Add:
		return rule{is: num, uses: []api.Type{num, num}}, true
	case api.Less:
		return rule{is: truth, uses: []api.Type{num, num}}, true
	case api.If:
		return ruleOfIf(truth, parts[1], parts[2])
	case api.Fn:
		return rule{is: kind.To(t.T, parts[0]), uses: parts}, true
	case api.Call:
		return ruleOfCall(parts[0])
	case api.As:
		return rule{is: t.T, uses: []api.Type{t.T}}, true
	}
	return rule{}, false
}

// ruleOfIf holds both against each other: against their Join they would always fit.
func ruleOfIf(truth, then, other api.Type) (rule, bool) {
	if !kind.Fits(then, other) {
		return rule{}, false
	}
	both := kind.Join(then, other)
	return rule{is: both, uses: []api.Type{truth, both, both}}, true
}

func ruleOfCall(called api.Type) (rule, bool) {
	if called.Kind == api.Any {
		called = kind.To(api.Type{}, api.Type{})
	}
	if called.Kind != api.Fun {
		return rule{}, false
	}
	return rule{is: called.L[1], uses: []api.Type{called, called.L[0]}}, true
}
