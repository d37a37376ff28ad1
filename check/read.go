package check

import (
	"chaperone/api"
	"chaperone/kind"
)

// counter counts the terms as one reads them.
type counter struct{ next int }

func (c *counter) count() int {
	n := c.next
	c.next++
	return n
}

// reading is what came of a term: which one it is, the term with its casts, its type.
type reading struct {
	n    int
	term api.Term
	is   api.Type
}

// read goes through a good term; takes is what the functions around it take,
// the innermost one first. It says no of a term that has no type.
func (c *counter) read(t api.Term, takes []api.Type) (reading, bool) {
	n := c.count()
	if t.Kind == api.Fn {
		takes = ahead(t.T, takes)
	}
	parts, typed := c.readAll(t.L, takes)
	if !typed {
		return reading{}, false
	}
	rule, found := ruleOf(t, typesOf(parts), takes)
	if !found || !allFit(parts, rule.uses) {
		return reading{}, false
	}
	with := api.Term{Kind: t.Kind, N: t.N, T: fresh(t.T), L: castAll(parts, rule.uses)}
	return reading{n: n, term: with, is: rule.is}, true
}

func (c *counter) readAll(list []api.Term, takes []api.Type) ([]reading, bool) {
	var parts []reading
	for _, t := range list {
		part, typed := c.read(t, takes)
		if !typed {
			return nil, false
		}
		parts = append(parts, part)
	}
	return parts, true
}

// ahead makes a new list: the one that it was is still that of the terms beside the function.
func ahead(first api.Type, rest []api.Type) []api.Type {
	return append([]api.Type{first}, rest...)
}

func typesOf(parts []reading) []api.Type {
	types := make([]api.Type, len(parts))
	for i, part := range parts {
		types[i] = part.is
	}
	return types
}

func allFit(parts []reading, uses []api.Type) bool {
	for i, part := range parts {
		if !kind.Fits(part.is, uses[i]) {
			return false
		}
	}
	return true
}

func castAll(parts []reading, uses []api.Type) []api.Term {
	list := make([]api.Term, len(parts))
	for i, part := range parts {
		list[i] = cast(part, uses[i])
	}
	return list
}

func cast(part reading, use api.Type) api.Term {
	if kind.Same(part.is, use) {
		return part.term
	}
	return api.Term{Kind: api.Cast, N: part.n, T: fresh(use), From: fresh(part.is), L: []api.Term{part.term}}
}
