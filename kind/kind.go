// Package kind: types, and how they go together. See ../../shared/doc/01-kind.md.
package kind

import "chaperone/api"

// Good is whether a type is one.
func Good(t api.Type) bool { return goodWithin(t, api.MaxDeep) }

// goodWithin looks at the room before the parts, so that it ends however deep a type is.
func goodWithin(t api.Type, room int) bool {
	if room == 0 {
		return false
	}
	switch t.Kind {
	case api.Any, api.Num, api.Truth:
		return len(t.L) == 0
	case api.Fun:
		return len(t.L) == 2 && goodWithin(t.L[0], room-1) && goodWithin(t.L[1], room-1)
	}
	return false
}

// To is the type of functions.
func To(a, b api.Type) api.Type {
	return api.Type{Kind: api.Fun, L: []api.Type{a, b}}
}

// Same is whether two types are alike.
func Same(a, b api.Type) bool { return holds(same, a, b) }

// Fits is whether something of the one type may be used as of the other one.
func Fits(a, b api.Type) bool { return holds(fits, a, b) }

// Finer is whether the one says all that the other one says.
func Finer(a, b api.Type) bool { return holds(finer, a, b) }

// Join is what two types that fit both say.
func Join(a, b api.Type) api.Type {
	var whole api.Type
	rest := later{}
	rest.put(pair{a: a, b: b, into: &whole})
	for !rest.empty() {
		join(rest.take(), levels, &rest)
	}
	return whole
}

// Plain is whether a type says nothing of parts: Num, Truth, or a function of anything.
func Plain(t api.Type) bool {
	switch t.Kind {
	case api.Num, api.Truth:
		return true
	case api.Fun:
		return len(t.L) == 2 && t.L[0].Kind == api.Any && t.L[1].Kind == api.Any
	}
	return false
}

// Ground is the plain type of a type that is not Any.
func Ground(t api.Type) api.Type {
	if t.Kind == api.Fun {
		return To(api.Type{}, api.Type{})
	}
	return api.Type{Kind: t.Kind}
}

// Sure is whether Any is nowhere in a type.
func Sure(t api.Type) bool {
	// A list of what is left, not a call a part: a type may be deeper than the stack has room for.
	rest := []api.Type{t}
	for len(rest) > 0 {
		last := len(rest) - 1
		next := rest[last]
		if next.Kind == api.Any {
			return false
		}
		rest = append(rest[:last], next.L...)
	}
	return true
}
