package kind

import "chaperone/api"

// levels is how many calls go within one another at once. A type may be millions
// of levels deep, and the stack has no room for so many calls: pairs that lie
// deeper are put off until these calls have answered.
const levels = 1000

// pair is two types that are gone through side by side.
type pair struct {
	a, b api.Type
	into *api.Type // where their Join belongs; nil where nothing is joined
}

// later is the pairs that were put off.
type later struct{ pairs []pair }

func (l *later) empty() bool { return len(l.pairs) == 0 }

func (l *later) put(p pair) { l.pairs = append(l.pairs, p) }

func (l *later) take() pair {
	last := len(l.pairs) - 1
	p := l.pairs[last]
	l.pairs = l.pairs[:last]
	return p
}

// relation is whether two types go together, but for the pairs that it puts off.
type relation func(a, b api.Type, room int, rest *later) bool

func holds(relate relation, a, b api.Type) bool {
	rest := later{}
	rest.put(pair{a: a, b: b})
	for !rest.empty() {
		p := rest.take()
		if !relate(p.a, p.b, levels, &rest) {
			return false
		}
	}
	return true
}

func same(a, b api.Type, room int, rest *later) bool {
	if room == 0 {
		rest.put(pair{a: a, b: b})
		return true
	}
	if !alikeAtTop(a, b) {
		return false
	}
	for i := range a.L {
		if !same(a.L[i], b.L[i], room-1, rest) {
			return false
		}
	}
	return true
}

func fits(a, b api.Type, room int, rest *later) bool {
	if room == 0 {
		rest.put(pair{a: a, b: b})
		return true
	}
	if a.Kind == api.Any || b.Kind == api.Any {
		return true
	}
	if !alikeAtTop(a, b) {
		return false
	}
	for i := range a.L {
		if !fits(a.L[i], b.L[i], room-1, rest) {
			return false
		}
	}
	return true
}

func finer(a, b api.Type, room int, rest *later) bool {
	if room == 0 {
		rest.put(pair{a: a, b: b})
		return true
	}
	if b.Kind == api.Any {
		return true
	}
	if !alikeAtTop(a, b) {
		return false
	}
	for i := range a.L {
		if !finer(a.L[i], b.L[i], room-1, rest) {
			return false
		}
	}
	return true
}

// alikeAtTop asks for as many parts, too: types that are not right may differ
// in that, and their parts are then no pairs.
func alikeAtTop(a, b api.Type) bool {
	return a.Kind == b.Kind && len(a.L) == len(b.L)
}

// join leaves what lies at p.into as it is, if the kinds are two: that is Any already.
func join(p pair, room int, rest *later) {
	if room == 0 {
		rest.put(p)
		return
	}
	if p.a.Kind != p.b.Kind {
		return
	}
	// Types that are not right may have parts without a fellow.
	parts := make([]api.Type, min(len(p.a.L), len(p.b.L)))
	for i := range parts {
		join(pair{a: p.a.L[i], b: p.b.L[i], into: &parts[i]}, room-1, rest)
	}
	*p.into = api.Type{Kind: p.a.Kind, L: parts}
}
