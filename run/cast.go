package run

import (
	"chaperone/api"
	"chaperone/kind"
)

// cast is what is done to a value, by one cast or by several, one after the other;
// nil does nothing. Several are made one, so that a function never goes with more
// than one chaperone: within MaxFuel calls there might be millions about one another.
type cast struct {
	opens  bool        // it comes from Any
	wrong  api.Outcome // how the run ends if it opens what is known as of another kind
	kind   int         // of the type as of which it is looked at
	ends   api.Outcome // how the run ends here; of the kind 0, if it goes on
	given  *cast       // of a function: of what it is given
	answer *cast       // of a function: of what comes of it
	hides  bool        // it goes to Any
}

// newCast is from a type to another one; blame is how the run ends if the value does not fit.
func newCast(from, to api.Type, blame api.Outcome) *cast {
	switch {
	case kind.Same(from, to):
		return nil
	case from.Kind == api.Fun && to.Kind == api.Fun:
		return &cast{
			kind:   api.Fun,
			given:  newCast(to.L[0], from.L[0], turned(blame)),
			answer: newCast(from.L[1], to.L[1], blame),
		}
	case to.Kind == api.Any:
		c := notNil(newCast(from, kind.Ground(from), blame), from.Kind)
		c.hides = true
		return c
	case from.Kind == api.Any:
		c := notNil(newCast(kind.Ground(to), to, blame), to.Kind)
		c.opens, c.wrong = true, blame
		return c
	}
	return &cast{kind: from.Kind, ends: api.Outcome{Kind: api.Stuck}}
}

// turned is for what goes the other way: what a chaperone is given comes from who uses it.
func turned(blame api.Outcome) api.Outcome {
	blame.Back = !blame.Back
	return blame
}

func notNil(c *cast, what int) *cast {
	if c == nil {
		return &cast{kind: what}
	}
	return c
}

// then is one cast that does what both do, this one first.
func (c *cast) then(next *cast) *cast {
	if c == nil {
		return next
	}
	if next == nil || c.ends.Kind != 0 {
		return c
	}
	both := &cast{opens: c.opens, wrong: c.wrong, kind: c.kind}
	if next.kind != c.kind {
		// What this one hides the next one opens, as of a kind that it is not.
		both.ends = next.wrong
		return both
	}
	both.ends, both.hides = next.ends, next.hides
	both.given = next.given.then(c.given)
	both.answer = c.answer.then(next.answer)
	return both
}

// of is a value after a cast at which the run goes on.
func (c *cast) of(v *value) *value {
	if c.opens {
		v = v.in
	}
	if c.given != nil || c.answer != nil {
		v = accompanied(v, c)
	}
	if c.hides {
		v = &value{kind: known, in: v, as: c.kind}
	}
	return v
}

func accompanied(f *value, c *cast) *value {
	if f.kind != chaperone {
		return &value{kind: chaperone, in: f, given: c.given, answer: c.answer}
	}
	return &value{kind: chaperone, in: f.in, given: c.given.then(f.given), answer: f.answer.then(c.answer)}
}
