package run

import "chaperone/api"

// Kinds of values.
const (
	number    = 1
	truth     = 2
	function  = 3 // a Fn, and where it stands
	chaperone = 4 // a function that was cast
	known     = 5 // something under Any
)

// value is what a term comes to. Its kind says which of the rest mean something.
type value struct {
	kind   int
	n      int       // of a number or a truth
	body   *api.Term // of a function: what is in it
	scope  *scope    // of a function: what those around it were given
	in     *value    // of a chaperone: the function that it goes with; under Any: what it is
	given  *cast     // of a chaperone: of what it is given
	answer *cast     // of a chaperone: of what comes of it
	as     int       // under Any: the kind of the type as of which it is known
}

// scope is what a function was given, and the scope of the function around it.
type scope struct {
	given  *value
	around *scope
}

// find is what the n-th function from within was given, or nil if there are not so many.
func (s *scope) find(n int) *value {
	for s != nil && n > 0 {
		s = s.around
		n--
	}
	if s == nil {
		return nil
	}
	return s.given
}

// told is the outcome of a run that came to a value.
func told(v *value) api.Outcome {
	if v.kind == known {
		v = v.in
	}
	switch v.kind {
	case number:
		return api.Outcome{Kind: api.IsNum, N: v.n}
	case truth:
		return api.Outcome{Kind: api.IsTruth, N: v.n}
	}
	return api.Outcome{Kind: api.IsFun}
}
