package run

import "chaperone/api"

func (m *machine) step(t task) {
	switch t.do {
	case look:
		m.look(t.term, t.scope)
	case sum:
		m.sum()
	case compare:
		m.compare()
	case choose:
		m.choose(t.term, t.scope)
	case call:
		m.call()
	case change:
		m.change(t.by)
	}
}

func (m *machine) look(t *api.Term, s *scope) {
	switch t.Kind {
	case api.Ref:
		m.refer(s.find(t.N))
	case api.Lit:
		m.keep(&value{kind: number, n: t.N})
	case api.Says:
		m.keep(&value{kind: truth, n: t.N})
	case api.Fn:
		m.keep(&value{kind: function, body: &t.L[0], scope: s})
	case api.As:
		m.plan(task{do: look, term: &t.L[0], scope: s})
	case api.Cast:
		m.plan(task{do: change, by: newCast(t.From, t.T, api.Outcome{Kind: api.Blame, N: t.N})})
		m.plan(task{do: look, term: &t.L[0], scope: s})
	case api.If:
		m.plan(task{do: choose, term: t, scope: s})
		m.plan(task{do: look, term: &t.L[0], scope: s})
	case api.Add:
		m.lookAtBoth(t, s, sum)
	case api.Less:
		m.lookAtBoth(t, s, compare)
	case api.Call:
		m.lookAtBoth(t, s, call)
	}
}

// lookAtBoth plans what is done first last, since the last task is the next one.
func (m *machine) lookAtBoth(t *api.Term, s *scope, then int) {
	m.plan(task{do: then})
	m.plan(task{do: look, term: &t.L[1], scope: s})
	m.plan(task{do: look, term: &t.L[0], scope: s})
}

func (m *machine) refer(v *value) {
	if v == nil {
		m.stick()
		return
	}
	m.keep(v)
}

// takeNumbers ends the run if the last two values are not both numbers.
func (m *machine) takeNumbers() (int, int) {
	second, first := m.take(), m.take()
	if first.kind != number || second.kind != number {
		m.stick()
	}
	return first.n, second.n
}

func (m *machine) sum() {
	a, b := m.takeNumbers()
	m.keep(&value{kind: number, n: max(-api.MaxNumber, min(a+b, api.MaxNumber))})
}

func (m *machine) compare() {
	a, b := m.takeNumbers()
	is := &value{kind: truth}
	if a < b {
		is.n = 1
	}
	m.keep(is)
}

func (m *machine) choose(t *api.Term, s *scope) {
	which := m.take()
	if which.kind != truth {
		m.stick()
		return
	}
	part := &t.L[2]
	if which.n == 1 {
		part = &t.L[1]
	}
	m.plan(task{do: look, term: part, scope: s})
}

func (m *machine) call() {
	given, f := m.take(), m.take()
	switch f.kind {
	case function:
		m.enter(f, given)
	case chaperone:
		m.accompany(f, given)
	default:
		m.stick()
	}
}

func (m *machine) enter(f, given *value) {
	if m.calls == m.fuel {
		m.end(api.Outcome{Kind: api.Fuel})
		return
	}
	m.calls++
	m.plan(task{do: look, term: f.body, scope: &scope{given: given, around: f.scope}})
}

// accompany is no call of its own: the function that the chaperone goes with is called, once.
func (m *machine) accompany(f, given *value) {
	m.keep(f.in)
	m.keep(given)
	m.plan(task{do: change, by: f.answer})
	m.plan(task{do: call})
	m.plan(task{do: change, by: f.given})
}

func (m *machine) change(c *cast) {
	v := m.take()
	switch {
	case c == nil:
		m.keep(v)
	case c.opens && v.kind != known:
		m.stick()
	case c.opens && v.as != c.kind:
		m.end(c.wrong)
	case c.ends.Kind != 0:
		m.end(c.ends)
	default:
		m.keep(c.of(v))
	}
}
