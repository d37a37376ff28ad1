package run

import "chaperone/api"

// What is to be done.
const (
	look    = 1 // at a term, for what it comes to
	sum     = 2 // of the last two values
	compare = 3 // the last two values
	choose  = 4 // a part of a term, by the last value
	call    = 5 // the value before the last one, with the last one
	change  = 6 // the last value, by a cast
)

// task is one thing that is to be done.
type task struct {
	do    int
	term  *api.Term // of look and choose
	scope *scope    // of look and choose
	by    *cast     // of change
}

// machine runs one term.
type machine struct {
	tasks []task   // what is to be done, the next one last
	made  []*value // what was come to and is still needed
	calls int      // how many there were
	fuel  int      // how many there may be
	ended api.Outcome
}

func (m *machine) run(t *api.Term) api.Outcome {
	m.plan(task{do: look, term: t})
	for m.ended.Kind == 0 && len(m.tasks) > 0 {
		last := len(m.tasks) - 1
		next := m.tasks[last]
		m.tasks = m.tasks[:last]
		m.step(next)
	}
	if m.ended.Kind == 0 {
		m.ended = told(m.take())
	}
	return m.ended
}

func (m *machine) plan(t task) { m.tasks = append(m.tasks, t) }

func (m *machine) keep(v *value) { m.made = append(m.made, v) }

func (m *machine) take() *value {
	last := len(m.made) - 1
	v := m.made[last]
	m.made = m.made[:last]
	return v
}

func (m *machine) end(how api.Outcome) { m.ended = how }

func (m *machine) stick() { m.end(api.Outcome{Kind: api.Stuck}) }
