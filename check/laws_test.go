package check_test

import (
	"strconv"
	"testing"

	"chaperone/api"
	"chaperone/check"
	"chaperone/kind"
	"chaperone/term"
)

// second is another checker to hold Check against: it writes the answer as a text, with casts
// as it comes by them, and works with the chapter's words for fitting and joining.
type second struct {
	next  int
	wrong bool
}

func fits(a, b api.Type) bool {
	if a.Kind == api.Any || b.Kind == api.Any {
		return true
	}
	return a.Kind == b.Kind && (a.Kind != api.Fun || fits(a.L[0], b.L[0]) && fits(a.L[1], b.L[1]))
}

func join(a, b api.Type) api.Type {
	if a.Kind != b.Kind {
		return open
	}
	if a.Kind == api.Fun {
		return fun(join(a.L[0], b.L[0]), join(a.L[1], b.L[1]))
	}
	return a
}

// part is a term's text, its type, and its number, before it is known as what it is used.
type part struct {
	text string
	is   api.Type
	n    int
}

func (s *second) used(p part, use api.Type) string {
	if !fits(p.is, use) {
		s.wrong = true
	}
	if typeText(p.is) == typeText(use) {
		return p.text
	}
	return "(cast " + strconv.Itoa(p.n) + " " + typeText(p.is) + " " + typeText(use) + " " + p.text + ")"
}

func (s *second) of(x api.Term, around []api.Type) part {
	n := s.next
	s.next++
	told := func(text string, is api.Type) part { return part{text, is, n} }
	switch x.Kind {
	case api.Ref:
		return told("#"+strconv.Itoa(x.N), around[len(around)-1-x.N])
	case api.Lit:
		return told(strconv.Itoa(x.N), num)
	case api.Says:
		return told([...]string{"no", "yes"}[x.N], truth)
	case api.Add, api.Less:
		a := s.of(x.L[0], around)
		b := s.of(x.L[1], around)
		if x.Kind == api.Add {
			return told("(add "+s.used(a, num)+" "+s.used(b, num)+")", num)
		}
		return told("(less "+s.used(a, num)+" "+s.used(b, num)+")", truth)
	case api.If:
		a := s.of(x.L[0], around)
		b := s.of(x.L[1], around)
		c := s.of(x.L[2], around)
		if !fits(b.is, c.is) {
			s.wrong = true
		}
		both := join(b.is, c.is)
		return told("(if "+s.used(a, truth)+" "+s.used(b, both)+" "+s.used(c, both)+")", both)
	case api.Fn:
		within := append(append([]api.Type{}, around...), x.T)
		a := s.of(x.L[0], within)
		return told("(fun "+typeText(x.T)+" "+a.text+")", fun(x.T, a.is))
	case api.As:
		a := s.of(x.L[0], around)
		return told("(as "+typeText(x.T)+" "+s.used(a, x.T)+")", x.T)
	}
	a := s.of(x.L[0], around)
	b := s.of(x.L[1], around)
	if a.is.Kind == api.Any {
		return told("(call "+s.used(a, fun(open, open))+" "+s.used(b, open)+")", open)
	}
	if a.is.Kind != api.Fun {
		s.wrong = true
		return told("", open)
	}
	return told("(call "+a.text+" "+s.used(b, a.is.L[0])+")", a.is.L[1])
}

// bareText tells a term as Erase should leave it.
func bareText(x api.Term) string {
	switch x.Kind {
	case api.As, api.Cast:
		return bareText(x.L[0])
	case api.Ref, api.Lit, api.Says:
		return text(x)
	}
	told := "(" + [...]string{api.Add: "add", api.Less: "less", api.If: "if", api.Fn: "fun any", api.Call: "call"}[x.Kind]
	for _, p := range x.L {
		told += " " + bareText(p)
	}
	return told + ")"
}

// castsOf tells the casts of a term as siteText tells sites.
func castsOf(x api.Term) string {
	told := ""
	if x.Kind == api.Cast {
		told = siteText([]api.Site{{N: x.N, From: x.From, To: x.T}})
	}
	for _, p := range x.L {
		told += castsOf(p)
	}
	return told
}

// holdAgainstSecond is whether a good term has a type; both checkers have to say the same of it.
func holdAgainstSecond(t *testing.T, x api.Term) bool {
	t.Helper()
	s := &second{}
	want := s.of(x, nil)
	with, is, e := check.Check(x)
	if s.wrong {
		if e != api.ErrType || !isZero(with) || !isZeroType(is) {
			t.Fatalf("%s: %s, %s, %d, not ErrType", text(x), text(with), typeText(is), e)
		}
	} else if e != api.OK || text(with) != want.text || typeText(is) != typeText(want.is) {
		t.Fatalf("%s: %s, %s, %d, not %s, %s", text(x), text(with), typeText(is), e, want.text, typeText(want.is))
	}
	for _, y := range []api.Term{x, with} {
		if y.Kind == 0 {
			continue
		}
		if got := text(check.Erase(y)); got != bareText(y) || got != bareText(x) {
			t.Fatalf("Erase of %s: %s", text(y), got)
		}
		if got := siteText(check.Sites(y)); got != castsOf(y) {
			t.Fatalf("Sites of %s: %s", text(y), got)
		}
	}
	return !s.wrong
}

// allTerms are all terms of just so many nodes, good within so many functions, that tell these types.
func allTerms(nodes, functions int, types []api.Type) []api.Term {
	if nodes < 1 {
		return nil
	}
	if nodes == 1 {
		all := []api.Term{lit(1), {Kind: api.Says, N: 1}}
		for n := range functions {
			all = append(all, ref(n))
		}
		return all
	}
	var all []api.Term
	for _, is := range types {
		for _, x := range allTerms(nodes-1, functions, types) {
			all = append(all, typed(api.As, is, x))
		}
		for _, x := range allTerms(nodes-1, functions+1, types) {
			all = append(all, typed(api.Fn, is, x))
		}
	}
	for first := 1; first < nodes-1; first++ {
		for _, a := range allTerms(first, functions, types) {
			for _, b := range allTerms(nodes-1-first, functions, types) {
				all = append(all, of(api.Add, a, b), of(api.Less, a, b), of(api.Call, a, b))
			}
			for other := 1; other < nodes-1-first; other++ {
				for _, b := range allTerms(other, functions, types) {
					for _, c := range allTerms(nodes-1-first-other, functions, types) {
						all = append(all, of(api.If, a, b, c))
					}
				}
			}
		}
	}
	return all
}

// P3.1 to P3.4
func TestAllSmallTerms(t *testing.T) {
	types := []api.Type{open, num, truth, fun(open, open), fun(num, open), fun(num, truth)}
	have, none := 0, 0
	for nodes := 1; nodes <= 4; nodes++ {
		for _, x := range allTerms(nodes, 0, types) {
			if holdAgainstSecond(t, x) {
				have++
			} else {
				none++
			}
		}
	}
	for _, x := range allTerms(5, 0, []api.Type{open, num, fun(open, num)}) {
		holdAgainstSecond(t, x)
	}
	if have < 1000 || none < 1000 {
		t.Errorf("%d have a type, %d have none: too few to tell", have, none)
	}
}

// growth makes great terms from a row of numbers.
type growth struct {
	row  uint32
	room int
	sure bool // types are told whole
}

func (g *growth) below(n int) int {
	g.row = g.row*1664525 + 1013904223
	return int(g.row>>8) % n
}

func (g *growth) aType(levels int) api.Type {
	if levels == 1 || g.below(3) > 0 {
		k := g.below(3)
		if k == api.Any && g.sure {
			k = api.Num
		}
		return api.Type{Kind: k}
	}
	return fun(g.aType(levels-1), g.aType(levels-1))
}

// loosened is a type with some of it left open.
func (g *growth) loosened(t api.Type) api.Type {
	if g.sure {
		return t
	}
	if g.below(3) == 0 {
		return open
	}
	if t.Kind == api.Fun {
		return fun(g.loosened(t.L[0]), g.loosened(t.L[1]))
	}
	return t
}

// leaf is the least that is of a type; of functions that may be a Fn.
func (g *growth) leaf(is api.Type, around []api.Type) api.Term {
	for n := range around {
		if typeText(around[len(around)-1-n]) == typeText(is) && g.below(2) == 0 {
			return ref(n)
		}
	}
	switch is.Kind {
	case api.Truth:
		return api.Term{Kind: api.Says, N: g.below(2)}
	case api.Fun:
		return typed(api.Fn, is.L[0], g.leaf(is.L[1], append(append([]api.Type{}, around...), is.L[0])))
	}
	return lit(g.below(100) - 50)
}

// fitting is a term that mostly fits a type.
func (g *growth) fitting(is api.Type, around []api.Type) api.Term {
	g.room--
	if g.room <= 0 {
		return g.leaf(is, around)
	}
	part := func(use api.Type) api.Term { return g.fitting(g.loosened(use), around) }
	switch g.below(7) {
	case 0:
		return g.leaf(is, around)
	case 1:
		return of(api.If, part(truth), part(is), part(is))
	case 2:
		takes := g.aType(2)
		return of(api.Call, part(fun(takes, is)), part(takes))
	case 3:
		return typed(api.As, is, part(is))
	}
	switch is.Kind {
	case api.Num:
		return of(api.Add, part(num), part(num))
	case api.Truth:
		return of(api.Less, part(num), part(num))
	case api.Fun:
		return typed(api.Fn, is.L[0], g.fitting(is.L[1], append(append([]api.Type{}, around...), is.L[0])))
	}
	return typed(api.As, open, part(g.aType(2)))
}

// P3.1 to P3.4
func TestGreatTerms(t *testing.T) {
	g := &growth{row: 1}
	have, none, casts := 0, 0, 0
	for range 30000 {
		g.room = 2 + g.below(16)
		x := g.fitting(g.aType(3), nil)
		if !term.Good(x, 0) {
			continue
		}
		if !holdAgainstSecond(t, x) {
			none++
			continue
		}
		have++
		with, is, _ := check.Check(x)
		casts += len(check.Sites(with))
		checkSites(t, x, with)
		checkLooser(t, g, x, is)
	}
	if have < 10000 || none < 1000 || casts < 20000 {
		t.Errorf("%d have a type, %d have none, %d casts: too few to tell", have, none, casts)
	}
}

// reading is all terms as one reads them.
func reading(x api.Term) []api.Term {
	all := []api.Term{x}
	for _, p := range x.L {
		all = append(all, reading(p)...)
	}
	return all
}

// P3.2: each cast is about the term that its number tells, and the types fit but are not alike.
func checkSites(t *testing.T, x, with api.Term) {
	t.Helper()
	all := reading(x)
	last := 0
	for _, y := range reading(with) {
		if y.Kind != api.Cast {
			continue
		}
		if y.N <= last || y.N >= len(all) || bareText(all[y.N]) != bareText(y) || all[y.N].Kind != y.L[0].Kind {
			t.Fatalf("%s in %s: cast %d after %d", text(y), text(with), y.N, last)
		}
		if kind.Same(y.From, y.T) || !kind.Fits(y.From, y.T) {
			t.Fatalf("%s", text(y))
		}
		last = y.N
	}
	if with.Kind == api.Cast {
		t.Fatalf("the whole of %s is cast", text(with))
	}
}

// checkLooser holds that a term has a type still, if some of what it tells is left open, and that it says no more.
func checkLooser(t *testing.T, g *growth, x api.Term, is api.Type) {
	t.Helper()
	y := looser(g, x)
	if _, less, e := check.Check(y); e != api.OK || !kind.Finer(is, less) {
		t.Fatalf("%s: %s; %s: %s, %d", text(x), typeText(is), text(y), typeText(less), e)
	}
}

func looser(g *growth, x api.Term) api.Term {
	list := make([]api.Term, len(x.L))
	for i, p := range x.L {
		list[i] = looser(g, p)
	}
	return api.Term{Kind: x.Kind, N: x.N, T: g.loosened(x.T), L: list}
}

// P3.2: who tells all types has no casts.
func TestSureTermsHaveNoCasts(t *testing.T) {
	g := &growth{row: 7, sure: true}
	have := 0
	for range 20000 {
		g.room = 2 + g.below(16)
		x := g.fitting(g.aType(3), nil)
		if !term.Good(x, 0) {
			continue
		}
		with, is, e := check.Check(x)
		if e != api.OK {
			t.Fatalf("%s: %d", text(x), e)
		}
		have++
		if !kind.Sure(is) || len(check.Sites(with)) != 0 || !term.Same(with, x) {
			t.Fatalf("%s: %s, %s", text(x), text(with), typeText(is))
		}
	}
	if have < 5000 {
		t.Errorf("only %d are good", have)
	}
}
