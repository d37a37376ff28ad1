package run_test

import (
	"strings"
	"testing"

	"chaperone/api"
	"chaperone/check"
	"chaperone/kind"
	"chaperone/run"
	"chaperone/term"
)

// second runs terms in another way, to hold Run and Bare against: it calls itself, a function is
// a function of Go, and each cast of a function has a chaperone of its own, as the chapter says it.
type second struct{ calls, fuel int }

// under is what is known under Any, and the kind as of which it is known.
type under struct {
	what any
	as   int
}

type deed func(given any) any

// halt is thrown where a run ends.
type halt struct{ how api.Outcome }

func (s *second) outcome(x api.Term) (o api.Outcome) {
	defer func() {
		if h, ok := recover().(halt); ok {
			o = h.how
		}
	}()
	v := s.comesTo(x, nil)
	if u, ok := v.(under); ok {
		v = u.what
	}
	switch v := v.(type) {
	case int:
		return isNum(v)
	case bool:
		if v {
			return isTruth(1)
		}
		return isTruth(0)
	}
	return isFun
}

func need[T any](v any) T {
	is, ok := v.(T)
	if !ok {
		panic(halt{stuck})
	}
	return is
}

func (s *second) comesTo(x api.Term, given []any) any {
	part := func(i int) any { return s.comesTo(x.L[i], given) }
	switch x.Kind {
	case api.Ref:
		return given[len(given)-1-x.N]
	case api.Lit:
		return x.N
	case api.Says:
		return x.N == 1
	case api.As:
		return part(0)
	case api.Cast:
		return s.cast(part(0), x.From, x.T, x.N, false)
	case api.Fn:
		return deed(func(v any) any {
			if s.calls == s.fuel {
				panic(halt{fuel})
			}
			s.calls++
			return s.comesTo(x.L[0], append(append([]any{}, given...), v))
		})
	case api.If:
		if need[bool](part(0)) {
			return part(1)
		}
		return part(2)
	}
	a := part(0)
	b := part(1)
	switch x.Kind {
	case api.Add:
		sum := need[int](a) + need[int](b)
		if sum > api.MaxNumber {
			return api.MaxNumber
		}
		if sum < -api.MaxNumber {
			return -api.MaxNumber
		}
		return sum
	case api.Less:
		return need[int](a) < need[int](b)
	}
	return need[deed](a)(b)
}

func (s *second) cast(v any, from, to api.Type, n int, back bool) any {
	switch {
	case kind.Same(from, to):
		return v
	case from.Kind == api.Fun && to.Kind == api.Fun:
		return deed(func(given any) any {
			given = s.cast(given, to.L[0], from.L[0], n, !back)
			return s.cast(need[deed](v)(given), from.L[1], to.L[1], n, back)
		})
	case to.Kind == api.Any:
		return under{s.cast(v, from, kind.Ground(from), n, back), from.Kind}
	case from.Kind == api.Any:
		u := need[under](v)
		if u.as != to.Kind {
			panic(halt{api.Outcome{Kind: api.Blame, N: n, Back: back}})
		}
		return s.cast(u.what, kind.Ground(to), to, n, back)
	}
	panic(halt{stuck})
}

// tally is how often what came out, so that a test can say that it saw enough.
type tally [api.Stuck + 1]int

// holdAgainstSecond is how a good term runs; both ways of running have to say the same of it.
func holdAgainstSecond(t *testing.T, x api.Term, calls int, seen, seenBare *tally) {
	t.Helper()
	s, _ := term.Print(x)
	bare, e := run.Bare(x, calls)
	if want := (&second{fuel: calls}).outcome(check.Erase(x)); e != api.OK || bare != want {
		t.Fatalf("Bare of %s, %d calls: %+v, %d, not %+v", s, calls, bare, e, want)
	}
	seenBare[bare.Kind]++
	with, is, e := check.Check(x)
	o, got := run.Run(x, calls)
	if e != api.OK {
		expectError(t, "Run of "+s, o, got, e)
		return
	}
	if want := (&second{fuel: calls}).outcome(with); got != api.OK || o != want {
		t.Fatalf("Run of %s, %d calls: %+v, %d, not %+v", s, calls, o, got, want)
	}
	seen[o.Kind]++
	checkOutcome(t, s, o, bare, is, check.Sites(with))
}

// checkOutcome holds what is known of all runs of terms that have a type.
func checkOutcome(t *testing.T, s string, o, bare api.Outcome, is api.Type, sites []api.Site) {
	t.Helper()
	switch o.Kind {
	case api.Stuck:
		t.Fatalf("%s is stuck", s)
	case api.Blame:
		checkBlame(t, s, o, sites)
		return
	case api.Fuel:
	default:
		if is.Kind != api.Any && is.Kind != o.Kind {
			t.Fatalf("%s of kind %d: %+v", s, is.Kind, o)
		}
	}
	if o != bare {
		t.Fatalf("%s: %+v, but without types %+v", s, o, bare)
	}
}

// checkBlame holds that a cast to less is never blamed for what comes out of it, and a cast to more never for how it is used.
func checkBlame(t *testing.T, s string, o api.Outcome, sites []api.Site) {
	t.Helper()
	for _, site := range sites {
		if site.N != o.N {
			continue
		}
		more, less := site.From, site.To
		if o.Back {
			more, less = less, more
		}
		if kind.Finer(more, less) {
			t.Fatalf("%s: %+v, but the other side says less", s, o)
		}
		return
	}
	t.Fatalf("%s: %+v, but there is no such cast", s, o)
}

// allTerms are all terms of just so many nodes, good within so many functions, that tell these types.
func allTerms(nodes, functions int, types []api.Type) []api.Term {
	if nodes < 1 {
		return nil
	}
	if nodes == 1 {
		all := []api.Term{lit(1), {Kind: api.Says, N: 1}}
		for n := range functions {
			all = append(all, ref(n))
		}
		return all
	}
	var all []api.Term
	for _, is := range types {
		for _, x := range allTerms(nodes-1, functions, types) {
			all = append(all, typed(api.As, is, x))
		}
		for _, x := range allTerms(nodes-1, functions+1, types) {
			all = append(all, typed(api.Fn, is, x))
		}
	}
	for first := 1; first < nodes-1; first++ {
		for _, a := range allTerms(first, functions, types) {
			for _, b := range allTerms(nodes-1-first, functions, types) {
				all = append(all, of(api.Add, a, b), of(api.Less, a, b), of(api.Call, a, b))
			}
			for other := 1; other < nodes-1-first; other++ {
				for _, b := range allTerms(other, functions, types) {
					for _, c := range allTerms(nodes-1-first-other, functions, types) {
						all = append(all, of(api.If, a, b, c))
					}
				}
			}
		}
	}
	return all
}

// P4.1 to P4.6
func TestAllSmallTerms(t *testing.T) {
	var seen, bare tally
	for nodes := 1; nodes <= 4; nodes++ {
		for _, x := range allTerms(nodes, 0, []api.Type{open, num, truth, fun(open, open), fun(num, open), fun(num, truth)}) {
			for calls := range 3 {
				holdAgainstSecond(t, x, calls, &seen, &bare)
			}
		}
	}
	for nodes := 5; nodes <= 6; nodes++ {
		for _, x := range allTerms(nodes, 0, []api.Type{open, fun(open, num)}) {
			for calls := range 3 {
				holdAgainstSecond(t, x, calls, &seen, &bare)
			}
		}
	}
	for what := api.IsNum; what <= api.Stuck; what++ {
		if seen[what] < 50 && what != api.Stuck || bare[what] < 50 && what != api.Blame {
			t.Errorf("too few of kind %d to tell: %v, %v", what, seen, bare)
		}
	}
}

// growth makes great terms from a row of numbers.
type growth struct {
	row  uint32
	room int
	sure bool // types are told whole
}

func (g *growth) below(n int) int {
	g.row = g.row*1664525 + 1013904223
	return int(g.row>>8) % n
}

func (g *growth) aType(levels int) api.Type {
	if levels == 1 || g.below(3) > 0 {
		k := g.below(3)
		if k == api.Any && g.sure {
			k = api.Num
		}
		return api.Type{Kind: k}
	}
	return fun(g.aType(levels-1), g.aType(levels-1))
}

// loosened is a type with some of it left open.
func (g *growth) loosened(t api.Type) api.Type {
	if g.sure {
		return t
	}
	if g.below(4) == 0 {
		return open
	}
	if t.Kind == api.Fun {
		return fun(g.loosened(t.L[0]), g.loosened(t.L[1]))
	}
	return t
}

// leaf is the least that is of a type; of functions that may be a Fn.
func (g *growth) leaf(is api.Type, around []api.Type) api.Term {
	for n := range around {
		if kind.Fits(around[len(around)-1-n], is) && g.below(3) > 0 {
			return ref(n)
		}
	}
	switch is.Kind {
	case api.Truth:
		return api.Term{Kind: api.Says, N: g.below(2)}
	case api.Fun:
		return typed(api.Fn, is.L[0], g.leaf(is.L[1], append(append([]api.Type{}, around...), is.L[0])))
	}
	return lit(g.below(100) - 50)
}

// fitting is a term that mostly fits a type.
func (g *growth) fitting(is api.Type, around []api.Type) api.Term {
	g.room--
	if g.room <= 0 {
		return g.leaf(is, around)
	}
	part := func(use api.Type) api.Term { return g.fitting(g.loosened(use), around) }
	switch g.below(9) {
	case 0:
		return g.leaf(is, around)
	case 1:
		return of(api.If, part(truth), part(is), part(is))
	case 2, 3, 4:
		takes := g.aType(3)
		return of(api.Call, part(fun(takes, is)), part(takes))
	case 5:
		return typed(api.As, is, part(is))
	}
	switch is.Kind {
	case api.Num:
		return of(api.Add, part(num), part(num))
	case api.Truth:
		return of(api.Less, part(num), part(num))
	case api.Fun:
		return typed(api.Fn, is.L[0], g.fitting(is.L[1], append(append([]api.Type{}, around...), is.L[0])))
	}
	return typed(api.As, open, part(g.aType(3)))
}

func (g *growth) looser(x api.Term) api.Term {
	list := make([]api.Term, len(x.L))
	for i, p := range x.L {
		list[i] = g.looser(p)
	}
	return api.Term{Kind: x.Kind, N: x.N, T: g.loosened(x.T), L: list}
}

// P4.1 to P4.6
func TestGreatTerms(t *testing.T) {
	g := &growth{row: 3}
	var seen, bare tally
	back := 0
	for range 30000 {
		g.room = 2 + g.below(20)
		x := g.fitting(g.aType(2), nil)
		if !term.Good(x, 0) {
			continue
		}
		calls := g.below(api.MaxFuel + 1)
		if g.below(2) == 0 {
			calls = g.below(6)
		}
		holdAgainstSecond(t, x, calls, &seen, &bare)
		o, e := run.Run(x, calls)
		if e == api.OK {
			checkLooser(t, g, x, o, calls)
			checkMoreFuel(t, x, o, calls)
		}
		if o.Back {
			back++
		}
	}
	for what := api.IsNum; what <= api.Stuck; what++ {
		if seen[what] < 500 && what != api.Stuck || bare[what] < 500 && what != api.Blame {
			t.Errorf("too few of kind %d to tell: %v, %v", what, seen, bare)
		}
	}
	if back < 100 {
		t.Errorf("only %d of %v are blamed for how they are used", back, seen)
	}
}

// checkLooser holds that what is left open changes nothing of what a term comes to.
func checkLooser(t *testing.T, g *growth, x api.Term, o api.Outcome, calls int) {
	t.Helper()
	if o.Kind == api.Blame {
		return
	}
	y := g.looser(x)
	if again, e := run.Run(y, calls); e != api.OK || again != o {
		s, _ := term.Print(x)
		less, _ := term.Print(y)
		t.Fatalf("%d calls: %s: %+v, %s: %+v, %d", calls, s, o, less, again, e)
	}
}

// checkMoreFuel holds that more calls than are needed change nothing.
func checkMoreFuel(t *testing.T, x api.Term, o api.Outcome, calls int) {
	t.Helper()
	if o.Kind == api.Fuel {
		return
	}
	if again, e := run.Run(x, min(calls+1, api.MaxFuel)); e != api.OK || again != o {
		s, _ := term.Print(x)
		t.Fatalf("%s: %+v with %d calls, %+v with more, %d", s, o, calls, again, e)
	}
}

// chain is a term that is cast to Any and on to some of a type, again and again.
func (g *growth) chain(x api.Term, of api.Type) api.Term {
	for range g.below(5) {
		x = typed(api.As, g.loosened(g.loosened(of)), typed(api.As, open, x))
	}
	return x
}

// P4.4: functions that were cast many times, and are called with such, and what comes of that, too.
func TestChainsOfCasts(t *testing.T) {
	g := &growth{row: 11}
	var seen, bare tally
	deeds := []string{"(fun any #0)", "(fun num #0)", "(fun any (call #0 1))", "(fun any (call #0 (fun any #0)))", "(fun any (fun any #1))", "(fun any (fun any (call #0 #1)))",
		"(fun (to num num) (call #0 2))", "(fun (to any (to any any)) (call (call #0 3) #0))", "(fun any yes)", "(fun any (call #0 #0))"}
	value := func() api.Term {
		if g.below(5) == 0 {
			return g.chain(lit(4), num)
		}
		is := fun(g.aType(api.MaxDeep-1), g.aType(api.MaxDeep-1))
		return typed(api.As, open, g.chain(parse(t, deeds[g.below(len(deeds))]), is))
	}
	for range 30000 {
		x := value()
		for range 1 + g.below(3) {
			x = of(api.Call, typed(api.As, open, x), value())
			if g.below(3) == 0 {
				x = g.chain(x, g.aType(api.MaxDeep))
			}
		}
		if term.Good(x, 0) {
			holdAgainstSecond(t, x, 20, &seen, &bare)
		}
	}
	if seen[api.IsNum] < 200 || seen[api.IsFun] < 1000 || seen[api.Blame] < 1000 {
		t.Errorf("too few to tell: %v, %v", seen, bare)
	}
}

// Whoever tells all types is never blamed.
func TestSureTermsAreNeverBlamed(t *testing.T) {
	g := &growth{row: 7, sure: true}
	var seen, bare tally
	for range 20000 {
		g.room = 2 + g.below(20)
		x := g.fitting(g.aType(2), nil)
		if _, _, e := check.Check(x); e == api.OK {
			holdAgainstSecond(t, x, g.below(12), &seen, &bare)
		}
	}
	if seen != bare || seen[api.Blame]+seen[api.Stuck] > 0 || seen[api.IsNum] < 500 || seen[api.IsFun] < 500 {
		t.Errorf("%v, %v", seen, bare)
	}
}

// A function that is cast at each of a hundred calls, with all that it is given: chaperones about
// chaperones would be called tens of millions of times.
func TestChaperonesDoNotPileUp(t *testing.T) {
	for _, is := range []string{"(to (to (to any num) num) num)", "(to (to (to any num) any) any)", "(to (to any (to any num)) (to any num))"} {
		for pairs := 1; pairs <= 15; pairs++ {
			h := strings.Repeat("(as any (as "+is+" ", pairs) + "#0" + strings.Repeat("))", pairs)
			for _, body := range []string{"(call #0 " + h + ")", "(call " + h + " #0)"} {
				expectBoth(t, "(call (fun any (call #0 #0)) (fun any "+body+"))", api.MaxFuel, fuel)
			}
		}
	}
}
