package term_test

import (
	"fmt"
	"math"
	"reflect"
	"runtime/debug"
	"testing"

	"chaperone/api"
	"chaperone/term"
)

var (
	open  = api.Type{}
	num   = api.Type{Kind: api.Num}
	truth = api.Type{Kind: api.Truth}
)

func fun(a, b api.Type) api.Type {
	return api.Type{Kind: api.Fun, L: []api.Type{a, b}}
}

// deepType has so many types within one another.
func deepType(levels int) api.Type {
	t := num
	for i := range levels - 1 {
		if i%2 == 0 {
			t = fun(open, t)
		} else {
			t = fun(t, truth)
		}
	}
	return t
}

func of(kind int, list ...api.Term) api.Term { return api.Term{Kind: kind, L: list} }
func ref(n int) api.Term                     { return api.Term{Kind: api.Ref, N: n} }
func lit(n int) api.Term                     { return api.Term{Kind: api.Lit, N: n} }
func says(n int) api.Term                    { return api.Term{Kind: api.Says, N: n} }

func typed(kind int, t api.Type, part api.Term) api.Term {
	return api.Term{Kind: kind, T: t, L: []api.Term{part}}
}

// goodOnes are good within none, at least one of each kind that can be.
func goodOnes() []api.Term {
	one := lit(1)
	return []api.Term{
		one, lit(0), lit(-1), lit(api.MaxNumber), lit(-api.MaxNumber), says(0), says(1),
		of(api.Add, one, says(1)), of(api.Less, one, one), of(api.If, one, says(0), one), of(api.Call, one, one),
		typed(api.Fn, open, one), typed(api.Fn, num, ref(0)), typed(api.Fn, deepType(api.MaxDeep), ref(0)),
		typed(api.As, truth, one), typed(api.As, open, one), typed(api.As, deepType(api.MaxDeep), one),
		typed(api.Fn, num, typed(api.Fn, open, of(api.Add, ref(0), ref(1)))),
		of(api.Call, typed(api.Fn, num, ref(0)), typed(api.Fn, num, typed(api.As, num, ref(0)))),
	}
}

// wrongTypes are not good, each for another reason.
func wrongTypes() []api.Type {
	return []api.Type{
		{Kind: -1}, {Kind: 4}, {Kind: math.MaxInt}, {Kind: math.MinInt},
		{Kind: api.Fun}, {Kind: api.Fun, L: []api.Type{num}}, {Kind: api.Fun, L: []api.Type{num, num, num}},
		{Kind: api.Any, L: []api.Type{num}}, {Kind: api.Num, L: []api.Type{num, num}},
		fun(num, api.Type{Kind: 4}), fun(api.Type{Kind: -1}, num), deepType(api.MaxDeep + 1), deepType(30),
	}
}

// wrongOnes are good within no number of functions below 100, each for another reason.
func wrongOnes() []api.Term {
	one := lit(1)
	all := []api.Term{
		{}, of(-1), of(11), of(12, one), of(math.MaxInt), of(math.MinInt), of(0, one),
		of(api.Cast), of(api.Cast, one), typed(api.Cast, num, one), {Kind: api.Cast, T: num, From: num, L: []api.Term{one}},
		ref(-1), ref(100), ref(math.MaxInt), ref(math.MinInt),
		lit(api.MaxNumber + 1), lit(-api.MaxNumber - 1), lit(math.MaxInt), lit(math.MinInt),
		says(-1), says(2), says(math.MaxInt), says(math.MinInt),
	}
	for _, x := range oneOfEachKind() {
		for _, n := range []int{1, -1, math.MaxInt, math.MinInt} {
			if x.Kind >= api.Add {
				y := x
				y.N = n
				all = append(all, y)
			}
		}
		for count := range 5 {
			if count != len(x.L) {
				y := x
				y.L = []api.Term{one, one, one, one, one}[:count]
				all = append(all, y)
			}
		}
		for _, wrong := range wrongTypes() {
			y, z := x, x
			y.T, z.From = wrong, wrong
			all = append(all, y, z)
		}
		for _, right := range []api.Type{num, truth, fun(open, open), deepType(api.MaxDeep)} {
			y, z := x, x
			y.T, z.From = right, right
			all = append(all, z)
			if x.Kind != api.Fn && x.Kind != api.As {
				all = append(all, y)
			}
		}
	}
	return all
}

// oneOfEachKind is good within one function.
func oneOfEachKind() []api.Term {
	one := lit(1)
	return []api.Term{
		ref(0), one, says(1), of(api.Add, one, one), of(api.Less, one, one), of(api.If, one, one, one),
		typed(api.Fn, num, one), of(api.Call, one, one), typed(api.As, num, one),
	}
}

// around are terms with x at each place that a part may have.
func around(x api.Term) []api.Term {
	one := lit(1)
	return []api.Term{
		of(api.Add, x, one), of(api.Add, one, x), of(api.Less, x, one), of(api.Less, one, x),
		of(api.If, x, one, one), of(api.If, one, x, one), of(api.If, one, one, x),
		typed(api.Fn, num, x), of(api.Call, x, one), of(api.Call, one, x), typed(api.As, num, x),
		of(api.Add, one, typed(api.As, num, of(api.If, one, x, one))),
	}
}

// P2.1
func TestGood(t *testing.T) {
	for _, x := range goodOnes() {
		for _, functions := range []int{0, 1, 40, math.MaxInt} {
			if !term.Good(x, functions) {
				t.Errorf("%v within %d: not good", x, functions)
			}
			for _, y := range around(x) {
				if !term.Good(y, functions) {
					t.Errorf("%v within %d: not good", y, functions)
				}
			}
		}
	}
	for _, x := range oneOfEachKind() {
		if !term.Good(x, 1) {
			t.Errorf("%v within 1: not good", x)
		}
	}
}

// P2.1
func TestGoodOfWrongTerms(t *testing.T) {
	for i, x := range wrongOnes() {
		for _, functions := range []int{0, 1, 2, 98, -1, math.MinInt} {
			if term.Good(x, functions) {
				t.Errorf("wrong term %d, %v within %d: good", i, x, functions)
			}
			for _, y := range around(x) {
				if term.Good(y, functions) {
					t.Errorf("%v around wrong term %d within %d: good", y, i, functions)
				}
			}
		}
	}
}

// P2.1
func TestGoodTakesEmptyListsOrNone(t *testing.T) {
	none := api.Type{L: []api.Type{}}
	for _, x := range []api.Term{ref(0), lit(5), says(0)} {
		x.L, x.T, x.From = []api.Term{}, none, none
		if !term.Good(x, 1) {
			t.Errorf("%v: not good", x)
		}
	}
	for _, kind := range []int{api.Add, api.If, api.Fn, api.As} {
		if term.Good(api.Term{Kind: kind, L: []api.Term{}}, 1) || term.Good(api.Term{Kind: kind}, 1) {
			t.Errorf("kind %d without parts: good", kind)
		}
	}
}

// within has so many functions around x, with As between them, which is none.
func within(functions int, x api.Term) api.Term {
	for range functions {
		x = typed(api.As, num, typed(api.Fn, num, x))
	}
	return x
}

// P2.1
func TestRefMeansAFunctionAroundIt(t *testing.T) {
	for functions := range 4 {
		for outside := range 4 {
			for n := -1; n < 10; n++ {
				want := n >= 0 && n < functions+outside
				if got := term.Good(within(functions, ref(n)), outside); got != want {
					t.Errorf("#%d in %d functions within %d: %v", n, functions, outside, got)
				}
			}
		}
	}
	beside := of(api.Call, typed(api.Fn, num, ref(0)), ref(0))
	before := of(api.Call, ref(0), typed(api.Fn, num, ref(0)))
	if term.Good(beside, 0) || term.Good(before, 0) || !term.Good(beside, 1) || !term.Good(before, 1) {
		t.Error("a function counts for what is beside it")
	}
}

// P2.1
func TestGoodWithinOddNumbersOfFunctions(t *testing.T) {
	for _, c := range []struct {
		functions, n, around int
		want                 bool
	}{
		{0, math.MaxInt - 1, math.MaxInt, true}, {0, math.MaxInt, math.MaxInt, false},
		{1, math.MaxInt, math.MaxInt, true}, {1, 0, math.MaxInt, true}, {3, math.MaxInt, math.MaxInt, true},
		{3, math.MaxInt, math.MaxInt - 2, true}, {3, math.MaxInt, math.MaxInt - 3, false},
		{0, 0, -1, false}, {1, 0, -1, false}, {2, 0, -1, true}, {2, 1, -1, false},
		{0, 0, math.MinInt, false}, {3, 0, math.MinInt, false}, {0, math.MaxInt, math.MinInt, false},
		{0, math.MinInt, math.MaxInt, false}, {3, math.MinInt, math.MinInt, false}, {3, -1, math.MaxInt, false},
	} {
		if got := term.Good(within(c.functions, ref(c.n)), c.around); got != c.want {
			t.Errorf("#%d in %d functions within %d: %v", c.n, c.functions, c.around, got)
		}
	}
	if !term.Good(typed(api.Fn, num, lit(3)), math.MinInt) {
		t.Error("a term without Ref is not good within a number below 0")
	}
}

// chain has so many terms within one another.
func chain(terms int) api.Term {
	x := lit(1)
	for range terms - 1 {
		x = typed(api.As, num, x)
	}
	return x
}

// comb has so many terms, an odd number of them, and hangs to the one side or the other one.
func comb(terms, side int) api.Term {
	x := lit(1)
	for range terms / 2 {
		if side == 0 {
			x = of(api.Add, x, lit(2))
		} else {
			x = of(api.Add, lit(2), x)
		}
	}
	return x
}

// P2.1, P2.2
func TestGoodIsBoundByNodes(t *testing.T) {
	for count := 1; count < 90; count++ {
		all := []api.Term{chain(count)}
		if count%2 == 1 {
			all = append(all, comb(count, 0), comb(count, 1))
		}
		if count > 2 {
			all = append(all, of(api.Call, chain(count/2), chain(count-1-count/2)))
		}
		for i, x := range all {
			if term.Nodes(x) != count || term.Good(x, 0) != (count <= api.MaxNodes) {
				t.Errorf("term %d of %d: %d, %v", i, count, term.Nodes(x), term.Good(x, 0))
			}
		}
	}
	third := of(api.If, comb(13, 0), comb(13, 1), comb(13, 0))
	if !term.Good(third, 0) || term.Good(typed(api.As, num, third), 0) {
		t.Error("If of 40, or As of 41")
	}
}

// P2.1
func TestGoodEndsAtAListWithinItself(t *testing.T) {
	x := of(api.If, lit(1), lit(1), lit(1))
	x.L[0], x.L[1], x.L[2] = x, x, x
	y := typed(api.Fn, num, lit(1))
	y.L[0] = y
	if term.Good(x, 0) || term.Good(y, 0) {
		t.Error("good")
	}
	for _, z := range []api.Term{x, y} {
		if s, e := term.Print(z); s != "" || e != api.ErrForm {
			t.Errorf("%q, %d", s, e)
		}
	}
}

// P2.2
func TestNodes(t *testing.T) {
	one := lit(1)
	for _, c := range []struct {
		x    api.Term
		want int
	}{
		{api.Term{}, 1}, {one, 1}, {of(api.Add, one, one), 3}, {of(api.If, one, one, one), 4},
		{typed(api.Cast, num, one), 2}, {typed(api.Fn, deepType(30), one), 2},
		{of(api.Lit, one, one, one, one), 5}, {of(99, of(-3, one), one, of(api.Call, one, one)), 7},
		{api.Term{L: []api.Term{}}, 1}, {of(api.If, of(api.If, one, one, one), of(api.Add, one, one), chain(20)), 28},
	} {
		if got := term.Nodes(c.x); got != c.want {
			t.Errorf("%v: %d", c.x, got)
		}
	}
	if got := term.Nodes(api.Term{L: make([]api.Term, 5000)}); got != 5001 {
		t.Errorf("a wide one: %d", got)
	}
}

// allTerms are good and wrong ones, no two of them alike.
func allTerms() []api.Term {
	all := append(goodOnes(), oneOfEachKind()...)
	all = append(all, wrongOnes()...)
	for _, x := range all {
		all = append(all, around(x)...)
	}
	var kept []api.Term
	known := map[string]bool{}
	for _, x := range all {
		told := fmt.Sprint(x)
		if !known[told] {
			kept = append(kept, x)
		}
		known[told] = true
	}
	return kept
}

// P2.2
func TestSame(t *testing.T) {
	all, again := allTerms()[:700], allTerms()[:700]
	for i, x := range all {
		for j, y := range again {
			if term.Same(x, y) != (i == j) {
				t.Fatalf("%v and %v: %v", x, y, i != j)
			}
		}
	}
}

// P2.2
func TestSameLooksAtAllOfATerm(t *testing.T) {
	base := api.Term{Kind: 5, N: 6, T: fun(num, open), From: fun(open, num), L: []api.Term{lit(1), lit(2)}}
	other := func(change func(x *api.Term)) api.Term {
		x := base
		x.L = []api.Term{lit(1), lit(2)}
		change(&x)
		return x
	}
	for i, x := range []api.Term{
		other(func(x *api.Term) { x.Kind = 4 }),
		other(func(x *api.Term) { x.N = 7 }),
		other(func(x *api.Term) { x.T = fun(num, num) }),
		other(func(x *api.Term) { x.T = open }),
		other(func(x *api.Term) { x.From = fun(open, truth) }),
		other(func(x *api.Term) { x.From = open }),
		other(func(x *api.Term) { x.L = x.L[:1] }),
		other(func(x *api.Term) { x.L = nil }),
		other(func(x *api.Term) { x.L = append(x.L, lit(3)) }),
		other(func(x *api.Term) { x.L[0].N = 2 }),
		other(func(x *api.Term) { x.L[1].Kind = api.Says }),
		other(func(x *api.Term) { x.L[1].L = []api.Term{lit(0)} }),
		other(func(x *api.Term) { x.L[0], x.L[1] = x.L[1], x.L[0] }),
	} {
		for j, y := range append(around(x), x) {
			z := append(around(base), base)[j]
			if term.Same(y, z) || term.Same(z, y) || !term.Same(y, y) || !term.Same(z, z) {
				t.Errorf("change %d, place %d", i, j)
			}
		}
	}
}

// P2.2
func TestSameTakesEmptyListsOrNone(t *testing.T) {
	x := api.Term{Kind: api.Lit, N: 3}
	y := api.Term{Kind: api.Lit, N: 3, T: api.Type{L: []api.Type{}}, From: api.Type{L: []api.Type{}}, L: []api.Term{}}
	if !term.Same(x, y) || !term.Same(y, x) || !term.Same(of(api.Add, x, y), of(api.Add, y, x)) {
		t.Error("not alike")
	}
}

// P2.2: the stack is made small, so that fewer levels show what millions would do to the usual one.
func TestDepthDoesNotBreakTheStack(t *testing.T) {
	defer debug.SetMaxStack(debug.SetMaxStack(2 << 20))
	const levels = 100000
	x, y := chain(levels), of(api.Add, lit(0), chain(levels))
	if term.Nodes(x) != levels || term.Nodes(y) != levels+2 || term.Good(x, 0) || term.Good(y, 0) {
		t.Error("Nodes or Good")
	}
	if !term.Same(x, chain(levels)) || term.Same(x, chain(levels+1)) || term.Same(x, y) {
		t.Error("Same")
	}
	z := typed(api.As, deepType(levels), lit(1))
	if !term.Same(z, z) || term.Nodes(z) != 2 || term.Good(z, 0) {
		t.Error("a deep type")
	}
	for _, deep := range []api.Term{x, y, z} {
		if s, e := term.Print(deep); s != "" || e != api.ErrForm {
			t.Errorf("Print: %q, %d", s, e)
		}
	}
}

// withRoom has lists with marked room behind them.
func withRoom(x api.Term) api.Term {
	list := make([]api.Term, 0, len(x.L)+2)
	for _, part := range x.L {
		list = append(list, withRoom(part))
	}
	whole := append(list, of(77), of(77))
	x.T, x.From, x.L = typeWithRoom(x.T), typeWithRoom(x.From), whole[:len(list)]
	return x
}

func typeWithRoom(t api.Type) api.Type {
	list := make([]api.Type, 0, len(t.L)+2)
	for _, part := range t.L {
		list = append(list, typeWithRoom(part))
	}
	whole := append(list, api.Type{Kind: 77}, api.Type{Kind: 77})
	return api.Type{Kind: t.Kind, L: whole[:len(list)]}
}

// wide has the room of all lists as elements, so that reflect sees it, too.
func wide(x api.Term) api.Term {
	x.T, x.From = wideType(x.T), wideType(x.From)
	var list []api.Term
	for _, part := range x.L[:cap(x.L)] {
		list = append(list, wide(part))
	}
	x.L = list
	return x
}

func wideType(t api.Type) api.Type {
	var list []api.Type
	for _, part := range t.L[:cap(t.L)] {
		list = append(list, wideType(part))
	}
	t.L = list
	return t
}

func TestWhatIsHandedInStays(t *testing.T) {
	for _, x := range allTerms() {
		made := withRoom(x)
		before := wide(made)
		term.Good(made, 1)
		term.Nodes(made)
		term.Same(made, withRoom(x))
		term.Same(made, of(api.Add, made, made))
		term.Print(made)
		if !reflect.DeepEqual(wide(made), before) {
			t.Fatalf("changed: %v", x)
		}
	}
}
