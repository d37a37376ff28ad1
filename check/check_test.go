package check_test

import (
	"math"
	"reflect"
	"runtime/debug"
	"strconv"
	"strings"
	"testing"

	"chaperone/api"
	"chaperone/check"
	"chaperone/term"
)

var (
	open  = api.Type{}
	num   = api.Type{Kind: api.Num}
	truth = api.Type{Kind: api.Truth}
)

func fun(a, b api.Type) api.Type {
	return api.Type{Kind: api.Fun, L: []api.Type{a, b}}
}

func of(kind int, list ...api.Term) api.Term { return api.Term{Kind: kind, L: list} }
func ref(n int) api.Term                     { return api.Term{Kind: api.Ref, N: n} }
func lit(n int) api.Term                     { return api.Term{Kind: api.Lit, N: n} }

func typed(kind int, t api.Type, part api.Term) api.Term {
	return api.Term{Kind: kind, T: t, L: []api.Term{part}}
}

func cast(n int, from, to api.Type, part api.Term) api.Term {
	return api.Term{Kind: api.Cast, N: n, From: from, T: to, L: []api.Term{part}}
}

// typeText tells a right type, and marks what is none with a "?".
func typeText(t api.Type) string {
	switch {
	case t.Kind == api.Fun && len(t.L) == 2:
		return "(to " + typeText(t.L[0]) + " " + typeText(t.L[1]) + ")"
	case t.Kind >= api.Any && t.Kind <= api.Truth && len(t.L) == 0:
		return [...]string{"any", "num", "truth"}[t.Kind]
	}
	return "?"
}

// text tells a term as term.Print does, casts too: which term, from, to, and the part.
// What says more than its kind needs is marked with a "?".
func text(x api.Term) string {
	head := [...]string{"?", "#", "", "", "add", "less", "if", "fun", "call", "as", "cast"}[x.Kind]
	if x.Kind != api.Cast && typeText(x.From) != "any" || x.Kind < api.Fn && typeText(x.T) != "any" || x.Kind == api.Call && typeText(x.T) != "any" {
		head = "?" + head
	}
	switch x.Kind {
	case api.Ref, api.Lit:
		return head + strconv.Itoa(x.N)
	case api.Says:
		return head + [...]string{"no", "yes"}[x.N]
	case api.Cast:
		head += " " + strconv.Itoa(x.N) + " " + typeText(x.From) + " " + typeText(x.T)
	case api.Fn, api.As:
		head += " " + typeText(x.T)
	}
	for _, part := range x.L {
		head += " " + text(part)
	}
	return "(" + head + ")"
}

func parse(t *testing.T, s string) api.Term {
	t.Helper()
	x, e := term.Parse(s)
	if e != api.OK {
		t.Fatalf("the test is wrong: %q is no term", s)
	}
	return x
}

func isZeroType(t api.Type) bool { return t.Kind == 0 && len(t.L) == 0 }

func isZero(x api.Term) bool {
	return x.Kind == 0 && x.N == 0 && isZeroType(x.T) && isZeroType(x.From) && len(x.L) == 0
}

// P3.1, P3.2
func TestCheck(t *testing.T) {
	for _, c := range []struct{ term, with, is string }{
		{"7", "7", "num"},
		{"-1000000", "-1000000", "num"},
		{"yes", "yes", "truth"},
		{"no", "no", "truth"},
		{"(add 1 2)", "(add 1 2)", "num"},
		{"(less 1 2)", "(less 1 2)", "truth"},
		{"(add (as any yes) (as any 2))", "(add (cast 1 any num (as any (cast 2 truth any yes))) (cast 3 any num (as any (cast 4 num any 2))))", "num"},
		{"(less 1 (as any yes))", "(less 1 (cast 2 any num (as any (cast 3 truth any yes))))", "truth"},
		{"(fun any #0)", "(fun any #0)", "(to any any)"},
		{"(fun num (fun truth #0))", "(fun num (fun truth #0))", "(to num (to truth truth))"},
		{"(fun num (fun truth #1))", "(fun num (fun truth #1))", "(to num (to truth num))"},
		{"(fun any (add #0 1))", "(fun any (add (cast 2 any num #0) 1))", "(to any num)"},
		{"(fun any (if #0 #0 1))", "(fun any (if (cast 2 any truth #0) #0 (cast 4 num any 1)))", "(to any any)"},
		{"(call (fun num #0) 5)", "(call (fun num #0) 5)", "num"},
		{"(call (fun num yes) 5)", "(call (fun num yes) 5)", "truth"},
		{"(call (fun any yes) 5)", "(call (fun any yes) (cast 3 num any 5))", "truth"},
		{"(fun any (call #0 #0))", "(fun any (call (cast 2 any (to any any) #0) #0))", "(to any any)"},
		{"(call (as any 3) 4)", "(call (cast 1 any (to any any) (as any (cast 2 num any 3))) (cast 3 num any 4))", "any"},
		{"(as any 1)", "(as any (cast 1 num any 1))", "any"},
		{"(as num 1)", "(as num 1)", "num"},
		{"(as num (as any yes))", "(as num (cast 1 any num (as any (cast 2 truth any yes))))", "num"},
		{"(as (to num num) (fun any (as any yes)))", "(as (to num num) (cast 1 (to any any) (to num num) (fun any (as any (cast 3 truth any yes)))))", "(to num num)"},
		{"(as (to any num) (fun num #0))", "(as (to any num) (cast 1 (to num num) (to any num) (fun num #0)))", "(to any num)"},
		{"(if yes 1 2)", "(if yes 1 2)", "num"},
		{"(if (as any 1) no yes)", "(if (cast 1 any truth (as any (cast 2 num any 1))) no yes)", "truth"},
		{"(if yes (as any 1) (fun num #0))", "(if yes (as any (cast 3 num any 1)) (cast 4 (to num num) any (fun num #0)))", "any"},
		{"(if yes (fun num (as any 1)) (fun any 2))", "(if yes (cast 2 (to num any) (to any any) (fun num (as any (cast 4 num any 1)))) (cast 5 (to any num) (to any any) (fun any 2)))", "(to any any)"},
		{"(if yes (fun any 1) (fun num 2))", "(if yes (fun any 1) (cast 4 (to num num) (to any num) (fun num 2)))", "(to any num)"},
		{"(call (if yes (fun any #0) (fun num #0)) 3)", "(call (if yes (fun any #0) (cast 5 (to num num) (to any any) (fun num #0))) (cast 7 num any 3))", "any"},
		{"(call (fun (to num num) (call #0 1)) (fun any #0))", "(call (fun (to num num) (call #0 1)) (cast 5 (to any any) (to num num) (fun any #0)))", "num"},
		{"(call (call (fun num (fun any (add #0 #1))) 1) 2)", "(call (call (fun num (fun any (add (cast 5 any num #0) #1))) 1) (cast 8 num any 2))", "num"},
		{"(fun any (fun num (add #1 #0)))", "(fun any (fun num (add (cast 3 any num #1) #0)))", "(to any (to num num))"},
		{"(call (fun num (add #0 1)) (as any 6))", "(call (fun num (add #0 1)) (cast 5 any num (as any (cast 6 num any 6))))", "num"},
		{"(call (as (to num num) (fun any (as any yes))) 5)", "(call (as (to num num) (cast 2 (to any any) (to num num) (fun any (as any (cast 4 truth any yes))))) 5)", "num"},
		{"(call (fun (to any num) (call #0 yes)) (fun num (add #0 #0)))", "(call (fun (to any num) (call #0 (cast 4 truth any yes))) (cast 5 (to num num) (to any num) (fun num (add #0 #0))))", "num"},
		{"(call (fun any (call #0 #0)) (fun any (call #0 #0)))", "(call (fun any (call (cast 3 any (to any any) #0) #0)) (cast 5 (to any any) any (fun any (call (cast 7 any (to any any) #0) #0))))", "any"},
	} {
		with, is, e := check.Check(parse(t, c.term))
		if got := text(with); e != api.OK || got != c.with || typeText(is) != c.is {
			t.Errorf("%s: %s, %s, %d", c.term, got, typeText(is), e)
		}
	}
}

// P3.1
func TestCheckOfTermsWithoutAType(t *testing.T) {
	for _, s := range []string{
		"(add yes 1)", "(add 1 yes)", "(add (fun any 1) 1)", "(add 1 (fun any #0))", "(add (less 1 2) 1)",
		"(less yes 1)", "(less 1 no)", "(less (fun any 1) 2)", "(less 1 (less 1 2))",
		"(if 1 2 3)", "(if (fun any #0) 2 3)", "(if (add 1 2) 2 3)", "(if yes 2 no)", "(if yes no 2)", "(if yes (fun num 1) 1)",
		"(if yes (fun num 1) (fun num yes))", "(if yes (fun num 1) (fun truth 1))", "(if (as any 1) 2 no)",
		"(if yes (fun any (fun num 1)) (fun num (fun truth 1)))", "(if 1 (as any 1) (as any 1))",
		"(call 3 4)", "(call yes 4)", "(call (add 1 2) (as any 4))", "(call (as num 1) 1)", "(call (less 1 2) (as any 1))",
		"(call (fun num 1) yes)", "(call (fun truth 1) 3)", "(call (fun num 1) (fun num 1))", "(call (fun (to num num) 1) (fun truth 1))",
		"(call (fun (to num num) 1) (fun num yes))", "(call (fun (to any num) 1) (fun num yes))", "(call (call (fun any 1) 1) 1)",
		"(as truth 1)", "(as num yes)", "(as (to any any) 1)", "(as num (fun any 1))", "(as (to num num) (fun truth #0))", "(as (to num any) (fun truth #0))",
		"(as (to num num) (fun num yes))", "(as num (as truth (as any 1)))",
		"(fun num (add #0 yes))", "(fun truth (add #0 1))", "(fun num (if #0 1 2))", "(fun num (call #0 1))", "(fun num (fun truth (add #0 #1)))",
		"(fun num (fun truth (if #1 1 2)))", "(call (fun any (add yes 1)) 1)",
	} {
		x := parse(t, s)
		for _, y := range append(around(x), x) {
			if with, is, e := check.Check(y); e != api.ErrType || !isZero(with) || !isZeroType(is) {
				t.Errorf("%s: %s, %s, %d", text(y), text(with), typeText(is), e)
			}
		}
	}
}

// around are terms with x as a part, each of which has a type if x has the type Any.
func around(x api.Term) []api.Term {
	one, yes, loose := lit(1), api.Term{Kind: api.Says, N: 1}, typed(api.As, open, lit(1))
	return []api.Term{
		of(api.Add, x, one), of(api.Add, one, x), of(api.Less, x, one), of(api.Less, one, x),
		of(api.If, x, one, one), of(api.If, yes, x, loose), of(api.If, yes, loose, x), of(api.If, loose, x, loose),
		typed(api.Fn, num, x), of(api.Call, x, one), of(api.Call, loose, x), of(api.Call, typed(api.Fn, open, one), x),
		typed(api.As, open, x), typed(api.As, num, typed(api.As, open, x)),
	}
}

func TestAroundHasATypeAroundAny(t *testing.T) {
	for _, x := range around(typed(api.As, open, lit(1))) {
		if _, _, e := check.Check(x); e != api.OK {
			t.Errorf("%s: %d", text(x), e)
		}
	}
}

// wrongOnes are not good within no function, each for another reason.
func wrongOnes() []api.Term {
	one := lit(1)
	deep := fun(fun(fun(fun(num, num), num), num), num)
	return []api.Term{
		{}, of(-1), of(11), of(math.MaxInt), of(math.MinInt), of(12, one), of(0, one, one),
		ref(0), ref(1), ref(-1), ref(math.MaxInt), ref(math.MinInt), typed(api.Fn, num, ref(1)), typed(api.Fn, num, ref(-1)),
		lit(api.MaxNumber + 1), lit(-api.MaxNumber - 1), {Kind: api.Says, N: 2}, {Kind: api.Says, N: -1},
		of(api.Add), of(api.Add, one), of(api.Add, one, one, one), of(api.Less, one), of(api.If, one, one), of(api.If, one, one, one, one),
		of(api.Call), of(api.Call, one), of(api.Fn), of(api.Fn, one, one), of(api.As), of(api.As, one, one), of(api.Lit, one), of(api.Ref, one), of(api.Says, one),
		of(api.Cast), of(api.Cast, one, one), cast(0, num, open, one), cast(0, open, open, one), cast(math.MinInt, num, num, one),
		typed(api.As, deep, one), typed(api.Fn, deep, one), typed(api.As, api.Type{Kind: 4}, one), typed(api.Fn, api.Type{Kind: api.Fun}, one),
		typed(api.Fn, fun(num, api.Type{Kind: -1}), one), typed(api.As, api.Type{Kind: api.Num, L: []api.Type{num}}, one),
		{Kind: api.Lit, T: num}, {Kind: api.Lit, From: num}, {Kind: api.Add, T: num, L: []api.Term{one, one}}, {Kind: api.Call, N: 1, L: []api.Term{one, one}},
		{Kind: api.As, N: 1, L: []api.Term{one}}, {Kind: api.As, From: num, L: []api.Term{one}}, {Kind: api.Lit, T: api.Type{Kind: api.Fun, L: []api.Type{num}}},
	}
}

// P3.1
func TestCheckOfTermsThatAreNotGood(t *testing.T) {
	for i, x := range wrongOnes() {
		for j, y := range append(around(x), x) {
			if term.Good(y, 0) {
				continue // a Fn around a Ref is good, though the Ref is not
			}
			if with, is, e := check.Check(y); e != api.ErrForm || !isZero(with) || !isZeroType(is) {
				t.Errorf("wrong term %d, place %d: %v, %v, %d", i, j, with, is, e)
			}
		}
	}
}

// P3.1: a term that is not good and has no type either has the error that the chapter names first.
func TestCheckNamesTheFormFirst(t *testing.T) {
	none := parse(t, "(add yes 1)")
	for i, x := range wrongOnes() {
		for _, y := range []api.Term{of(api.Add, none, x), of(api.Add, x, none), of(api.Call, lit(1), x), of(api.If, lit(1), lit(2), x)} {
			if _, _, e := check.Check(y); e != api.ErrForm {
				t.Errorf("wrong term %d: %d", i, e)
			}
		}
	}
}

// chain has so many terms within one another.
func chain(terms int) api.Term {
	x := lit(1)
	for range terms - 1 {
		x = typed(api.As, num, x)
	}
	return x
}

// P3.1
func TestCheckIsBoundByNodes(t *testing.T) {
	for count := 1; count <= 60; count++ {
		want := api.OK
		if count > api.MaxNodes {
			want = api.ErrForm
		}
		if with, is, e := check.Check(chain(count)); e != want || e == api.OK && (!term.Same(with, chain(count)) || typeText(is) != "num") {
			t.Errorf("%d terms: %v, %v, %d", count, with, is, e)
		}
	}
}

// P3.1: types may be deeper than those that terms tell.
func TestCheckAnswersDeepTypes(t *testing.T) {
	wide := "(to (to num any) (to truth num))"
	for n := range api.MaxNodes - 1 {
		s := strings.Repeat("(fun "+wide+" ", api.MaxNodes-1) + "#" + strconv.Itoa(n) + strings.Repeat(")", api.MaxNodes-1)
		want := strings.Repeat("(to "+wide+" ", api.MaxNodes-1) + wide + strings.Repeat(")", api.MaxNodes-1)
		x := ref(n)
		for range api.MaxNodes - 1 {
			x = typed(api.Fn, fun(fun(num, open), fun(truth, num)), x)
		}
		with, is, e := check.Check(x)
		if e != api.OK || typeText(is) != want || text(with) != s {
			t.Errorf("#%d: %s, %s, %d", n, text(with), typeText(is), e)
		}
	}
	first := strings.Repeat("(fun num ", 15) + "(as any 1)" + strings.Repeat(")", 15)
	other := strings.Repeat("(fun num ", 15) + "2" + strings.Repeat(")", 15)
	joined := strings.Repeat("(to num ", 15) + "any" + strings.Repeat(")", 15)
	want := "(if yes " + strings.Replace(first, "1", "(cast 18 num any 1)", 1) + " (cast 19 " + strings.Replace(joined, "any", "num", 1) + " " + joined + " " + other + "))"
	with, is, e := check.Check(parse(t, "(if yes "+first+" "+other+")"))
	if e != api.OK || typeText(is) != joined || text(with) != want {
		t.Errorf("%s, %s, %d", text(with), typeText(is), e)
	}
}

// P3.1: what a Ref is hangs on the functions around it alone, not on those beside it.
func TestRefMeansWhatItsFunctionTakes(t *testing.T) {
	for s, want := range map[string]string{
		"(fun num (fun truth (fun any #0)))":                                                                     "(to num (to truth (to any any)))",
		"(fun num (fun truth (fun any #1)))":                                                                     "(to num (to truth (to any truth)))",
		"(fun num (fun truth (fun any #2)))":                                                                     "(to num (to truth (to any num)))",
		"(fun num (call (fun truth #1) yes))":                                                                    "(to num num)",
		"(fun num (call (fun truth #0) yes))":                                                                    "(to num truth)",
		"(fun num (if (call (fun truth #0) yes) #0 #0))":                                                         "(to num num)",
		"(fun num (if (call (fun truth (call (fun any #1) 1)) no) 1 2))":                                         "(to num num)",
		"(fun truth (if (call (fun num #1) 1) (fun num #1) (fun num (call (fun (to num num) #2) (fun num 3)))))": "(to truth (to num truth))",
	} {
		if _, is, e := check.Check(parse(t, s)); e != api.OK || typeText(is) != want {
			t.Errorf("%s: %s, %d", s, typeText(is), e)
		}
	}
}

func siteText(sites []api.Site) string {
	told := ""
	for _, s := range sites {
		told += strconv.Itoa(s.N) + " " + typeText(s.From) + " " + typeText(s.To) + "; "
	}
	return told
}

// P3.3
func TestSites(t *testing.T) {
	for s, want := range map[string]string{
		"7": "", "(as num 1)": "", "(call (fun num #0) 5)": "",
		"(as any 1)":                              "1 num any; ",
		"(as num (as any yes))":                   "1 any num; 2 truth any; ",
		"(call (fun num (add #0 1)) (as any 6))":  "5 any num; 6 num any; ",
		"(call (as any 3) 4)":                     "1 any (to any any); 2 num any; 3 num any; ",
		"(if (as any yes) (as num (as any 1)) 2)": "1 any truth; 2 truth any; 4 any num; 5 num any; ",
		"(add (as any 1) (if yes (as any 2) 3))":  "1 any num; 2 num any; 3 any num; 6 num any; 7 num any; ",
		"(as (to num num) (fun any (add #0 1)))":  "1 (to any num) (to num num); 3 any num; ",
	} {
		x := parse(t, s)
		with, _, e := check.Check(x)
		if got := siteText(check.Sites(with)); e != api.OK || got != want {
			t.Errorf("%s: %s, %d", s, got, e)
		}
		if got := check.Sites(x); len(got) != 0 {
			t.Errorf("%s without casts: %s", s, siteText(got))
		}
	}
}

// P3.3: casts about casts, and several parts, the way one reads them.
func TestSitesAsOneReads(t *testing.T) {
	x := of(api.If,
		cast(5, num, open, cast(3, truth, num, lit(1))),
		of(api.Call, cast(9, open, fun(open, open), lit(2)), cast(-4, num, truth, cast(0, open, open, lit(3)))),
		typed(api.As, num, typed(api.Fn, num, cast(7, fun(num, num), open, ref(0)))))
	want := "5 num any; 3 truth num; 9 any (to any any); -4 num truth; 0 any any; 7 (to num num) any; "
	if got := siteText(check.Sites(x)); got != want {
		t.Errorf("%s", got)
	}
}

// P3.4
func TestErase(t *testing.T) {
	for s, want := range map[string]string{
		"7": "7", "-3": "-3", "yes": "yes", "no": "no", "(as num 1)": "1", "(as any (as num (as any 4)))": "4",
		"(fun num #0)": "(fun any #0)", "(fun (to num truth) (fun num #1))": "(fun any (fun any #1))",
		"(as num (as any (fun num #0)))":                                      "(fun any #0)",
		"(add (as any 1) (as any yes))":                                       "(add 1 yes)",
		"(if (as any no) (as any (fun num (as any #0))) (less 1 (as any 2)))": "(if no (fun any #0) (less 1 2))",
		"(call (as (to num num) (fun any (as any yes))) 5)":                   "(call (fun any yes) 5)",
		"(call (fun (to any num) (call #0 yes)) (fun num (add #0 #0)))":       "(call (fun any (call #0 yes)) (fun any (add #0 #0)))",
		"(add yes (as truth 3))":                                              "(add yes 3)",
	} {
		x := parse(t, s)
		if got := text(check.Erase(x)); got != want {
			t.Errorf("%s: %s", s, got)
		}
		if with, _, e := check.Check(x); e == api.OK && text(check.Erase(with)) != want {
			t.Errorf("%s: %s", text(with), text(check.Erase(with)))
		}
	}
	x := cast(5, num, open, typed(api.As, num, cast(3, truth, num, typed(api.Fn, num, cast(7, open, num, typed(api.As, open, ref(0)))))))
	if got := text(check.Erase(x)); got != "(fun any #0)" {
		t.Errorf("%s", got)
	}
}

// tellsNoType is whether T and From are Any everywhere in a term.
func tellsNoType(x api.Term) bool {
	for _, part := range x.L {
		if !tellsNoType(part) {
			return false
		}
	}
	return isZeroType(x.T) && isZeroType(x.From)
}

// Of these terms the chapter says no more than of all calls: they end.
func TestSitesAndEraseTakeAllTerms(t *testing.T) {
	for i, x := range wrongOnes() {
		for _, y := range append(around(x), x, of(api.Cast, x, x), cast(1, open, num, x)) {
			check.Sites(y)
			if !tellsNoType(check.Erase(y)) {
				t.Errorf("Erase of wrong term %d: %v", i, check.Erase(y))
			}
		}
	}
	for _, kind := range []int{api.As, api.Cast} {
		if got := check.Erase(of(kind)); got.Kind != kind || len(got.L) != 0 {
			t.Errorf("kind %d without a part: %v", kind, got)
		}
		if got := check.Erase(of(kind, lit(1), typed(api.As, num, lit(2)))); got.Kind != kind || len(got.L) != 2 || got.L[1].Kind != api.Lit {
			t.Errorf("kind %d of two parts: %v", kind, got)
		}
	}
}

// The stack is made small, so that fewer levels show what millions would do to the usual one.
func TestDepthDoesNotBreakTheStack(t *testing.T) {
	defer debug.SetMaxStack(debug.SetMaxStack(2 << 20))
	const levels = 100000
	deep := num
	for range levels {
		deep = fun(open, deep)
	}
	x, y, z := lit(1), lit(1), lit(1)
	for n := range levels {
		x, y, z = typed(api.As, num, x), cast(n, num, open, y), of(api.Add, lit(0), z)
	}
	for i, c := range []api.Term{x, y, z, typed(api.As, deep, lit(1)), cast(0, deep, open, lit(1))} {
		if with, is, e := check.Check(c); e != api.ErrForm || !isZero(with) || !isZeroType(is) {
			t.Errorf("Check of term %d: %d", i, e)
		}
		want := [...]int{0, levels, 0, 0, 1}[i]
		if got := len(check.Sites(c)); got != want {
			t.Errorf("Sites of term %d: %d", i, got)
		}
		if got := check.Erase(c); i != 2 && !term.Same(got, lit(1)) || i == 2 && !term.Same(got, c) {
			t.Errorf("Erase of term %d", i)
		}
	}
}

// P3.1, P3.4: a list without elements may be nil or not.
func TestEmptyListsOrNone(t *testing.T) {
	none := api.Type{L: []api.Type{}}
	one := api.Term{Kind: api.Lit, N: 1, T: none, From: none, L: []api.Term{}}
	x := api.Term{Kind: api.As, T: none, From: none, L: []api.Term{one}}
	with, is, e := check.Check(x)
	if e != api.OK || text(with) != "(as any (cast 1 num any 1))" || typeText(is) != "any" {
		t.Errorf("%s, %s, %d", text(with), typeText(is), e)
	}
	y := typed(api.Fn, none, typed(api.As, api.Type{}, ref(0)))
	if with, is, e := check.Check(y); e != api.OK || text(with) != "(fun any (as any #0))" || typeText(is) != "(to any any)" {
		t.Errorf("%s, %s, %d", text(with), typeText(is), e)
	}
	if got := check.Erase(x); !term.Same(got, lit(1)) || !isZeroType(got.T) || !isZeroType(got.From) {
		t.Errorf("%v", got)
	}
}

// memory is where the lists of one answer lie.
type memory struct {
	terms map[*api.Term]int
	types map[*api.Type]int
}

func newMemory() memory { return memory{map[*api.Term]int{}, map[*api.Type]int{}} }

func (m memory) addType(t api.Type) {
	if len(t.L) > 0 {
		m.types[&t.L[0]]++
	}
	for _, part := range t.L {
		m.addType(part)
	}
}

func (m memory) add(x api.Term) {
	m.addType(x.T)
	m.addType(x.From)
	if len(x.L) > 0 {
		m.terms[&x.L[0]]++
	}
	for _, part := range x.L {
		m.add(part)
	}
}

func (m memory) isShared() bool {
	for _, times := range m.terms {
		if times > 1 {
			return true
		}
	}
	for _, times := range m.types {
		if times > 1 {
			return true
		}
	}
	return false
}

// No two lists of an answer are one, and none is one that was handed in.
func TestAnswersAreNewLists(t *testing.T) {
	for _, s := range []string{
		"(fun (to any num) (if (as any yes) (as any #0) (as (to num num) #0)))",
		"(fun (to num num) (fun any (call (if yes #1 #0) (call #1 (as any #1)))))",
		"(fun (to (to num any) num) (if yes (fun any #1) (fun num (as (to (to any any) any) #1))))",
	} {
		x := parse(t, s)
		with, is, e := check.Check(x)
		if e != api.OK {
			t.Errorf("%s: %d", s, e)
		}
		m := newMemory()
		m.add(x)
		m.add(with)
		m.addType(is)
		m.add(check.Erase(with))
		for _, site := range check.Sites(with) {
			m.addType(site.From)
			m.addType(site.To)
		}
		if m.isShared() {
			t.Errorf("%s: lists are shared", s)
		}
	}
}

// withRoom has lists with marked room behind them.
func withRoom(x api.Term) api.Term {
	list := make([]api.Term, 0, len(x.L)+2)
	for _, part := range x.L {
		list = append(list, withRoom(part))
	}
	whole := append(list, of(77), of(77))
	x.T, x.From, x.L = typeWithRoom(x.T), typeWithRoom(x.From), whole[:len(list)]
	return x
}

func typeWithRoom(t api.Type) api.Type {
	list := make([]api.Type, 0, len(t.L)+2)
	for _, part := range t.L {
		list = append(list, typeWithRoom(part))
	}
	whole := append(list, api.Type{Kind: 77}, api.Type{Kind: 77})
	return api.Type{Kind: t.Kind, L: whole[:len(list)]}
}

// whole has the lists of a term with all the room that they have.
func whole(x api.Term) api.Term {
	list := []api.Term{}
	for _, part := range x.L[:cap(x.L)] {
		list = append(list, whole(part))
	}
	x.T, x.From, x.L = wholeType(x.T), wholeType(x.From), list
	return x
}

func wholeType(t api.Type) api.Type {
	list := []api.Type{}
	for _, part := range t.L[:cap(t.L)] {
		list = append(list, wholeType(part))
	}
	return api.Type{Kind: t.Kind, L: list}
}

func TestWhatIsHandedInStays(t *testing.T) {
	all := wrongOnes()
	for _, s := range []string{
		"(fun (to any num) (if (as any yes) (as any #0) (as (to num num) #0)))",
		"(call (fun num (fun any (fun truth (if #0 #1 #2)))) (as any (fun num #0)))",
		"(add yes (fun num (fun truth #1)))",
	} {
		x := parse(t, s)
		with, _, _ := check.Check(x)
		all = append(all, x, with)
	}
	for i, x := range all {
		made, before := withRoom(x), whole(withRoom(x))
		check.Check(made)
		check.Sites(made)
		check.Erase(made)
		if !reflect.DeepEqual(whole(made), before) {
			t.Errorf("term %d is changed", i)
		}
	}
}
