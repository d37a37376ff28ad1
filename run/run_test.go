package run_test

import (
	"math"
	"reflect"
	"runtime/debug"
	"strings"
	"testing"

	"chaperone/api"
	"chaperone/check"
	"chaperone/run"
	"chaperone/term"
)

var (
	open  = api.Type{}
	num   = api.Type{Kind: api.Num}
	truth = api.Type{Kind: api.Truth}

	isFun = api.Outcome{Kind: api.IsFun}
	fuel  = api.Outcome{Kind: api.Fuel}
	stuck = api.Outcome{Kind: api.Stuck}
)

// omega never ends.
const omega = "(call (fun any (call #0 #0)) (fun any (call #0 #0)))"

// counting calls itself until it was given 3.
const counting = "(fun any (fun any (if (less #0 3) (call (call #1 #1) (add #0 1)) #0)))"

func isNum(n int) api.Outcome   { return api.Outcome{Kind: api.IsNum, N: n} }
func isTruth(n int) api.Outcome { return api.Outcome{Kind: api.IsTruth, N: n} }

func blame(n int) api.Outcome     { return api.Outcome{Kind: api.Blame, N: n} }
func blameBack(n int) api.Outcome { return api.Outcome{Kind: api.Blame, N: n, Back: true} }

func fun(a, b api.Type) api.Type {
	return api.Type{Kind: api.Fun, L: []api.Type{a, b}}
}

func of(kind int, list ...api.Term) api.Term { return api.Term{Kind: kind, L: list} }
func ref(n int) api.Term                     { return api.Term{Kind: api.Ref, N: n} }
func lit(n int) api.Term                     { return api.Term{Kind: api.Lit, N: n} }

func typed(kind int, t api.Type, part api.Term) api.Term {
	return api.Term{Kind: kind, T: t, L: []api.Term{part}}
}

func cast(n int, from, to api.Type, part api.Term) api.Term {
	return api.Term{Kind: api.Cast, N: n, From: from, T: to, L: []api.Term{part}}
}

func parse(t *testing.T, s string) api.Term {
	t.Helper()
	x, e := term.Parse(s)
	if e != api.OK {
		t.Fatalf("the test is wrong: %q is no term", s)
	}
	return x
}

// expect holds what Run and Text say of a term against what they should.
func expect(t *testing.T, s string, calls int, want api.Outcome) {
	t.Helper()
	if o, e := run.Run(parse(t, s), calls); e != api.OK || o != want {
		t.Errorf("Run of %s, %d calls: %+v, %d, not %+v", s, calls, o, e, want)
	}
	if o, e := run.Text(s, calls); e != api.OK || o != want {
		t.Errorf("Text of %s, %d calls: %+v, %d, not %+v", s, calls, o, e, want)
	}
}

func expectBare(t *testing.T, s string, calls int, want api.Outcome) {
	t.Helper()
	if o, e := run.Bare(parse(t, s), calls); e != api.OK || o != want {
		t.Errorf("Bare of %s, %d calls: %+v, %d, not %+v", s, calls, o, e, want)
	}
}

func expectBoth(t *testing.T, s string, calls int, want api.Outcome) {
	t.Helper()
	expect(t, s, calls, want)
	expectBare(t, s, calls, want)
}

// P4.1, P4.5, P4.6: with casts that fit, and without.
func TestWhatTermsComeTo(t *testing.T) {
	for s, want := range map[string]api.Outcome{
		"7": isNum(7), "-1000000": isNum(-1000000), "1000000": isNum(1000000), "0": isNum(0),
		"yes": isTruth(1), "no": isTruth(0),
		"(fun num #0)": isFun, "(fun any (add #0 1))": isFun,
		"(as num 5)": isNum(5), "(as any 5)": isNum(5), "(as any (as num (as any 5)))": isNum(5),
		"(as any yes)": isTruth(1), "(as any no)": isTruth(0), "(as any (fun num #0))": isFun, "(as (to any num) (fun num #0))": isFun,
		"(add 2 3)": isNum(5), "(add -2 -3)": isNum(-5), "(add 1000000 -1000000)": isNum(0),
		"(add 999999 1)": isNum(1000000), "(add 1000000 1)": isNum(1000000), "(add 1000000 1000000)": isNum(1000000),
		"(add -999999 -1)": isNum(-1000000), "(add -1000000 -1)": isNum(-1000000), "(add -1000000 -1000000)": isNum(-1000000),
		"(add (add 1000000 1) -1)": isNum(999999), "(add -1 (add 1000000 1))": isNum(999999), "(add (add -1000000 -1) 1)": isNum(-999999),
		"(add (as any 2) (as num (as any 3)))": isNum(5),
		"(less 1 2)":                           isTruth(1), "(less 2 1)": isTruth(0), "(less 2 2)": isTruth(0), "(less -5 -4)": isTruth(1), "(less -4 -5)": isTruth(0),
		"(less -1000000 1000000)": isTruth(1), "(less (as any 1) (as any 2))": isTruth(1),
		"(if yes 1 2)": isNum(1), "(if no 1 2)": isNum(2), "(if (less 1 2) yes no)": isTruth(1), "(if (less 2 1) yes no)": isTruth(0),
		"(if (as any no) (as any 1) (fun num #0))": isFun, "(if (as any yes) (as any 1) (fun num #0))": isNum(1),
		"(call (fun num #0) 5)": isNum(5), "(call (fun any #0) yes)": isTruth(1), "(call (fun num 7) 5)": isNum(7),
		"(call (fun num (fun num #0)) 5)": isFun, "(call (fun any #0) (fun any #0))": isFun,
		"(call (call (fun num (fun num #0)) 3) 4)": isNum(4), "(call (call (fun num (fun num #1)) 3) 4)": isNum(3),
		"(call (call (call (fun any (fun any (fun any #0))) 1) 2) 3)":       isNum(3),
		"(call (call (call (fun any (fun any (fun any #1))) 1) 2) 3)":       isNum(2),
		"(call (call (call (fun any (fun any (fun any #2))) 1) 2) 3)":       isNum(1),
		"(call (fun num (add (call (fun num (add #0 #1)) 10) #0)) 1)":       isNum(12),
		"(call (as any (as (to num num) (as any (fun num (add #0 1))))) 6)": isNum(7),
		"(call (call " + counting + " " + counting + ") 0)":                 isNum(3),
	} {
		expectBoth(t, s, api.MaxFuel, want)
	}
}

// P4.1: what a Ref means hangs on where its function stands, not on where that is called.
func TestFunctionsKeepTheirScope(t *testing.T) {
	expectBoth(t, "(call (fun (to num num) (call (fun num (call #1 9)) 2)) (call (fun num (fun num #1)) 1))", 100, isNum(1))
	expectBoth(t, "(call (fun (to num num) (add (call #0 1) (call #0 2))) (call (fun num (fun num (add (add #0 #0) #1))) 10))", 100, isNum(26))
	expectBoth(t, "(call (fun num (add (call (fun num #0) 5) #0)) 7)", 100, isNum(12))
	expectBoth(t, "(call (fun any (call (call (fun any (fun any #1)) 3) #0)) 4)", 100, isNum(3))
	expectBoth(t, "(call (call (fun (to any any) (fun any (call #1 #0))) (call (fun any (fun any #1)) 6)) 4)", 100, isNum(6))
}

// P4.1: the first part is first, and what an If does not choose is not gone through.
func TestOrder(t *testing.T) {
	yes, no := "(as num (as any yes))", "(as num (as any no))"
	for s, want := range map[string]api.Outcome{
		"(add " + yes + " " + no + ")":                        blame(2),
		"(add 1 " + no + ")":                                  blame(3),
		"(less " + yes + " " + no + ")":                       blame(2),
		"(less 1 " + no + ")":                                 blame(3),
		"(add (as any yes) " + no + ")":                       blame(1),
		"(add " + omega + " " + no + ")":                      fuel,
		"(add " + yes + " " + omega + ")":                     blame(2),
		"(call (as any 3) " + yes + ")":                       blame(1),
		"(call (as any (fun any #0)) " + yes + ")":            blame(5),
		"(call (fun any " + yes + ") " + no + ")":             blame(6),
		"(call (call (fun any (fun any 1)) " + yes + ") 2)":   blame(6),
		"(if (as any 1) " + yes + " " + no + ")":              blame(1),
		"(if yes " + yes + " " + no + ")":                     blame(3),
		"(if no " + yes + " " + no + ")":                      blame(6),
		"(if yes 1 " + no + ")":                               isNum(1),
		"(if no " + yes + " 2)":                               isNum(2),
		"(if yes 1 " + omega + ")":                            isNum(1),
		"(if no " + omega + " 2)":                             isNum(2),
		"(fun any " + yes + ")":                               isFun,
		"(call (fun (to any any) 1) (fun any " + omega + "))": isNum(1),
	} {
		expect(t, s, api.MaxFuel, want)
	}
	for _, s := range []string{"(if yes 1 " + omega + ")", "(if no " + omega + " 1)", "(add (if yes 1 (call 2 3)) 0)", "(add 0 (if no (add yes 1) 1))"} {
		expectBare(t, s, 0, isNum(1))
	}
}

// P4.2: just so many calls are needed.
func TestFuel(t *testing.T) {
	for _, c := range []struct {
		s     string
		calls int
		want  api.Outcome
	}{
		{"7", 0, isNum(7)},
		{"(fun any (call #0 #0))", 0, isFun},
		{"(as any (fun any " + omega + "))", 0, isFun},
		{"(call (fun num #0) 1)", 1, isNum(1)},
		{"(call (fun any #0) (as any yes))", 1, isTruth(1)},
		{"(add (call (fun num #0) 1) (call (fun num #0) 2))", 2, isNum(3)},
		{"(call (fun num (call (fun num (add #0 #1)) #0)) 1)", 2, isNum(2)},
		{"(call (fun num #0) (call (fun num #0) 1))", 2, isNum(1)},
		{"(call (call (fun num (fun num #1)) 1) 2)", 2, isNum(1)},
		{"(call (fun any (if #0 1 (call (fun any 2) #0))) yes)", 1, isNum(1)},
		{"(call (fun any (if #0 1 (call (fun any 2) #0))) no)", 2, isNum(2)},
		{"(call (call " + counting + " " + counting + ") 0)", 8, isNum(3)},
		{"(call (call " + counting + " " + counting + ") 2)", 4, isNum(3)},
		{"(call (call " + counting + " " + counting + ") -43)", 94, isNum(3)},
		{"(call (call " + counting + " " + counting + ") -46)", 100, isNum(3)},
		{"(call (call " + counting + " " + counting + ") -47)", 102, isNum(3)},
	} {
		for calls := 0; calls <= api.MaxFuel; calls++ {
			want := c.want
			if calls < c.calls {
				want = fuel
			}
			expectBoth(t, c.s, calls, want)
		}
	}
	for calls := 0; calls <= api.MaxFuel; calls++ {
		expectBoth(t, omega, calls, fuel)
	}
}

// P4.2, P4.4: a chaperone has its function called, which is one call, and has looked at what that is given before.
func TestFuelOfChaperones(t *testing.T) {
	for _, s := range []string{
		"(call (as (to num num) (fun any #0)) 5)",
		"(call (as any (fun num #0)) 5)",
		"(call (as (to num any) (as any (as (to any num) (as any (fun num #0))))) 5)",
		"(call (if yes (fun num #0) (fun any 1)) 5)",
	} {
		expectBoth(t, s, 0, fuel)
		expectBoth(t, s, 1, isNum(5))
	}
	expect(t, "(call (as any (fun truth (if #0 1 2))) 3)", 0, blameBack(2))
	expect(t, "(call (as (to num num) (fun any (as any yes))) 5)", 0, fuel)
	expect(t, "(call (as (to num num) (fun any (as any yes))) 5)", 1, blame(2))
}

// P4.3
func TestStuck(t *testing.T) {
	for _, s := range []string{
		"(add yes 1)", "(add 1 no)", "(add yes no)", "(add (fun any #0) 1)", "(add 1 (fun any #0))", "(add 1 (less 1 2))",
		"(less yes 1)", "(less 1 no)", "(less (fun any #0) 1)", "(less 1 (fun any #0))",
		"(if 1 2 3)", "(if 0 2 3)", "(if (fun any #0) 2 3)", "(if (add 0 1) yes no)",
		"(call 1 2)", "(call yes 2)", "(call (call (fun any #0) 1) 2)",
		"(call (fun num (add #0 1)) (as any yes))", "(call (as any 3) 4)", "(add (as num (as any yes)) 1)",
		"(if yes (add yes 1) 2)", "(call (fun any (add #0 1)) no)", "(call (fun any 1) (call 2 3))",
	} {
		for _, calls := range []int{1, api.MaxFuel} {
			expectBare(t, s, calls, stuck)
		}
	}
	expectBare(t, "(call 1 2)", 0, stuck)
	expectBare(t, "(call (fun any (call 1 #0)) 2)", 0, fuel)
}

// P4.1, P4.3: both parts are gone through before they are needed.
func TestStuckIsAfterBothParts(t *testing.T) {
	for _, s := range []string{"(add yes " + omega + ")", "(less yes " + omega + ")", "(call 1 " + omega + ")"} {
		expectBare(t, s, api.MaxFuel, fuel)
	}
	expectBare(t, "(if 1 "+omega+" 2)", api.MaxFuel, stuck)
}

// P4.4
func TestCasts(t *testing.T) {
	for s, want := range map[string]api.Outcome{
		"(as num (as any yes))":                                                                     blame(1),
		"(as truth (as any 1))":                                                                     blame(1),
		"(as num (as any (fun any #0)))":                                                            blame(1),
		"(as truth (as any (fun any #0)))":                                                          blame(1),
		"(as (to num num) (as any 5))":                                                              blame(1),
		"(as (to any any) (as any yes))":                                                            blame(1),
		"(as num (as any (as any yes)))":                                                            blame(1),
		"(add 1 (as any yes))":                                                                      blame(2),
		"(if (as any 1) 2 3)":                                                                       blame(1),
		"(call (as any 3) 4)":                                                                       blame(1),
		"(as (to num num) (as any (fun truth #0)))":                                                 isFun,
		"(as (to num (to num num)) (as any (fun truth #0)))":                                        isFun,
		"(as any (as (to num num) (as any (fun truth #0))))":                                        isFun,
		"(call (as (to num num) (fun any #0)) 5)":                                                   isNum(5),
		"(call (as (to num num) (fun any (as any yes))) 5)":                                         blame(2),
		"(call (as (to num truth) (fun any (as any yes))) 5)":                                       isTruth(1),
		"(call (as any (fun truth (if #0 1 2))) 3)":                                                 blameBack(2),
		"(call (as any (fun truth (if #0 1 2))) no)":                                                isNum(2),
		"(call (as (to num num) (as any (fun truth #0))) 5)":                                        blameBack(3),
		"(call (as (to truth num) (as any (fun truth #0))) yes)":                                    blame(2),
		"(call (as (to truth any) (as any (fun truth #0))) yes)":                                    isTruth(1),
		"(add 1 (call (as (to num any) (as any (fun any #0))) 5))":                                  isNum(6),
		"(call (fun (to any num) (call #0 yes)) (fun num (add #0 #0)))":                             blameBack(5),
		"(add 1 (call (fun (to any num) (call #0 3)) (fun num (add #0 #0))))":                       isNum(7),
		"(call (fun (to num num) (call #0 1)) (fun any (as any yes)))":                              blame(5),
		"(call (as (to (to num num) num) (fun any (call #0 yes))) (fun num #0))":                    blame(2),
		"(call (as (to (to num num) num) (fun any (call #0 1))) (as any (fun num yes)))":            blame(6),
		"(call (as (to (to num any) num) (fun any (call #0 1))) (fun num (as any yes)))":            blame(2),
		"(call (as (to (to any num) num) (fun (to num num) (call #0 1))) (fun num #0))":             isNum(1),
		"(call (fun (to (to any any) num) (call #0 (fun any yes))) (fun (to num num) (call #0 1)))": blameBack(6),
		"(call (fun (to (to num any) num) (call #0 (fun num yes))) (fun (to num num) (call #0 1)))": blameBack(6),
	} {
		expect(t, s, api.MaxFuel, want)
	}
}

// DOC.md, examples of the whole
func TestExamplesOfTheWhole(t *testing.T) {
	for s, want := range map[string]api.Outcome{
		"(call (fun num (add #0 1)) (as any 6))":                        isNum(7),
		"(call (fun num (add #0 1)) (as any yes))":                      blame(5),
		"(call (as (to num num) (fun any (as any yes))) 5)":             blame(2),
		"(call (fun (to any num) (call #0 yes)) (fun num (add #0 #0)))": blameBack(5),
		"(call (fun any (call #0 #0)) (fun any (call #0 #0)))":          fuel,
	} {
		expect(t, s, api.MaxFuel, want)
	}
}

// P4.5, P4.6: fuel beyond its bounds.
func outOfRange() []int { return []int{-1, api.MaxFuel + 1, math.MinInt, math.MaxInt, -api.MaxFuel} }

func expectError(t *testing.T, what string, o api.Outcome, e, want api.Errno) {
	t.Helper()
	if e != want || o != (api.Outcome{}) {
		t.Errorf("%s: %+v, %d, not %d", what, o, e, want)
	}
}

// P4.5, P4.6
func TestFuelOutOfRange(t *testing.T) {
	for _, s := range []string{"7", "(fun any #0)", omega, "(call (as any 3) 4)"} {
		for _, calls := range outOfRange() {
			o, e := run.Run(parse(t, s), calls)
			expectError(t, "Run of "+s, o, e, api.ErrRange)
			o, e = run.Bare(parse(t, s), calls)
			expectError(t, "Bare of "+s, o, e, api.ErrRange)
			o, e = run.Text(s, calls)
			expectError(t, "Text of "+s, o, e, api.ErrRange)
		}
	}
}

// P4.5, P4.6: a term without a type is refused, but not by Bare.
func TestTermsWithoutType(t *testing.T) {
	for s, want := range map[string]api.Outcome{
		"(add yes 1)": stuck, "(call 3 4)": stuck, "(if 1 2 3)": stuck, "(if yes 1 no)": isNum(1),
		"(as num yes)": isTruth(1), "(fun any (add yes #0))": isFun, "(call (fun num #0) yes)": isTruth(1),
		"(as (to num num) 3)": isNum(3), "(call (as num (fun any #0)) 4)": isNum(4),
	} {
		for _, calls := range append(outOfRange(), 0, 1, api.MaxFuel) {
			o, e := run.Run(parse(t, s), calls)
			expectError(t, "Run of "+s, o, e, api.ErrType)
			o, e = run.Text(s, calls)
			expectError(t, "Text of "+s, o, e, api.ErrType)
		}
		expectBare(t, s, api.MaxFuel, want)
	}
}

// P4.6
func TestTextsThatTellNoTerm(t *testing.T) {
	for s, want := range map[string]api.Errno{
		"": api.ErrForm, " ": api.ErrForm, "(call": api.ErrForm, "#0": api.ErrForm, "(add 1)": api.ErrForm, "07": api.ErrForm, "1000001": api.ErrForm,
		"(fun any #1)": api.ErrForm, "(cast num 1)": api.ErrForm, "7 7": api.ErrForm, "\x00": api.ErrForm,
		strings.Repeat(" ", api.MaxSource) + "7":                       api.ErrLong,
		strings.Repeat("(", api.MaxSource+1):                           api.ErrLong,
		"(add yes 1)" + strings.Repeat(" ", 1000):                      api.ErrLong,
		strings.Repeat("(as any ", 100) + "1":                          api.ErrForm,
		strings.Repeat("(as num ", 40) + "1" + strings.Repeat(")", 40): api.ErrForm,
	} {
		for _, calls := range append(outOfRange(), 0, api.MaxFuel) {
			o, e := run.Text(s, calls)
			expectError(t, "Text of "+s, o, e, want)
		}
	}
}

// P4.6
func TestTextsAsOneLikes(t *testing.T) {
	for s, want := range map[string]api.Outcome{
		strings.Repeat(" ", api.MaxSource-1) + "7":                                       isNum(7),
		"\n( call(fun num(add #0 1))\n\n(as any 6) )\n":                                  isNum(7),
		strings.Repeat("(as num ", 39) + "1" + strings.Repeat(")", 39):                   isNum(1),
		"(call (fun any (call #0 #0)) (fun any 3))":                                      isNum(3),
		strings.Repeat("(call (fun any #0) ", 13) + "yes" + strings.Repeat(")", 13):      isTruth(1),
		strings.Repeat("(call (as any (fun any #0)) ", 9) + "2" + strings.Repeat(")", 9): isNum(2),
	} {
		if o, e := run.Text(s, api.MaxFuel); e != api.OK || o != want {
			t.Errorf("%q: %+v, %d", s, o, e)
		}
	}
}

// wrongOnes are terms that are not good, each in another way.
func wrongOnes() []api.Term {
	one, deep := lit(1), fun(num, fun(num, fun(num, fun(num, num))))
	return []api.Term{
		{}, {Kind: -1}, {Kind: 11}, {Kind: math.MaxInt}, {Kind: math.MinInt}, ref(0), ref(-1), ref(math.MaxInt), ref(math.MinInt),
		lit(api.MaxNumber + 1), lit(-api.MaxNumber - 1), lit(math.MinInt), {Kind: api.Says, N: 2}, {Kind: api.Says, N: -1},
		of(api.Add), of(api.Add, one), of(api.Add, one, one, one), of(api.Less, one), of(api.If, one, one), of(api.If), of(api.Call, one), of(api.Call),
		of(api.Fn), of(api.Fn, one, one), of(api.As), of(api.As, one, one), of(api.Lit, one), of(api.Ref, one), of(api.Says, one),
		of(api.Cast), of(api.Cast, one, one), cast(0, num, open, one), cast(0, open, num, one), cast(1, num, num, one), cast(1, num, truth, one),
		typed(api.As, deep, one), typed(api.Fn, deep, one), typed(api.As, api.Type{Kind: 4}, one), typed(api.Fn, api.Type{Kind: api.Fun}, one),
		typed(api.Fn, fun(num, api.Type{Kind: -1}), one), typed(api.As, api.Type{Kind: api.Num, L: []api.Type{num}}, one),
		{Kind: api.Lit, T: num}, {Kind: api.Lit, From: num}, {Kind: api.Add, T: num, L: []api.Term{one, one}}, {Kind: api.Call, N: 1, L: []api.Term{one, one}},
	}
}

// around has a term in all places of others.
func around(x api.Term) []api.Term {
	one, yes := lit(1), api.Term{Kind: api.Says, N: 1}
	return []api.Term{
		of(api.Add, x, one), of(api.Add, one, x), of(api.Less, x, yes), of(api.Less, yes, x), of(api.Call, one, x), of(api.Call, x, one),
		of(api.If, x, one, one), of(api.If, yes, x, one), of(api.If, yes, one, x), typed(api.As, num, x), typed(api.As, open, typed(api.As, num, x)),
	}
}

// P4.5, P4.6: the form is named first.
func TestTermsThatAreNotGood(t *testing.T) {
	for _, x := range wrongOnes() {
		for _, y := range append(around(x), x) {
			for _, calls := range append(outOfRange(), 0, api.MaxFuel) {
				o, e := run.Run(y, calls)
				expectError(t, "Run", o, e, api.ErrForm)
				o, e = run.Bare(y, calls)
				expectError(t, "Bare", o, e, api.ErrForm)
			}
		}
	}
}

// P4.5, P4.6: what Check answered has casts, and so is not good.
func TestTermsWithCastsAreNotGood(t *testing.T) {
	with, _, _ := check.Check(parse(t, "(call (fun num (add #0 1)) (as any 6))"))
	o, e := run.Run(with, api.MaxFuel)
	expectError(t, "Run", o, e, api.ErrForm)
	o, e = run.Bare(with, api.MaxFuel)
	expectError(t, "Bare", o, e, api.ErrForm)
}

// The stack is made small, so that fewer levels show what millions would do to the usual one.
func TestDepthDoesNotBreakTheStack(t *testing.T) {
	defer debug.SetMaxStack(debug.SetMaxStack(2 << 20))
	deep := num
	x, y := lit(1), lit(1)
	for range 100000 {
		deep = fun(open, deep)
		x, y = typed(api.As, num, x), of(api.Add, lit(0), y)
	}
	for _, z := range []api.Term{x, y, typed(api.As, deep, lit(1)), cast(0, deep, open, lit(1))} {
		o, e := run.Run(z, 1)
		expectError(t, "Run", o, e, api.ErrForm)
		o, e = run.Bare(z, 1)
		expectError(t, "Bare", o, e, api.ErrForm)
	}
	within := fun(num, num)
	within.L[0] = within
	itself := of(api.Add, lit(1), lit(2))
	itself.L[0] = itself
	for _, z := range []api.Term{itself, typed(api.As, within, lit(1))} {
		o, e := run.Run(z, 1)
		expectError(t, "Run", o, e, api.ErrForm)
		o, e = run.Bare(z, 1)
		expectError(t, "Bare", o, e, api.ErrForm)
	}
}

// A list without elements may be nil or not.
func TestEmptyListsOrNone(t *testing.T) {
	none := api.Type{L: []api.Type{}}
	one := api.Term{Kind: api.Lit, N: 1, T: none, From: none, L: []api.Term{}}
	f := api.Term{Kind: api.Fn, T: none, From: none, L: []api.Term{{Kind: api.Ref, L: []api.Term{}}}}
	x := of(api.Call, f, typed(api.As, none, one))
	if o, e := run.Run(x, 1); e != api.OK || o != isNum(1) {
		t.Errorf("Run: %+v, %d", o, e)
	}
	if o, e := run.Bare(x, 1); e != api.OK || o != isNum(1) {
		t.Errorf("Bare: %+v, %d", o, e)
	}
}

// withRoom has lists with marked room behind them.
func withRoom(x api.Term) api.Term {
	list := make([]api.Term, 0, len(x.L)+2)
	for _, part := range x.L {
		list = append(list, withRoom(part))
	}
	whole := append(list, of(77), of(77))
	x.T, x.From, x.L = typeWithRoom(x.T), typeWithRoom(x.From), whole[:len(list)]
	return x
}

func typeWithRoom(t api.Type) api.Type {
	list := make([]api.Type, 0, len(t.L)+2)
	for _, part := range t.L {
		list = append(list, typeWithRoom(part))
	}
	whole := append(list, api.Type{Kind: 77}, api.Type{Kind: 77})
	return api.Type{Kind: t.Kind, L: whole[:len(list)]}
}

// whole has the lists of a term with all the room that they have.
func whole(x api.Term) api.Term {
	list := []api.Term{}
	for _, part := range x.L[:cap(x.L)] {
		list = append(list, whole(part))
	}
	x.T, x.From, x.L = wholeType(x.T), wholeType(x.From), list
	return x
}

func wholeType(t api.Type) api.Type {
	list := []api.Type{}
	for _, part := range t.L[:cap(t.L)] {
		list = append(list, wholeType(part))
	}
	return api.Type{Kind: t.Kind, L: list}
}

func TestWhatIsHandedInStays(t *testing.T) {
	all := wrongOnes()
	for _, s := range []string{
		omega, "(call (call " + counting + " " + counting + ") 0)", "(add yes 1)",
		"(call (as (to (to num any) num) (fun any (call #0 1))) (fun num (as any yes)))",
		"(call (fun (to any num) (call #0 yes)) (fun num (add #0 #0)))",
	} {
		all = append(all, parse(t, s))
	}
	for i, x := range all {
		made, before := withRoom(x), whole(withRoom(x))
		run.Run(made, api.MaxFuel)
		run.Bare(made, api.MaxFuel)
		if !reflect.DeepEqual(whole(made), before) {
			t.Errorf("term %d is changed", i)
		}
	}
}
