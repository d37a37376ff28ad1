package term_test

import (
	"reflect"
	"strconv"
	"strings"
	"testing"

	"chaperone/api"
	"chaperone/term"
)

// told are good terms, each with the text that Print must give.
func told() map[string]api.Term {
	one, f := lit(1), fun(num, fun(open, truth))
	return map[string]api.Term{
		"0": lit(0), "7": lit(7), "-7": lit(-7), "10": lit(10), "-10": lit(-10),
		"1000000": lit(api.MaxNumber), "-1000000": lit(-api.MaxNumber), "no": says(0), "yes": says(1),
		"(add 1 2)": of(api.Add, one, lit(2)), "(less -3 1)": of(api.Less, lit(-3), one),
		"(if yes 1 no)": of(api.If, says(1), one, says(0)), "(call 1 yes)": of(api.Call, one, says(1)),
		"(fun any #0)": typed(api.Fn, open, ref(0)), "(fun truth 1)": typed(api.Fn, truth, one),
		"(as num yes)": typed(api.As, num, says(1)), "(as any 1)": typed(api.As, open, one),
		"(fun (to num (to any truth)) #0)":                 typed(api.Fn, f, ref(0)),
		"(as (to (to num (to any truth)) num) 1)":          typed(api.As, fun(f, num), one),
		"(as (to (to any any) (to any any)) 1)":            typed(api.As, fun(fun(open, open), fun(open, open)), one),
		"(fun num (fun any (add #1 #0)))":                  typed(api.Fn, num, typed(api.Fn, open, of(api.Add, ref(1), ref(0)))),
		"(call (fun num (add #0 1)) (as any 6))":           of(api.Call, typed(api.Fn, num, of(api.Add, ref(0), one)), typed(api.As, open, lit(6))),
		"(if (less 1 2) (add 3 4) (if no yes (as any 0)))": of(api.If, of(api.Less, one, lit(2)), of(api.Add, lit(3), lit(4)), of(api.If, says(0), says(1), typed(api.As, open, lit(0)))),
	}
}

// P2.3
func TestPrint(t *testing.T) {
	for want, x := range told() {
		if s, e := term.Print(x); s != want || e != api.OK {
			t.Errorf("%q, %d instead of %q", s, e, want)
		}
	}
}

// P2.4
func TestParse(t *testing.T) {
	for s, want := range told() {
		if x, e := term.Parse(s); e != api.OK || !reflect.DeepEqual(x, want) {
			t.Errorf("%q: %v, %d", s, x, e)
		}
	}
}

// P2.3
func TestPrintOfManyFunctions(t *testing.T) {
	x := ref(38)
	for range 39 {
		x = typed(api.Fn, open, x)
	}
	want := strings.Repeat("(fun any ", 39) + "#38" + strings.Repeat(")", 39)
	if s, e := term.Print(x); s != want || e != api.OK {
		t.Errorf("%q, %d", s, e)
	}
	if got, e := term.Parse(want); e != api.OK || !term.Same(got, x) {
		t.Errorf("%v, %d", got, e)
	}
}

// P2.3
func TestPrintOfWrongTerms(t *testing.T) {
	wrong := append(wrongOnes(), ref(0), ref(1), typed(api.Fn, num, ref(1)), chain(41), comb(41, 0), comb(41, 1))
	for i, x := range wrong {
		for _, y := range append(around(x), x) {
			if term.Good(y, 0) {
				continue // a Fn around a Ref is good, though the Ref is not
			}
			if s, e := term.Print(y); s != "" || e != api.ErrForm {
				t.Errorf("wrong term %d, %v: %q, %d", i, y, s, e)
			}
		}
	}
}

// ofDigits is a number of so many digits.
func ofDigits(digits int) int {
	n := 1
	for range digits - 1 {
		n *= 10
	}
	return n
}

// long is a good term of a text of so many bytes, from 950 to 1050: a sum of which the
// first part is within types that are long, and types that are short.
func long(bytes int) (api.Term, string) {
	const wide = "(to (to (to any any) (to any any)) (to (to any any) any))"
	rest := bytes - len("(add  )") - 14*len("(as  )"+wide)
	short := (rest - 2) / len("(as any )")
	digits := rest - short*len("(as any )")
	one, other := ofDigits(digits/2), ofDigits(digits-digits/2)
	x, text := lit(one), strconv.Itoa(one)
	for range short {
		x, text = typed(api.As, open, x), "(as any "+text+")"
	}
	for range 14 {
		x = typed(api.As, fun(fun(fun(open, open), fun(open, open)), fun(fun(open, open), open)), x)
		text = "(as " + wide + " " + text + ")"
	}
	return of(api.Add, x, lit(other)), "(add " + text + " " + strconv.Itoa(other) + ")"
}

// P2.3, P2.4
func TestLongestText(t *testing.T) {
	for bytes := 990; bytes <= 1010; bytes++ {
		x, want := long(bytes)
		if len(want) != bytes || !term.Good(x, 0) {
			t.Fatalf("the test is wrong: %d bytes of %d, %v", len(want), bytes, x)
		}
		s, e := term.Print(x)
		y, f := term.Parse(want)
		if bytes <= api.MaxSource {
			if s != want || e != api.OK || f != api.OK || !term.Same(x, y) {
				t.Errorf("%d bytes: %q, %d; %v, %d", bytes, s, e, y, f)
			}
			continue
		}
		if s != "" || e != api.ErrLong || f != api.ErrLong || !isZero(y) {
			t.Errorf("%d bytes: %q, %d; %v, %d", bytes, s, e, y, f)
		}
	}
}

func isZero(x api.Term) bool {
	return x.Kind == 0 && x.N == 0 && x.T.Kind == 0 && len(x.T.L) == 0 && x.From.Kind == 0 && len(x.From.L) == 0 && len(x.L) == 0
}

// P2.3: the error that the chapter names first.
func TestPrintOfWrongAndLongTerms(t *testing.T) {
	x, _ := long(1010)
	x.L[1] = ref(0)
	if s, e := term.Print(x); s != "" || e != api.ErrForm {
		t.Errorf("%q, %d", s, e)
	}
	x, _ = long(1010)
	x.N = 1
	if s, e := term.Print(x); s != "" || e != api.ErrForm {
		t.Errorf("%q, %d", s, e)
	}
}

// P2.4
func TestParseTakesSpaces(t *testing.T) {
	for s, want := range map[string]string{
		" 7": "7", "7 ": "7", "\n7\n": "7", "  \n  yes\n \n": "yes", "\n#0": "",
		"(add 1 2) ": "(add 1 2)", " ( add 1 2 ) ": "(add 1 2)", "(\nadd\n1\n2\n)": "(add 1 2)",
		"(add  1   2)": "(add 1 2)", "(add(add 1 2)(add 3 4))": "(add (add 1 2) (add 3 4))",
		"(if(less 1 2)no(less 3 4))": "(if (less 1 2) no (less 3 4))",
		"(fun(to num any)#0)":        "(fun (to num any) #0)",
		"(as(to(to any num)truth)1)": "(as (to (to any num) truth) 1)",
		"( as ( to any\nnum ) 1\n)":  "(as (to any num) 1)",
		"(call(fun any #0)-5)":       "(call (fun any #0) -5)",
		"(fun any(call #0  #0) )":    "(fun any (call #0 #0))",
		"(add1 2)":                   "", "(add 12)": "", "(addyes no)": "", "( fun any#0)": "", "(as num yes no)": "", "(asnum 1)": "",
	} {
		x, e := term.Parse(s)
		if want == "" {
			if e != api.ErrForm || !isZero(x) {
				t.Errorf("%q: %v, %d", s, x, e)
			}
			continue
		}
		if got, f := term.Print(x); e != api.OK || f != api.OK || got != want {
			t.Errorf("%q: %q, %d, %d", s, got, e, f)
		}
	}
}

// P2.4: of all bytes only two are spaces.
func TestParseTakesNoOtherSpaces(t *testing.T) {
	for b := range 256 {
		space := string([]byte{byte(b)})
		want := api.ErrForm
		if b == 32 || b == 10 {
			want = api.OK
		}
		for _, s := range []string{space + "yes", "yes" + space, "(" + space + "add 1 2)", "(add" + space + "1 2)", "(add 1 no" + space + ")", "(add 1 2)" + space, "(as" + space + "num 1)", "(as num" + space + "yes)"} {
			if x, e := term.Parse(s); e != want || e != api.OK && !isZero(x) {
				t.Errorf("%q: %d", s, e)
			}
		}
	}
	for _, s := range []string{"(add\u00a01 2)", "(add\u20031 2)", "\ufeff7", "7\u0085", "7\u2028", "(add 1\r\n2)"} {
		if _, e := term.Parse(s); e != api.ErrForm {
			t.Errorf("%q: %d", s, e)
		}
	}
}

// P2.4
func TestParseOfNumbers(t *testing.T) {
	for _, n := range []int{0, 1, -1, 9, 10, 99, 100, -100, 999999, 1000000, -1000000} {
		if x, e := term.Parse(strconv.Itoa(n)); e != api.OK || !term.Same(x, lit(n)) {
			t.Errorf("%d: %v, %d", n, x, e)
		}
	}
	for _, s := range []string{
		"-0", "00", "01", "007", "-07", "-00", "+1", "+0", "--1", "-", "- 1", "1-", "1_000", "0x1", "0b1", "1e3", "1.0", "1.", ".5",
		"1000001", "-1000001", "01000000", "9223372036854775807", "9223372036854775808", "-9223372036854775808", "-9223372036854775809",
		"18446744073709551617", "18446744073709551616", "99999999999999999999999999", "\u0661", "\uff11", "1a", "a1", "Inf", "NaN",
	} {
		if x, e := term.Parse(s); e != api.ErrForm || !isZero(x) {
			t.Errorf("%q: %v, %d", s, x, e)
		}
		if x, e := term.Parse("(fun num #" + s + ")"); e != api.ErrForm || !isZero(x) {
			t.Errorf("#%s: %v, %d", s, x, e)
		}
	}
}

// P2.4
func TestParseOfWrongTexts(t *testing.T) {
	deep := "(to any (to any (to any (to any num))))"
	for _, s := range []string{
		"", " ", "\n", "()", "(", ")", ")(", "(())", "7 8", "7 yes", "(7)", "(yes)", "((add 1 2))", "no)", "(no", "yes)", "(add 1 2))", "((add 1 2)",
		"(add 1 2) 3", "3 (add 1 2)", "(add 1 2)(add 1 2)", "#0", "#", "(fun num #)", "(fun num # 0)", "(fun num #1)", "(fun num #-1)", "(fun num #-0)",
		"(fun num #00)", "(fun num #+0)", "(fun num ##0)", "(fun num 0#)", "(fun num #0", "fun num #0", "fun num #0)", "(fun num #9223372036854775807)",
		"(add)", "(add 1)", "(add 1 2 3)", "(less)", "(less 1)", "(less 1 2 3)", "(if)", "(if yes)", "(if yes 1)", "(if yes 1 2 3)", "(call)", "(call 1)", "(call 1 2 3)",
		"(fun)", "(fun num)", "(fun #0)", "(fun 1 2)", "(fun num 1 2)", "(as)", "(as num)", "(as 1)", "(as 1 num)", "(as num 1 2)", "(as num num)", "(fun any any)",
		"(add num 1 2)", "(if num yes 1 2)", "(call any 1 2)", "(less any 1 2)", "(as to 1)", "(as (to) 1)", "(as (to num) 1)", "(as (to num num num) 1)",
		"(as (num) 1)", "(as (any) 1)", "(as (num num) 1)", "(as (to num num 1)", "(as to num num 1)", "(as (to 1 num) 1)", "(as (to num yes) 1)", "(as (to num num)) 1)", "(as (to num num num 1)", "(as (to num num 2 1)", "(as (to num num ( 1)",
		"(as ((to num num)) 1)", "(as (fun num num) 1)", "(as fun 1)", "(as Fun 1)", "((as) num 1)", "(to num num)", "(to 1 2)", "to", "num", "any", "truth", "add", "as", "if",
		"(Add 1 2)", "(ADD 1 2)", "Yes", "YES", "nope", "y", "n", "(cast num 1)", "(cast num num 1)", "(ref 0)", "(lit 1)", "(says 1)", "(fn num 1)", "(sub 1 2)", "(ad 1 2)", "(addd 1 2)",
		"(as " + deep + " 1)", "(fun " + deep + " 1)", "(fun (to " + deep + " num) 1)", "(add\t1 2)", "(add,1,2)", "[add 1 2]", "{add 1 2}", "(add 1 2;)", "\"yes\"", "'yes'",
		"\x00", "yes\x00", "\xff", "(add 1 \xff)", "(\xff 1 2)", "(as \xff 1)", "(as (to \xff num) 1)", "(as (\xff num num) 1)", "é", "(add 1 2)é", strings.Repeat("(", 1000), strings.Repeat(")", 1000),
		strings.Repeat("(as(to", 166), strings.Repeat("(as any ", 125), "(as " + strings.Repeat("(to ", 249), strings.Repeat(" ", 1000), strings.Repeat("0", 1000), strings.Repeat("1", 1000), strings.Repeat("(add 1 ", 142),
	} {
		if x, e := term.Parse(s); e != api.ErrForm || !isZero(x) {
			t.Errorf("%q: %v, %d", s, x, e)
		}
	}
}

// P2.4
func TestParseIsBoundByNodes(t *testing.T) {
	for count := 1; count <= 60; count++ {
		s := strings.Repeat("(as num ", count-1) + "1" + strings.Repeat(")", count-1)
		want := api.OK
		if count > api.MaxNodes {
			want = api.ErrForm
		}
		if x, e := term.Parse(s); e != want || e == api.OK && !term.Same(x, chain(count)) {
			t.Errorf("%d terms: %v, %d", count, x, e)
		}
	}
}

// P2.4: how long a text is counts ahead of what it tells, spaces too.
func TestParseOfLongTexts(t *testing.T) {
	pad := func(s string, bytes int) string { return s + strings.Repeat(" ", bytes-len(s)) }
	for s, want := range map[string]api.Errno{
		pad("7", 1000): api.OK, pad("7", 1001): api.ErrLong, pad("(add 1 2)", 1000): api.OK, pad("(add 1 2)", 1001): api.ErrLong,
		strings.Repeat("\n", 999) + "7": api.OK, strings.Repeat("\n", 1000) + "7": api.ErrLong,
		"(add 1" + strings.Repeat(" ", 992) + "2)": api.OK, "(add 1" + strings.Repeat(" ", 993) + "2)": api.ErrLong,
		pad("(", 1000): api.ErrForm, pad("(", 1001): api.ErrLong, strings.Repeat("\xff", 1001): api.ErrLong, strings.Repeat("(", 1001): api.ErrLong,
		strings.Repeat("é", 500): api.ErrForm, strings.Repeat("é", 501): api.ErrLong, string(make([]byte, 100000)): api.ErrLong,
	} {
		if x, e := term.Parse(s); e != want || e != api.OK && !isZero(x) {
			t.Errorf("%d bytes, %.20q: %d", len(s), s, e)
		}
	}
}

// P2.4: of all rows of at most 6 of these words, those are terms that goodRows tells, and no others.
func TestParseOfAllShortTexts(t *testing.T) {
	all := []string{"(", ")", "add", "if", "fun", "as", "num", "1", "#0", "to"}
	want := map[string]bool{}
	for _, row := range goodRows() {
		want[row] = true
	}
	found := 0
	var try func(row string, left int)
	try = func(row string, left int) {
		_, e := term.Parse(row)
		if (e == api.OK) != want[row] || e != api.OK && e != api.ErrForm {
			t.Errorf("%q: %d", row, e)
		}
		if e == api.OK {
			found++
		}
		if left > 0 {
			for _, word := range all {
				try(row+word+" ", left-1)
			}
		}
	}
	try("", 6)
	if found != len(want) {
		t.Errorf("%d instead of %d", found, len(want))
	}
}

// goodRows are the terms of at most 6 of the words of the test above.
func goodRows() []string {
	return []string{
		"1 ", "( add 1 1 ) ", "( if 1 1 1 ) ", "( as num 1 ) ", "( fun num 1 ) ", "( fun num #0 ) ",
	}
}

// grow makes terms of all kinds from a row of numbers, each good within so many functions.
func grow(row *uint32, room, functions int) api.Term {
	next := func(below uint32) int {
		*row = *row*1664525 + 1013904223
		return int((*row >> 8) % below)
	}
	kind := next(9) + 1
	if room < 4 && kind > api.Says || kind == api.Ref && functions == 0 {
		kind = api.Lit
	}
	x := api.Term{Kind: kind}
	switch kind {
	case api.Ref:
		x.N = next(uint32(functions))
	case api.Lit:
		x.N = next(2*api.MaxNumber+1) - api.MaxNumber
	case api.Says:
		x.N = next(2)
	case api.Fn:
		x.T, functions = growType(next, api.MaxDeep), functions+1
	case api.As:
		x.T = growType(next, api.MaxDeep)
	}
	count := [...]int{0, 0, 0, 0, 2, 2, 3, 1, 2, 1}[kind]
	for range count {
		x.L = append(x.L, grow(row, (room-1)/count, functions))
	}
	return x
}

func growType(next func(uint32) int, levels int) api.Type {
	kind := next(5)
	if kind < api.Fun || levels == 1 {
		return api.Type{Kind: kind % 3}
	}
	return fun(growType(next, levels-1), growType(next, levels-1))
}

// P2.3, P2.4
func TestParseReadsWhatPrintTells(t *testing.T) {
	row := uint32(1)
	kinds := map[int]int{}
	for range 20000 {
		x := grow(&row, api.MaxNodes, 0)
		s, e := term.Print(x)
		if !term.Good(x, 0) || e == api.ErrForm || (e == api.ErrLong) != (s == "") {
			t.Fatalf("%v: %q, %d", x, s, e)
		}
		if e == api.ErrLong {
			continue
		}
		kinds[x.Kind]++
		y, e := term.Parse(s)
		again, f := term.Print(y)
		if e != api.OK || f != api.OK || again != s || !term.Same(x, y) || !reflect.DeepEqual(x, y) {
			t.Fatalf("%q: %v, %d; %q, %d", s, y, e, again, f)
		}
		checkCut(t, s)
	}
	if len(kinds) != 8 {
		t.Errorf("of 8 kinds only %v", kinds)
	}
}

// checkCut holds a text without its last byte, or without its first one, to be none, unless it is a number or truth.
func checkCut(t *testing.T, s string) {
	if s[0] != '(' {
		return
	}
	for _, cut := range []string{s[1:], s[:len(s)-1], s + ")", "(" + s, s + s, s[:len(s)-1] + " 1)"} {
		if _, e := term.Parse(cut); e != api.ErrForm && len(cut) <= api.MaxSource {
			t.Fatalf("%q: %d", cut, e)
		}
	}
}

// The lists of an answer are its own.
func TestParseAnswersNewLists(t *testing.T) {
	s := "(add (as (to num num) 1) (as (to num num) 1))"
	x, _ := term.Parse(s)
	y, _ := term.Parse(s)
	x.L[0].L[0].N, x.L[0].T.L[0].Kind = 9, api.Truth
	x.L[0].T.L = append(x.L[0].T.L, num)
	if got, e := term.Print(y); got != s || e != api.OK {
		t.Errorf("%q, %d", got, e)
	}
	if x.L[1].L[0].N != 1 || x.L[1].T.L[0].Kind != api.Num || len(x.L[1].T.L) != 2 {
		t.Errorf("%v", x)
	}
}
