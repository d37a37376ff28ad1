package kind_test

import (
	"math"
	"runtime/debug"
	"strings"
	"testing"

	"chaperone/api"
	"chaperone/kind"
)

var (
	open  = api.Type{}
	num   = api.Type{Kind: api.Num}
	truth = api.Type{Kind: api.Truth}
)

// fun makes the type without kind.To, so that a fault there shows only in its own test.
func fun(a, b api.Type) api.Type {
	return api.Type{Kind: api.Fun, L: []api.Type{a, b}}
}

// text tells a right type, and marks what is none with a "?".
func text(t api.Type) string {
	switch {
	case t.Kind == api.Fun && len(t.L) == 2:
		return "(to " + text(t.L[0]) + " " + text(t.L[1]) + ")"
	case len(t.L) == 0 && t.Kind == api.Any:
		return "any"
	case len(t.L) == 0 && t.Kind == api.Num:
		return "num"
	case len(t.L) == 0 && t.Kind == api.Truth:
		return "truth"
	}
	return "?"
}

// typesWithin are all right types of at most so many levels, each once.
func typesWithin(levels int) []api.Type {
	all := []api.Type{open, num, truth}
	if levels == 1 {
		return all
	}
	parts := typesWithin(levels - 1)
	for _, a := range parts {
		for _, b := range parts {
			all = append(all, fun(a, b))
		}
	}
	return all
}

func levelsOf(t api.Type) int {
	deepest := 0
	for _, part := range t.L {
		deepest = max(deepest, levelsOf(part))
	}
	return deepest + 1
}

// tower has so many levels, with bottom as the lowest one, always in the part that side names.
func tower(levels, side int, bottom api.Type) api.Type {
	t := bottom
	for range levels - 1 {
		if side == 0 {
			t = fun(t, num)
		} else {
			t = fun(num, t)
		}
	}
	return t
}

// wrongTypes are some that are not right, each in another way.
func wrongTypes() []api.Type {
	return []api.Type{
		{Kind: -1}, {Kind: 4}, {Kind: math.MaxInt}, {Kind: math.MinInt},
		{Kind: 4, L: []api.Type{num, num}}, {Kind: -1, L: []api.Type{num, num}},
		{Kind: api.Fun}, {Kind: api.Fun, L: []api.Type{}}, {Kind: api.Fun, L: []api.Type{num}},
		{Kind: api.Fun, L: []api.Type{open}}, {Kind: api.Fun, L: []api.Type{num, num, num}},
		{Kind: api.Fun, L: []api.Type{open, open, open}},
		{Kind: api.Any, L: []api.Type{num}}, {Kind: api.Any, L: []api.Type{num, num}},
		{Kind: api.Num, L: []api.Type{num}}, {Kind: api.Num, L: []api.Type{num, num}},
		{Kind: api.Truth, L: []api.Type{open}}, {Kind: api.Truth, L: []api.Type{num, num}},
	}
}

// P1.1
func TestGoodOfRightTypes(t *testing.T) {
	for _, a := range typesWithin(api.MaxDeep) {
		if !kind.Good(a) {
			t.Fatalf("Good(%s): false", text(a))
		}
		if levelsOf(a) < api.MaxDeep {
			continue
		}
		if kind.Good(fun(a, num)) || kind.Good(fun(num, a)) {
			t.Fatalf("Good of one more around %s: true", text(a))
		}
	}
}

// P1.1
func TestGoodIsBoundByDepth(t *testing.T) {
	for side := range 2 {
		for levels := 1; levels <= 60; levels++ {
			if got := kind.Good(tower(levels, side, num)); got != (levels <= api.MaxDeep) {
				t.Errorf("Good of %d levels, side %d: %v", levels, side, got)
			}
		}
	}
}

// P1.1
func TestGoodOfWrongTypes(t *testing.T) {
	for i, wrong := range wrongTypes() {
		for _, a := range []api.Type{wrong, fun(wrong, num), fun(num, wrong), fun(num, fun(wrong, num)), fun(fun(num, fun(num, wrong)), num)} {
			if kind.Good(a) {
				t.Errorf("wrong type %d, %v: Good", i, a)
			}
		}
	}
}

// P1.1
func TestGoodTakesEmptyListsOrNone(t *testing.T) {
	for k := api.Any; k <= api.Truth; k++ {
		for _, a := range []api.Type{{Kind: k}, {Kind: k, L: []api.Type{}}, {Kind: k, L: make([]api.Type, 0, 3)}} {
			if !kind.Good(a) || !kind.Good(fun(a, a)) {
				t.Errorf("kind %d, list %v: not Good", k, a.L)
			}
		}
	}
}

// P1.1
func TestGoodEndsAtAListWithinItself(t *testing.T) {
	a := fun(num, num)
	a.L[0], a.L[1] = a, a
	if kind.Good(a) {
		t.Error("Good")
	}
}

// P1.1
func TestSame(t *testing.T) {
	all := typesWithin(3)
	again := typesWithin(3)
	for i, a := range all {
		for j, b := range again {
			if kind.Same(a, b) != (i == j) {
				t.Fatalf("Same(%s, %s): %v", text(a), text(b), i != j)
			}
		}
	}
}

// P1.1
func TestSameOfWrongTypes(t *testing.T) {
	all := append(wrongTypes(), open, num, truth, fun(num, num))
	again := append(wrongTypes(), open, num, truth, fun(num, num))
	// 6 and 7 are Fun without parts, of a nil list and of one that is not nil.
	alike := func(i, j int) bool { return i == j || i+j == 13 && (i == 6 || j == 6) }
	for i, a := range all {
		for j, b := range again {
			want := alike(i, j)
			if kind.Same(a, b) != want || kind.Same(fun(num, a), fun(num, b)) != want || kind.Same(fun(a, num), fun(b, num)) != want {
				t.Errorf("Same(%v, %v): not %v", a, b, want)
			}
		}
	}
}

// P1.1
func TestSameTakesEmptyListsOrNone(t *testing.T) {
	for k := -1; k <= 4; k++ {
		a, b := api.Type{Kind: k}, api.Type{Kind: k, L: []api.Type{}}
		if !kind.Same(a, b) || !kind.Same(b, a) || !kind.Same(fun(a, b), fun(b, a)) {
			t.Errorf("kind %d", k)
		}
	}
}

// P1.2
func TestTo(t *testing.T) {
	all := typesWithin(2)
	for _, a := range all {
		for _, b := range all {
			want := "(to " + text(a) + " " + text(b) + ")"
			if got := text(kind.To(a, b)); got != want {
				t.Errorf("To(%s, %s): %s", text(a), text(b), got)
			}
		}
	}
	if got := kind.To(tower(50, 0, open), tower(60, 1, truth)); text(got) != "(to "+text(tower(50, 0, open))+" "+text(tower(60, 1, truth))+")" {
		t.Errorf("To of deep types: %s", text(got))
	}
}

// coarser are the texts of all types that come of one by putting Any in the place of some of what is in it.
func coarser(a api.Type) []string {
	texts := []string{"any"}
	if a.Kind == api.Any {
		return texts
	}
	if a.Kind != api.Fun {
		return append(texts, text(a))
	}
	for _, first := range coarser(a.L[0]) {
		for _, second := range coarser(a.L[1]) {
			texts = append(texts, "(to "+first+" "+second+")")
		}
	}
	return texts
}

// scale is all types of some levels, and which of them are coarser than which.
type scale struct {
	all   []api.Type
	index map[string]int
	above [][]bool // above[i][j]: j is i with some of it left open
}

func newScale(levels int) scale {
	s := scale{all: typesWithin(levels), index: map[string]int{}}
	for i, a := range s.all {
		s.index[text(a)] = i
	}
	for _, a := range s.all {
		row := make([]bool, len(s.all))
		for _, b := range coarser(a) {
			row[s.index[b]] = true
		}
		s.above = append(s.above, row)
	}
	return s
}

// haveCommon is whether some type has both above it.
func (s scale) haveCommon(i, j int) bool {
	for k := range s.all {
		if s.above[k][i] && s.above[k][j] {
			return true
		}
	}
	return false
}

// finestAbove is the one above both that has all others above both above it.
func (s scale) finestAbove(i, j int) int {
	best := s.index["any"]
	for k := range s.all {
		if s.above[i][k] && s.above[j][k] && s.above[k][best] {
			best = k
		}
	}
	return best
}

// P1.2
func TestFinerIsLeavingOpen(t *testing.T) {
	s := newScale(3)
	for i, a := range s.all {
		for j, b := range s.all {
			if got := kind.Finer(a, b); got != s.above[i][j] {
				t.Fatalf("Finer(%s, %s): %v", text(a), text(b), got)
			}
		}
	}
}

// P1.2
func TestFitsIsHavingACommonFinerType(t *testing.T) {
	s := newScale(3)
	for i, a := range s.all {
		for j, b := range s.all {
			if got := kind.Fits(a, b); got != s.haveCommon(i, j) {
				t.Fatalf("Fits(%s, %s): %v", text(a), text(b), got)
			}
		}
	}
}

// P1.3
func TestJoinIsTheFinestCoarserType(t *testing.T) {
	s := newScale(3)
	for i, a := range s.all {
		for j, b := range s.all {
			want := text(s.all[s.finestAbove(i, j)])
			if got := text(kind.Join(a, b)); got != want {
				t.Fatalf("Join(%s, %s): %s, not %s", text(a), text(b), got, want)
			}
		}
	}
}

// P1.2, P1.3
func TestPairs(t *testing.T) {
	for _, c := range []struct {
		a, b              api.Type
		fits, finer, back bool
		join              string
	}{
		{open, open, true, true, true, "any"},
		{truth, truth, true, true, true, "truth"},
		{open, truth, true, false, true, "any"},
		{truth, num, false, false, false, "any"},
		{truth, fun(open, open), false, false, false, "any"},
		{fun(num, open), open, true, true, false, "any"},
		{fun(num, truth), fun(num, open), true, true, false, "(to num any)"},
		{fun(num, truth), fun(open, truth), true, true, false, "(to any truth)"},
		{fun(open, truth), fun(num, open), true, false, false, "(to any any)"},
		{fun(num, num), fun(num, truth), false, false, false, "(to num any)"},
		{fun(num, num), fun(fun(num, num), num), false, false, false, "(to any num)"},
		{fun(fun(num, num), num), fun(fun(open, num), num), true, true, false, "(to (to any num) num)"},
		{fun(num, fun(num, open)), fun(num, fun(open, num)), true, false, false, "(to num (to any any))"},
	} {
		if kind.Fits(c.a, c.b) != c.fits || kind.Fits(c.b, c.a) != c.fits {
			t.Errorf("Fits of %s and %s: not %v", text(c.a), text(c.b), c.fits)
		}
		if kind.Finer(c.a, c.b) != c.finer || kind.Finer(c.b, c.a) != c.back {
			t.Errorf("Finer of %s and %s: not %v, back %v", text(c.a), text(c.b), c.finer, c.back)
		}
		if text(kind.Join(c.a, c.b)) != c.join || text(kind.Join(c.b, c.a)) != c.join {
			t.Errorf("Join of %s and %s: not %s", text(c.a), text(c.b), c.join)
		}
	}
}

// P1.1 to P1.3: right types that are deeper than MaxDeep, also than what is gone through at once.
func TestPairsOfDeepTypes(t *testing.T) {
	for side := range 2 {
		for _, levels := range []int{api.MaxDeep, api.MaxDeep + 1, 45, 1000, 1001, 1002, 2500} {
			n, b, o := tower(levels, side, num), tower(levels, side, truth), tower(levels, side, open)
			if !kind.Same(n, tower(levels, side, num)) || kind.Same(n, b) || kind.Same(n, o) || kind.Same(n, tower(levels+1, side, num)) {
				t.Errorf("Same, %d levels, side %d", levels, side)
			}
			if !kind.Fits(n, n) || kind.Fits(n, b) || !kind.Fits(n, o) || !kind.Fits(o, b) || kind.Fits(n, tower(levels+1, side, num)) {
				t.Errorf("Fits, %d levels, side %d", levels, side)
			}
			if !kind.Finer(n, n) || kind.Finer(n, b) || !kind.Finer(n, o) || kind.Finer(o, n) {
				t.Errorf("Finer, %d levels, side %d", levels, side)
			}
			if text(kind.Join(n, n)) != text(n) || text(kind.Join(n, b)) != text(o) || text(kind.Join(n, o)) != text(o) {
				t.Errorf("Join, %d levels, side %d", levels, side)
			}
		}
	}
}

// P1.4
func TestPlainAndGround(t *testing.T) {
	for _, a := range typesWithin(3) {
		told := text(a)
		if got := kind.Plain(a); got != (told == "num" || told == "truth" || told == "(to any any)") {
			t.Errorf("Plain(%s): %v", told, got)
		}
		want := told
		if strings.HasPrefix(told, "(") {
			want = "(to any any)"
		}
		if got := text(kind.Ground(a)); got != want {
			t.Errorf("Ground(%s): %s", told, got)
		}
	}
	for side := range 2 {
		deep := tower(50, side, open)
		if kind.Plain(deep) || text(kind.Ground(deep)) != "(to any any)" {
			t.Errorf("a deep type, side %d", side)
		}
	}
}

// P1.4
func TestPlainTakesEmptyListsOrNone(t *testing.T) {
	empty := []api.Type{}
	if !kind.Plain(api.Type{Kind: api.Num, L: empty}) || kind.Plain(api.Type{L: empty}) || !kind.Plain(fun(api.Type{L: empty}, open)) {
		t.Error("Plain")
	}
}

// P1.5
func TestSure(t *testing.T) {
	for _, a := range typesWithin(3) {
		if got := kind.Sure(a); got == strings.Contains(text(a), "any") {
			t.Errorf("Sure(%s): %v", text(a), got)
		}
	}
	for side := range 2 {
		if !kind.Sure(tower(50, side, num)) || kind.Sure(tower(50, side, open)) {
			t.Errorf("a deep type, side %d", side)
		}
	}
}

// P1.2 to P1.5
func TestEmptyListsOrNoneGoTogether(t *testing.T) {
	for k := api.Any; k <= api.Truth; k++ {
		a, b := api.Type{Kind: k}, api.Type{Kind: k, L: []api.Type{}}
		if !kind.Fits(a, b) || !kind.Finer(a, b) || !kind.Finer(b, a) || text(kind.Join(a, b)) != text(a) || text(kind.Ground(b)) != text(a) || kind.Sure(b) != (k != api.Any) {
			t.Errorf("kind %d", k)
		}
	}
}

func callAll(a, b api.Type) {
	kind.Good(a)
	kind.To(a, b)
	kind.Same(a, b)
	kind.Fits(a, b)
	kind.Finer(a, b)
	kind.Join(a, b)
	kind.Plain(a)
	kind.Ground(a)
	kind.Sure(a)
}

func TestNothingPanics(t *testing.T) {
	all := append(wrongTypes(), typesWithin(2)...)
	for _, wrong := range wrongTypes() {
		all = append(all, fun(wrong, num), fun(num, wrong))
	}
	for _, a := range all {
		for _, b := range all {
			callAll(a, b)
		}
	}
}

// withRoom has lists with room behind them, and the mark in the room.
func withRoom(t, mark api.Type) api.Type {
	list := make([]api.Type, 0, len(t.L)+2)
	for _, part := range t.L {
		list = append(list, withRoom(part, mark))
	}
	whole := append(list, mark, mark)
	return api.Type{Kind: t.Kind, L: whole[:len(list)]}
}

// roomIsKept is whether a type that withRoom made is still as it was.
func roomIsKept(made, t, mark api.Type) bool {
	if made.Kind != t.Kind || len(made.L) != len(t.L) {
		return false
	}
	for i := range t.L {
		if !roomIsKept(made.L[i], t.L[i], mark) {
			return false
		}
	}
	for _, spare := range made.L[:cap(made.L)][len(t.L):] {
		if spare.Kind != mark.Kind {
			return false
		}
	}
	return true
}

func TestWhatIsHandedInStays(t *testing.T) {
	mark := api.Type{Kind: 77}
	all := append(typesWithin(2), wrongTypes()...)
	all = append(all, tower(6, 0, open), tower(6, 1, truth))
	for _, a := range all {
		for _, b := range all {
			one, other := withRoom(a, mark), withRoom(b, mark)
			callAll(one, other)
			if !roomIsKept(one, a, mark) || !roomIsKept(other, b, mark) {
				t.Fatalf("changed: %v or %v", a, b)
			}
		}
	}
}

// The stack is made small, so that fewer levels show what millions would do to the usual one.
func TestDepthDoesNotBreakTheStack(t *testing.T) {
	defer debug.SetMaxStack(debug.SetMaxStack(2 << 20))
	const levels = 100000
	for side := range 2 {
		n, o := tower(levels, side, num), tower(levels, side, open)
		if kind.Good(n) || !kind.Same(n, n) || kind.Same(n, o) || !kind.Fits(n, o) || !kind.Finer(n, o) || kind.Finer(o, n) {
			t.Errorf("side %d", side)
		}
		if !kind.Same(kind.Join(n, o), o) || kind.Plain(n) || !kind.Sure(n) || kind.Sure(o) || !kind.Sure(kind.To(n, n)) {
			t.Errorf("Join, Plain, Sure or To, side %d", side)
		}
	}
}
