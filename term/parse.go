package term

import (
	"strconv"
	"strings"

	"chaperone/api"
	"chaperone/kind"
)

// Parse is the term of a text.
func Parse(s string) (api.Term, api.Errno) {
	if len(s) > api.MaxSource {
		return api.Term{}, api.ErrLong
	}
	r := &reader{left: cut(s)}
	t := r.readTerm()
	if r.wrong || len(r.left) > 0 || !Good(t, 0) {
		return api.Term{}, api.ErrForm
	}
	return t, api.OK
}

// cut is the words of a text. Brackets are words, too: they need no spaces around them.
func cut(s string) []string {
	for _, mark := range [...]string{openMark, closeMark} {
		s = strings.ReplaceAll(s, mark, " "+mark+" ")
	}
	return strings.FieldsFunc(s, isSpace)
}

func isSpace(r rune) bool { return r == ' ' || r == '\n' }

// reader takes words from the front. Once something went wrong it has none any more.
type reader struct {
	left  []string
	wrong bool
}

func (r *reader) fail() {
	r.wrong = true
	r.left = nil
}

// next is the empty word, which cut never makes, where there is none.
func (r *reader) next() string {
	if len(r.left) == 0 {
		r.fail()
		return ""
	}
	word := r.left[0]
	r.left = r.left[1:]
	return word
}

func (r *reader) want(word string) {
	if r.next() != word {
		r.fail()
	}
}

func (r *reader) readTerm() api.Term {
	word := r.next()
	if word == openMark {
		return r.readTermInBrackets()
	}
	if n, found := truthOf(word); found {
		return api.Term{Kind: api.Says, N: n}
	}
	if digits, found := strings.CutPrefix(word, refMark); found {
		return api.Term{Kind: api.Ref, N: r.number(digits)}
	}
	return api.Term{Kind: api.Lit, N: r.number(word)}
}

func (r *reader) readTermInBrackets() api.Term {
	what, found := kindOf(r.next())
	if !found {
		r.fail()
		return api.Term{}
	}
	t := api.Term{Kind: what}
	if tellsType(what) {
		t.T = r.readType()
	}
	for range parts[what] {
		t.L = append(t.L, r.readTerm())
	}
	r.want(closeMark)
	return t
}

func (r *reader) readType() api.Type {
	word := r.next()
	if word == openMark {
		return r.readTypeInBrackets()
	}
	what, found := typeKindOf(word)
	if !found {
		r.fail()
	}
	return api.Type{Kind: what}
}

func (r *reader) readTypeInBrackets() api.Type {
	r.want(funWord)
	takes := r.readType()
	answers := r.readType()
	r.want(closeMark)
	return kind.To(takes, answers)
}

// number takes digits only as Print tells them: strconv also reads noughts in front, "+1" and "-0".
func (r *reader) number(digits string) int {
	n, err := strconv.Atoi(digits)
	if err != nil || strconv.Itoa(n) != digits {
		r.fail()
		return 0
	}
	return n
}

func truthOf(word string) (int, bool) {
	for truth, known := range truthWords {
		if known == word {
			return truth, true
		}
	}
	return 0, false
}

func typeKindOf(word string) (int, bool) {
	for what, known := range typeWords {
		if known == word {
			return what, true
		}
	}
	return 0, false
}

// kindOf finds no kind by the empty word, though that stands in the table.
func kindOf(word string) (int, bool) {
	for what, known := range words {
		if known == word && word != "" {
			return what, true
		}
	}
	return 0, false
}
