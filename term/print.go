package term

import (
	"strconv"

	"chaperone/api"
)

// words is by which word a term in brackets begins; no word is at the kinds without brackets.
var words = [...]string{
	api.Add: "add", api.Less: "less", api.If: "if",
	api.Fn: "fun", api.Call: "call", api.As: "as",
}

var truthWords = [...]string{0: "no", 1: "yes"}

var typeWords = [...]string{api.Any: "any", api.Num: "num", api.Truth: "truth"}

const (
	funWord   = "to"
	refMark   = "#"
	openMark  = "("
	closeMark = ")"
)

// Print is the text of a term.
func Print(t api.Term) (string, api.Errno) {
	if !Good(t, 0) {
		return "", api.ErrForm
	}
	text := termText(t)
	if len(text) > api.MaxSource {
		return "", api.ErrLong
	}
	return text, api.OK
}

func termText(t api.Term) string {
	switch t.Kind {
	case api.Ref:
		return refMark + strconv.Itoa(t.N)
	case api.Lit:
		return strconv.Itoa(t.N)
	case api.Says:
		return truthWords[t.N]
	}
	text := openMark + words[t.Kind]
	if tellsType(t.Kind) {
		text += " " + typeText(t.T)
	}
	for _, part := range t.L {
		text += " " + termText(part)
	}
	return text + closeMark
}

func typeText(t api.Type) string {
	if t.Kind == api.Fun {
		return openMark + funWord + " " + typeText(t.L[0]) + " " + typeText(t.L[1]) + closeMark
	}
	return typeWords[t.Kind]
}
