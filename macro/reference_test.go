package macro_test

import (
	"fmt"
	"regexp"
	"slices"
	"strings"

	"reglet/api"
	"reglet/phys"
	"reglet/scan"
)

// A list of tokens is written here as a text with one letter a token; what the chapter says of definitions is then said by regular expressions, which share nothing with the package.
const (
	names      = `[xabw]`
	parameters = ` ?[xabwdlg](?: ?, ?[xabwdlg])*`
)

var (
	objects   = regexp.MustCompile(`^ ?(` + names + `)((?: [^ ](?: ?[^ ])*)?)$`)
	functions = regexp.MustCompile(`^ ?(` + names + `)\(((?:` + parameters + `)?|(?:` + parameters + ` ?,)? ?\.) ?\)((?: ?[^ ])*)$`)
	pasted    = regexp.MustCompile(`^[pq]|[pq]$`)
	words     = regexp.MustCompile(`^[A-Za-z_][A-Za-z_0-9]*$`)
	signs     = strings.NewReplacer(" ", "", ",", "", ".", "")
)

// letters are the tokens that the letters stand for.
var letters = map[rune]api.Tok{
	'x': {Kind: api.Word, Text: "x"},
	'a': {Kind: api.Word, Text: "a"},
	'b': {Kind: api.Word, Text: "bb"},
	'w': {Kind: api.Word, Text: "##"},
	'v': {Kind: api.Word, Text: "__VA_ARGS__"},
	'd': {Kind: api.Word, Text: "defined"},
	'l': {Kind: api.Word, Text: "__LINE__"},
	'g': {Kind: api.Word, Text: "_Pragma"},
	'(': {Kind: api.Punct, Text: "("},
	')': {Kind: api.Punct, Text: ")"},
	',': {Kind: api.Punct, Text: ","},
	'.': {Kind: api.Punct, Text: "..."},
	'#': {Kind: api.Punct, Text: "#"},
	'%': {Kind: api.Punct, Text: "%:"},
	'p': {Kind: api.Punct, Text: "##"},
	'q': {Kind: api.Punct, Text: "%:%:"},
	'1': {Kind: api.Number, Text: "1"},
	'k': {Kind: api.Comment, Text: "/*\n*/"},
	'n': {Kind: api.Newline, Text: "\n"},

	// These have the texts of others, but not their kinds.
	'A': {Kind: api.Other, Text: "a"},
	'V': {Kind: api.String, Text: "__VA_ARGS__"},
	'[': {Kind: api.Other, Text: "("},
	']': {Kind: api.Word + 100, Text: ")"},
	';': {Kind: api.Header, Text: ","},
	':': {Kind: 0, Text: "..."},
	'S': {Kind: api.Made, Text: "#"},
	'P': {Kind: -1, Text: "##"},
}

// toks are the tokens of a text of letters. A blank sets the Space of the token behind it.
func toks(text string) []api.Tok {
	var l []api.Tok
	space := false
	for at, letter := range text {
		if letter == ' ' {
			space = true
			continue
		}
		t := letters[letter]
		t.At, t.End, t.Space = at, at+1, space
		l = append(l, t)
		space = false
	}
	return l
}

// textsOf are the texts that the letters of a text stand for.
func textsOf(text string) []string {
	var l []string
	for _, letter := range text {
		l = append(l, letters[letter].Text)
	}
	return l
}

// wantDefine is what a text of letters should define, if it is a valid definition.
func wantDefine(text string) (m api.Macro, valid bool) {
	params, body := "", ""
	if f := functions.FindStringSubmatch(text); f != nil {
		m.Func, m.Variadic = true, strings.HasSuffix(f[2], ".")
		m.Name, params, body = textsOf(f[1])[0], signs.Replace(f[2]), f[3]
		m.Params = textsOf(params)
	} else if o := objects.FindStringSubmatch(text); o != nil {
		m.Name, body = textsOf(o[1])[0], o[2]
	} else {
		return api.Macro{}, false
	}
	for i := range params {
		if strings.Count(params, params[i:i+1]) > 1 {
			return api.Macro{}, false
		}
	}
	if !wantBody(m, params, strings.ReplaceAll(body, " ", "")) {
		return api.Macro{}, false
	}
	for i, t := range toks(body) {
		m.Body = append(m.Body, api.PTok{Kind: t.Kind, Text: t.Text, Space: t.Space && i > 0})
	}
	return m, true
}

// stray are the regular expressions that find a # in front of what is no parameter, by the letters of the parameters.
var stray = map[string]*regexp.Regexp{}

// wantBody says whether a macro with the parameters given should be allowed the body given, both as letters.
func wantBody(m api.Macro, params, body string) bool {
	if stray[params] == nil {
		stray[params] = regexp.MustCompile(`[#%](?:[^v` + params + `]|$)`)
	}
	switch {
	case pasted.MatchString(body), m.Func && stray[params].MatchString(body), !m.Variadic && strings.Contains(body, "v"):
		return false
	}
	return true
}

// shown is all that a macro says: two macros are the same exactly if they are shown the same.
func shown(m api.Macro) string {
	var s strings.Builder
	fmt.Fprintf(&s, "%q %v %q %v", m.Name, m.Func, m.Params, m.Variadic)
	for _, t := range m.Body {
		fmt.Fprintf(&s, " (%d %q %v %q)", t.Kind, t.Text, t.Space, t.Parts)
	}
	return s.String()
}

// wantText is the line that a macro should have, if it should have one.
func wantText(m api.Macro) (string, bool) {
	if !words.MatchString(m.Name) || slices.Contains([]string{"defined", "__VA_ARGS__", "__LINE__", "_Pragma"}, m.Name) {
		return "", false
	}
	if !m.Func && (len(m.Params) > 0 || m.Variadic) || !wantParams(m.Params) || !wantTokens(m) {
		return "", false
	}
	line := []string{"#define ", m.Name}
	if m.Func {
		params := slices.Clone(m.Params)
		if m.Variadic {
			params = append(params, "...")
		}
		line = append(line, "(", strings.Join(params, ","), ")")
	}
	for i, t := range m.Body {
		line = append(line, map[bool]string{true: " "}[i == 0 || t.Space], t.Text)
	}
	spelt, e := phys.Spell(strings.Join(append(line, "\n"), ""))
	return spelt, e == api.OK
}

// wantParams says whether a macro's line should be allowed the parameters given.
func wantParams(params []string) bool {
	for i, p := range params {
		if !words.MatchString(p) || p == "__VA_ARGS__" || slices.Contains(params[:i], p) {
			return false
		}
	}
	return true
}

// wantTokens says whether the line of a macro should be read as its body.
func wantTokens(m api.Macro) bool {
	isPunct := func(i int, texts ...string) bool {
		return i >= 0 && i < len(m.Body) && m.Body[i].Kind == api.Punct && slices.Contains(texts, m.Body[i].Text)
	}
	last := len(m.Body) - 1
	if isPunct(0, "##", "%:%:") || isPunct(last, "##", "%:%:") || last >= 0 && m.Body[0].Space {
		return false
	}
	for i, t := range m.Body {
		kind, is := scan.One(t.Text)
		if !is || kind != t.Kind || kind > api.Other || len(t.Parts) > 0 {
			return false
		}
		if t.Text == "__VA_ARGS__" && !m.Variadic {
			return false
		}
		argument := i < last && (m.Body[i+1].Text == "__VA_ARGS__" || slices.Contains(m.Params, m.Body[i+1].Text))
		if m.Func && isPunct(i, "#", "%:") && !argument {
			return false
		}
		if i == 0 || t.Space {
			continue
		}
		if fuses, _ := scan.Fuses(m.Body[i-1].Text, t.Text); fuses {
			return false
		}
		// Three tokens that are one, though no two of them fuse.
		if i > 1 && !m.Body[i-1].Space && slices.Contains([]string{"...", "%:%:"}, m.Body[i-2].Text+m.Body[i-1].Text+t.Text) {
			return false
		}
	}
	return true
}

// everyText visits all texts of at most n of the parts given.
func everyText(parts []string, n int, visit func(s string)) {
	visit("")
	level := []string{""}
	for range n {
		var longer []string
		for _, s := range level {
			for _, p := range parts {
				longer = append(longer, s+p)
			}
		}
		for _, s := range longer {
			visit(s)
		}
		level = longer
	}
}
