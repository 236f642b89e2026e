package lines_test

import (
	"regexp"
	"slices"
	"strconv"
	"strings"

	"reglet/api"
	"reglet/lines"
)

// A list of tokens is written here as a text with one letter a token; what the chapter says of lists is then said by regular expressions, which share nothing with the package.
var (
	linesOf    = regexp.MustCompile(`[^n]*n|[^n]+`)
	directives = regexp.MustCompile(`^c*[#%]`)
	named      = regexp.MustCompile(`^c*[#%]c*([wf])`)
	nested     = regexp.MustCompile(`il*(e)?x`)
)

// letters are the tokens that the letters stand for.
var letters = map[rune]api.Tok{
	'#': {Kind: api.Punct, Text: "#"},
	'%': {Kind: api.Punct, Text: "%:"},
	'p': {Kind: api.Punct, Text: "##"},
	'w': {Kind: api.Word, Text: "include"},
	'f': {Kind: api.Word, Text: "#"},
	'o': {Kind: api.Number, Text: "1"},
	'q': {Kind: api.Other, Text: "#"},
	'c': {Kind: api.Comment, Text: "/*\n*/"},
	'n': {Kind: api.Newline, Text: "\n"},
}

// toks are the tokens of a text of letters. A blank sets the Space of the token behind it.
func toks(text string) []api.Tok {
	var l []api.Tok
	space := false
	for at, letter := range text {
		if letter == ' ' {
			space = true
			continue
		}
		t := letters[letter]
		t.At, t.End, t.Space = at, at+1, space
		l = append(l, t)
		space = false
	}
	return l
}

// wantRows are the rows that the list of a text of letters, without blanks, should have.
func wantRows(text string) []api.Row {
	var rows []api.Row
	all := toks(text)
	for _, at := range linesOf.FindAllStringIndex(text, -1) {
		line, l := text[at[0]:at[1]], all[at[0]:at[1]]
		r := api.Row{Directive: directives.MatchString(line), Toks: slices.Clone(l)}
		if m := named.FindStringSubmatch(line); m != nil {
			r.Name = letters[rune(m[1][0])].Text
		}
		if n := len(rows); n > 0 && !r.Directive && !rows[n-1].Directive {
			rows[n-1].Toks = append(rows[n-1].Toks, l...)
			continue
		}
		rows = append(rows, r)
	}
	return rows
}

// wantSays is the content that a row should have.
func wantSays(r api.Row) []api.Tok {
	l := append([]api.Tok{{}}, r.Toks...)
	var content []api.Tok
	for i := 1; i < len(l); i++ {
		t, ahead := l[i], l[i-1].Kind
		if t.Kind == api.Comment || t.Kind == api.Newline {
			continue
		}
		t.Space = t.Space || ahead == api.Comment || ahead == api.Newline
		content = append(content, t)
	}
	if r.Directive && len(content) > 0 {
		content = content[1:]
	}
	if r.Directive && r.Name != "" && len(content) > 0 {
		content = content[1:]
	}
	return content
}

// nests says whether rows nest, each written as a letter: i what opens, l an #elif, e an #else, x an #endif, o anything else.
func nests(text string) bool {
	text = strings.ReplaceAll(text, "o", "")
	for {
		less := nested.ReplaceAllString(text, "")
		if less == text {
			return text == ""
		}
		text = less
	}
}

// wantDepths are the depths that rows should have if they nest, each written as a letter as for nests.
func wantDepths(text string) []int {
	var depths []int
	for i, letter := range text {
		depth := strings.Count(text[:i], "i") - strings.Count(text[:i], "x")
		if strings.ContainsRune("lex", letter) {
			depth--
		}
		depths = append(depths, depth)
	}
	return depths
}

// meaning is a text that two lists of rows should have in common exactly if they are alike.
func meaning(l []api.Row, keep bool) string {
	var m strings.Builder
	for _, r := range l {
		content := wantSays(r)
		if !r.Directive && len(content) == 0 {
			continue
		}
		m.WriteString("row " + strconv.FormatBool(r.Directive) + strconv.Quote(r.Name))
		for i, t := range content {
			m.WriteString(" " + strconv.Itoa(t.Kind) + strconv.Quote(t.Text))
			if i > 0 && t.Space && (keep || r.Directive && r.Name == "define") {
				m.WriteString("spaced")
			}
		}
		m.WriteString(";")
	}
	return m.String()
}

// equalRows says whether two lists of rows are the same in all fields.
func equalRows(a, b []api.Row) bool {
	return slices.EqualFunc(a, b, func(r, s api.Row) bool {
		return r.Directive == s.Directive && r.Name == s.Name && slices.Equal(r.Toks, s.Toks)
	})
}

// everyText visits all texts of at most n of the parts given.
func everyText(parts []string, n int, visit func(s string)) {
	visit("")
	level := []string{""}
	for range n {
		var longer []string
		for _, s := range level {
			for _, p := range parts {
				longer = append(longer, s+p)
			}
		}
		for _, s := range longer {
			visit(s)
		}
		level = longer
	}
}

// copied is a list of rows that shares no list with l.
func copied(l []api.Row) []api.Row {
	l = slices.Clone(l)
	for i := range l {
		l[i].Toks = slices.Clone(l[i].Toks)
	}
	return l
}

// concatenated are the tokens of rows.
func concatenated(l []api.Row) []api.Tok {
	var all []api.Tok
	for _, r := range l {
		all = append(all, r.Toks...)
	}
	return all
}

// depthsOf is what Depths answers, of rows written as letters as for nests.
func depthsOf(text string) ([]int, api.Errno) {
	names := map[rune]string{'i': "if", 'l': "elif", 'e': "else", 'x': "endif", 'o': "define"}
	var l []api.Row
	for _, letter := range text {
		l = append(l, api.Row{Directive: true, Name: names[letter]})
	}
	return lines.Depths(l)
}
