package macro

import (
	"strings"

	"reglet/api"
	"reglet/lines"
	"reglet/scan"
)

// lineOf is a macro's line, with its end; if it is longer than a text may be, there is none.
func lineOf(m api.Macro) (line string, is bool) {
	var text strings.Builder
	is = true
	write := func(spellings ...string) {
		for _, s := range spellings {
			// How much longer a line would become that is too long already does not matter.
			is = is && len(s) <= api.MaxText-text.Len()
			if is {
				text.WriteString(s)
			}
		}
	}
	write("#define ", m.Name)
	if m.Func {
		write("(")
		write(parametersOf(m)...)
		write(")")
	}
	for i, t := range m.Body {
		if i == 0 || t.Space {
			write(" ")
		}
		write(t.Text)
	}
	write("\n")
	if !is {
		return "", false
	}
	return text.String(), true
}

// parametersOf are the parameters of m, with what stands between them and behind them.
func parametersOf(m api.Macro) []string {
	var texts []string
	for i, p := range m.Params {
		if i > 0 {
			texts = append(texts, ",")
		}
		texts = append(texts, p)
	}
	if !m.Variadic {
		return texts
	}
	if len(m.Params) > 0 {
		texts = append(texts, ",")
	}
	return append(texts, "...")
}

// defined is what a text defines that is a single directive.
func defined(text string) (api.Macro, api.Errno) {
	l, e := scan.Scan(text)
	if e != api.OK {
		return api.Macro{}, e
	}
	rows := lines.Rows(l)
	if len(rows) != 1 {
		return api.Macro{}, api.ErrDefine
	}
	return Define(lines.Says(rows[0]))
}
