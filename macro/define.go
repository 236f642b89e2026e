package macro

import (
	"slices"
	"strings"

	"reglet/api"
)

// variadicArgument is the name by which a body speaks of the arguments that ... stands for.
const variadicArgument = "__VA_ARGS__"

// cutHead is the macro that l defines, still without its body, and the tokens of that.
func cutHead(l []api.Tok) (m api.Macro, body []api.Tok, is bool) {
	if len(l) == 0 || !mayBeName(l[0]) {
		return api.Macro{}, nil, false
	}
	m.Name, body = strings.Clone(l[0].Text), l[1:]
	if len(body) == 0 || body[0].Space {
		return m, body, true
	}
	// Nothing but parameters may stand directly behind the name.
	if !spells(body[0], api.Punct, "(") {
		return api.Macro{}, nil, false
	}
	m.Func = true
	m.Params, m.Variadic, body, is = cutParameters(body[1:])
	if !is {
		return api.Macro{}, nil, false
	}
	return m, body, true
}

// cutParameters are the parameters with which l begins, whether ... ends them, and what stands behind the ) that closes them.
func cutParameters(l []api.Tok) (params []string, variadic bool, behind []api.Tok, is bool) {
	if len(l) > 0 && spells(l[0], api.Punct, ")") {
		return nil, false, l[1:], true
	}
reading:
	for len(l) > 1 {
		t, sign := l[0], l[1]
		l = l[2:]
		switch {
		case spells(t, api.Punct, "..."):
			variadic = true
		case mayBeParameter(t):
			params = append(params, strings.Clone(t.Text))
			if spells(sign, api.Punct, ",") {
				continue reading
			}
		default:
			break reading
		}
		is = spells(sign, api.Punct, ")")
		break reading
	}
	if !is || len(setOf(params...)) < len(params) {
		return nil, false, nil, false
	}
	return params, variadic, l, true
}

// mayBeBody says whether m, which has none so far, may have the body l.
func mayBeBody(m api.Macro, l []api.Tok) bool {
	if len(l) > 0 && (pastes(l[0]) || pastes(l[len(l)-1])) {
		return false
	}
	arguments := setOf(m.Params...)
	arguments[variadicArgument] = struct{}{}
	for i, t := range l {
		if spells(t, api.Word, variadicArgument) && !m.Variadic {
			return false
		}
		if m.Func && spells(t, api.Punct, "#", "%:") && !beginsWithArgument(l[i+1:], arguments) {
			return false
		}
	}
	return true
}

// mayBeName says whether t may be the name of a macro.
func mayBeName(t api.Tok) bool {
	return t.Kind == api.Word && !spells(t, api.Word, "defined", variadicArgument, "__LINE__", "_Pragma")
}

// mayBeParameter says whether t may be a parameter, as far as that does not hang on the other ones.
func mayBeParameter(t api.Tok) bool {
	return t.Kind == api.Word && !spells(t, api.Word, variadicArgument)
}

// pastes says whether t is ##.
func pastes(t api.Tok) bool {
	return spells(t, api.Punct, "##", "%:%:")
}

// beginsWithArgument says whether the first token of l is a Word that stands for one of the arguments.
func beginsWithArgument(l []api.Tok, arguments map[string]struct{}) bool {
	if len(l) == 0 || l[0].Kind != api.Word {
		return false
	}
	_, is := arguments[l[0].Text]
	return is
}

// spells says whether t is of a kind and has one of the spellings.
func spells(t api.Tok, kind int, spellings ...string) bool {
	return t.Kind == kind && slices.Contains(spellings, t.Text)
}

// setOf are the texts given, each once.
func setOf(texts ...string) map[string]struct{} {
	set := map[string]struct{}{}
	for _, t := range texts {
		set[t] = struct{}{}
	}
	return set
}
