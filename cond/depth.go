package cond

// part is what is within an expression and is one itself: what is in brackets, or a part of a choice (or all of it).
type part struct {
	opened   string // the operator ahead of it
	prefixes int    // for brackets: how many prefix operators are ahead of them
	depth    int    // the greatest depth of what it is so far
}

// outline is what is known of an expression that is read from left to right. It knows nothing of levels: which parts belong to an operator changes neither what an expression is nor how deep it is.
type outline struct {
	parts    []part // those that are open, the innermost one last
	prefixes int    // how many prefix operators have been read whose part has not begun yet
	behind   bool   // whether a part has just ended, so that an operator that needs one ahead of it may come
}

// depthOf is the depth of the expression that symbols are, if they are one. It does not call itself for what is within another part, since a list may be far deeper than what is evaluated.
func depthOf(symbols []symbol) (depth int, is bool) {
	o := outline{parts: []part{{}}}
	for _, s := range symbols {
		may := false
		if o.behind {
			may = o.goOn(s.operator)
		} else {
			may = o.begin(s.operator)
		}
		if !may {
			return 0, false
		}
	}
	o.endChoices()
	if !o.behind || len(o.parts) > 1 {
		return 0, false
	}
	return o.innermost().depth, true
}

// begin reads a symbol where a part has to begin.
func (o *outline) begin(operator string) (may bool) {
	switch operator {
	case "":
		o.end(1 + o.prefixes)
	case "(":
		o.open(part{opened: "(", prefixes: o.prefixes})
	case "+", "-", "!", "~":
		o.prefixes++
	default:
		return false
	}
	return true
}

// goOn reads a symbol behind a part.
func (o *outline) goOn(operator string) (may bool) {
	switch operator {
	case "?":
		o.open(part{opened: "?"})
		return true
	case ":":
		middle, is := o.shut("?")
		if is {
			o.deepen(middle.depth)
			o.open(part{opened: ":"})
		}
		return is
	case ")":
		inside, is := o.shut("(")
		if is {
			o.end(1 + inside.depth + inside.prefixes)
		}
		return is
	}
	o.behind = false
	return hasTwoSides(operator)
}

// end ends a part of a depth that belongs to the innermost open one.
func (o *outline) end(depth int) {
	o.deepen(depth)
	o.prefixes, o.behind = 0, true
}

// open opens a part, which has to begin now.
func (o *outline) open(p part) {
	o.parts = append(o.parts, p)
	o.prefixes, o.behind = 0, false
}

// shut shuts the innermost part, with the choices that end there, if an operator opened it.
func (o *outline) shut(opened string) (p part, is bool) {
	o.endChoices()
	p = *o.innermost()
	if p.opened != opened {
		return part{}, false
	}
	o.parts = o.parts[:len(o.parts)-1]
	return p, true
}

// endChoices ends the choices whose last part ends here.
func (o *outline) endChoices() {
	for o.innermost().opened == ":" {
		last := o.innermost().depth
		o.parts = o.parts[:len(o.parts)-1]
		o.deepen(last)
		o.innermost().depth++
	}
}

// deepen says that what has a depth belongs to the innermost part.
func (o *outline) deepen(depth int) {
	p := o.innermost()
	p.depth = max(p.depth, depth)
}

// innermost is the innermost open part.
func (o *outline) innermost() *part {
	return &o.parts[len(o.parts)-1]
}
