package expand

import (
	"reglet/api"
	"reglet/scan"
)

// filling is a body that is being filled.
type filling struct {
	made  []token // what it is so far; if that is too long, nothing but the last token, to which others may still be pasted
	count int     // how many tokens it is so far
	most  int     // how many it may be
	empty bool    // whether a ## that came next would have nothing ahead of it
}

// fill is the body of d, filled. That it has more than the most tokens is the last one of the errors.
func (d *definition) fill(arguments []argument, most int) ([]token, api.Errno) {
	f := filling{most: most}
	for i := range d.items {
		it := &d.items[i]
		l, e := it.yields(arguments)
		if e != api.OK {
			return nil, e
		}
		if e := f.take(l, it); e != api.OK {
			return nil, e
		}
	}
	if f.count > most {
		return nil, api.ErrFuel
	}
	return f.made, api.OK
}

// yields are the tokens of an item, the first one still with the Space that it has where it comes from.
func (it *item) yields(arguments []argument) ([]token, api.Errno) {
	switch it.use {
	case expanded:
		return arguments[it.argument].expanded, api.OK
	case raw:
		return arguments[it.argument].tokens(), api.OK
	case stringified:
		parts, e := arguments[it.argument].texts()
		return []token{{PTok: api.PTok{Kind: api.Made, Parts: parts}}}, e
	}
	return []token{{PTok: it.PTok}}, api.OK
}

// take adds the tokens l that an item yields.
func (f *filling) take(l []token, it *item) api.Errno {
	beside := it.pasted && !f.empty
	if !beside {
		f.empty = len(l) == 0
	}
	if len(l) == 0 {
		return api.OK
	}
	first := l[0]
	first.Space = it.Space
	if !beside {
		f.add(first)
		f.add(l[1:]...)
		return api.OK
	}
	last := len(f.made) - 1
	both, e := paste(f.made[last], first)
	if e != api.OK {
		return e
	}
	f.made[last] = both
	f.add(l[1:]...)
	return api.OK
}

// add lays tokens behind what is made.
func (f *filling) add(l ...token) {
	f.count += len(l)
	if f.count > f.most && len(l) > 0 {
		// An error is certain, but which one it is hangs on what is pasted yet.
		f.made, l = f.made[:0], l[len(l)-1:]
	}
	f.made = append(f.made, l...)
}

// paste is the token that two are together.
func paste(a, b token) (token, api.Errno) {
	if hangsOnLayout(a) || hangsOnLayout(b) {
		return token{}, api.ErrLayout
	}
	text := a.Text + b.Text
	kind, is := scan.One(text)
	if !is || kind < api.Word || kind > api.Other {
		return token{}, api.ErrPaste
	}
	return token{PTok: api.PTok{Kind: kind, Text: text, Space: a.Space}, hides: a.hides.and(b.hides)}, api.OK
}

// hangsOnLayout says whether the layout of the text determines how t is spelt.
func hangsOnLayout(t token) bool {
	return t.Kind == api.Line || t.Kind == api.Made
}
