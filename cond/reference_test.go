package cond_test

import (
	"math/big"
	"slices"
	"testing"

	"reglet/api"
	"reglet/cond"
	"reglet/ctok"
)

// What the chapter says is said here a second time: every way in which the grammar yields a list is looked for, and numbers of any size are brought into 64 bits.

// binaries are the operators between two parts, by their levels in the grammar, from e1 to e10.
func binaries() [][]string {
	return [][]string{{"||"}, {"&&"}, {"|"}, {"^"}, {"&"}, {"==", "!="}, {"<", ">", "<=", ">="}, {"<<", ">>"}, {"+", "-"}, {"*", "/", "%"}}
}

// tree is a way in which the grammar yields a piece of a list: of an operator and its parts, or of a token.
type tree struct {
	operator string
	parts    []*tree
	token    api.PTok
}

// span is a piece of a list, as what it is read.
type span struct{ level, from, to int }

// grammar is a list, and in which ways its pieces are yielded, as far as that has been asked.
type grammar struct {
	list  []api.PTok
	texts []string // of the operators
	known map[span][]*tree
}

// treesOf are the ways in which the grammar yields a list.
func treesOf(l []api.PTok) []*tree {
	g := &grammar{list: l, known: map[span][]*tree{}}
	for _, t := range l {
		text := ""
		if c, e := ctok.Class(t.Kind, t.Text); e == api.OK && c.Class == api.Operator {
			text = c.Text
		}
		g.texts = append(g.texts, text)
	}
	return g.trees(span{level: 0, from: 0, to: len(l)})
}

// trees are the ways in which a piece is yielded as e (level 0), or as e1 to e11.
func (g *grammar) trees(s span) []*tree {
	if s.from >= s.to {
		return nil
	}
	if known, is := g.known[s]; is {
		return known
	}
	var l []*tree
	switch s.level {
	case 0:
		l = append(g.trees(span{1, s.from, s.to}), g.choices(s)...)
	case 11:
		l = g.last(s)
	default:
		l = g.trees(span{s.level + 1, s.from, s.to})
		for i := s.from + 1; i < s.to-1; i++ {
			if slices.Contains(binaries()[s.level-1], g.texts[i]) {
				l = append(l, product(g.texts[i], g.trees(span{s.level, s.from, i}), g.trees(span{s.level + 1, i + 1, s.to}))...)
			}
		}
	}
	g.known[s] = l
	return l
}

// choices are the ways in which a piece is a choice.
func (g *grammar) choices(s span) (l []*tree) {
	for i := s.from + 1; i < s.to; i++ {
		for k := i + 2; g.texts[i] == "?" && k < s.to; k++ {
			if g.texts[k] == ":" {
				l = append(l, product("?", g.trees(span{1, s.from, i}), g.trees(span{0, i + 1, k}), g.trees(span{0, k + 1, s.to}))...)
			}
		}
	}
	return l
}

// last are the ways in which a piece is an e11.
func (g *grammar) last(s span) []*tree {
	first := g.list[s.from]
	switch g.texts[s.from] {
	case "+", "-", "!", "~":
		return product("prefix "+g.texts[s.from], g.trees(span{11, s.from + 1, s.to}))
	case "(":
		if g.texts[s.to-1] == ")" {
			return product("(", g.trees(span{0, s.from + 1, s.to - 1}))
		}
	}
	if s.to != s.from+1 {
		return nil
	}
	c, e := ctok.Class(first.Kind, first.Text)
	if e == api.OK && (first.Kind == api.Word || c.Class == api.Int || c.Class == api.CharLit) {
		return []*tree{{token: first}}
	}
	return nil
}

// product are the trees of an operator, with each of the trees of each part.
func product(operator string, parts ...[]*tree) []*tree {
	l := []*tree{{operator: operator}}
	for _, ways := range parts {
		var more []*tree
		for _, t := range l {
			for _, p := range ways {
				more = append(more, &tree{operator: operator, parts: append(slices.Clone(t.parts), p)})
			}
		}
		l = more
	}
	return l
}

// depth is that of an expression.
func (t *tree) depth() int {
	depth := 0
	for _, p := range t.parts {
		depth = max(depth, p.depth())
	}
	switch t.operator {
	case "", "(", "?", "prefix +", "prefix -", "prefix !", "prefix ~":
		depth++
	}
	return depth
}

// unsigned says whether the value of an expression is.
func (t *tree) unsigned() bool {
	switch t.operator {
	case "":
		_, unsigned, e := ctok.Int(t.token.Text)
		return t.token.Kind == api.Number && e == api.OK && unsigned
	case "(", "prefix +", "prefix -", "prefix ~", "<<", ">>":
		return t.parts[0].unsigned()
	case "?":
		return t.parts[1].unsigned() || t.parts[2].unsigned()
	case "*", "/", "%", "+", "-", "&", "^", "|":
		return t.parts[0].unsigned() || t.parts[1].unsigned()
	}
	return false
}

// wrapped is a number, brought into 64 bits.
func wrapped(n *big.Int, unsigned bool) *big.Int {
	two64 := new(big.Int).Lsh(big.NewInt(1), 64)
	n = new(big.Int).Mod(n, two64)
	if !unsigned && n.BitLen() == 64 {
		n.Sub(n, two64)
	}
	return n
}

// constant is the value of a token.
func (t *tree) constant() *big.Int {
	switch t.token.Kind {
	case api.Number:
		value, _, _ := ctok.Int(t.token.Text)
		return new(big.Int).SetUint64(value)
	case api.Chars:
		value, _ := ctok.Char(t.token.Text)
		return big.NewInt(value)
	}
	return big.NewInt(0)
}

// numberOf is 1 or 0.
func numberOf(is bool) *big.Int {
	if is {
		return big.NewInt(1)
	}
	return big.NewInt(0)
}

// value is that of an expression; the first error ends it by a panic.
func (t *tree) value() *big.Int {
	if t.operator == "" {
		return t.constant()
	}
	left := t.parts[0].value()
	switch t.operator {
	case "(", "prefix +":
		return left
	case "prefix -":
		return wrapped(new(big.Int).Neg(left), t.unsigned())
	case "prefix ~":
		return wrapped(new(big.Int).Not(left), t.unsigned())
	case "prefix !":
		return numberOf(left.Sign() == 0)
	case "&&":
		return numberOf(left.Sign() != 0 && t.parts[1].value().Sign() != 0)
	case "||":
		return numberOf(left.Sign() != 0 || t.parts[1].value().Sign() != 0)
	case "?":
		if left.Sign() != 0 {
			return wrapped(t.parts[1].value(), t.unsigned())
		}
		return wrapped(t.parts[2].value(), t.unsigned())
	}
	right := t.parts[1].value()
	if t.operator == "<<" || t.operator == ">>" {
		return t.shifted(left, right)
	}
	if t.parts[0].unsigned() || t.parts[1].unsigned() {
		left, right = wrapped(left, true), wrapped(right, true)
	}
	return wrapped(t.made(left, right), t.unsigned())
}

// shifted is what a shift yields.
func (t *tree) shifted(left, right *big.Int) *big.Int {
	if right.Sign() < 0 || right.Cmp(big.NewInt(63)) > 0 {
		panic(api.ErrCond)
	}
	bits := uint(right.Int64())
	if t.operator == ">>" {
		return new(big.Int).Rsh(left, bits)
	}
	return wrapped(new(big.Int).Lsh(left, bits), t.unsigned())
}

// made is what one of the other operators yields.
func (t *tree) made(left, right *big.Int) *big.Int {
	n := new(big.Int)
	switch t.operator {
	case "|":
		return n.Or(left, right)
	case "^":
		return n.Xor(left, right)
	case "&":
		return n.And(left, right)
	case "+":
		return n.Add(left, right)
	case "-":
		return n.Sub(left, right)
	case "*":
		return n.Mul(left, right)
	case "==":
		return numberOf(left.Cmp(right) == 0)
	case "!=":
		return numberOf(left.Cmp(right) != 0)
	case "<":
		return numberOf(left.Cmp(right) < 0)
	case ">":
		return numberOf(left.Cmp(right) > 0)
	case "<=":
		return numberOf(left.Cmp(right) <= 0)
	case ">=":
		return numberOf(left.Cmp(right) >= 0)
	}
	if right.Sign() == 0 {
		panic(api.ErrZero)
	}
	if t.operator == "/" {
		return n.Quo(left, right)
	}
	return n.Rem(left, right)
}

// wantValue is what Value should answer.
func wantValue(t *testing.T, l []api.PTok) (value uint64, unsigned bool, e api.Errno) {
	t.Helper()
	for _, p := range l {
		if p.Kind == api.Line || p.Kind == api.Made {
			return 0, false, api.ErrLayout
		}
	}
	trees := treesOf(l)
	switch {
	case len(trees) == 0:
		return 0, false, api.ErrCond
	case len(trees) > 1:
		t.Fatalf("%s is read in %d ways", shown(l), len(trees))
	case trees[0].depth() > api.MaxDepth:
		return 0, false, api.ErrDepth
	}
	defer func() {
		switch p := recover().(type) {
		case nil:
		case api.Errno:
			value, unsigned, e = 0, false, p
		default:
			panic(p)
		}
	}()
	return wrapped(trees[0].value(), true).Uint64(), trees[0].unsigned(), api.OK
}

// alsoWanted holds what Value and Holds answer against the second way.
func alsoWanted(t *testing.T, l []api.PTok) api.Errno {
	t.Helper()
	value, unsigned, e := wantValue(t, l)
	if v, u, f := cond.Value(l); v != value || u != unsigned || f != e {
		t.Errorf("Value(%s): %d, %v, %v, not %d, %v, %v", shown(l), v, u, f, value, unsigned, e)
	}
	if h, f := cond.Holds(l); h != (value != 0) || f != e {
		t.Errorf("Holds(%s): %v, %v, not %v, %v", shown(l), h, f, value != 0, e)
	}
	return e
}
