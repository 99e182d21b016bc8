package tests

import (
	"slices"
	"strings"

	"loop.example/g00689/impl"
)

// treeRules says by what a symbol is replaced, by the word that is next: the text of a word or sign, NAME, NUM, TABLE, or END; ANY is for all that have no rule of their own.
// What is neither a symbol of this table, nor a word, is done: see (*treeMachine).do.
var treeRules = map[string]map[string]string{
	"set":      {"proc": "proc NAME !name ( params ) block !proc set", "END": ""},
	"params":   {"NAME": "NAME !param more", "ANY": ""},
	"more":     {",": ", NAME !param more", "ANY": ""},
	"block":    {"ANY": "!enter { !mark stmts } !leave !block"},
	"stmts":    {"}": "", "ANY": "stmt stmts"},
	"rhs":      {"read": "read TABLE [ expr ] ; !read", "ANY": "expr ; !set"},
	"elseway":  {"else": "else block", "ANY": ""},
	"expr":     {"ANY": "!enter sum compared !leave"},
	"compared": {"<": "< sum !less", "==": "== sum !same", "ANY": ""},
	"sum":      {"ANY": "product sums"},
	"sums":     {"+": "+ product !add sums", "-": "- product !sub sums", "ANY": ""},
	"product":  {"ANY": "signed products"},
	"products": {"*": "* signed !mul products", "/": "/ signed !div products", "%": "% signed !rest products", "ANY": ""},
	"signed":   {"NUM": "NUM !num", "NAME": "NAME !var", "(": "( expr )", "-": "- !enter signed !leave !neg"},
	"stmt": {
		"NAME": "NAME = rhs", "write": "write TABLE [ expr ] = expr ; !write", "if": "if ( !mark expr ) block elseway !if",
		"for": "for NAME in NUM block !for", "abort": "abort ; !abort", "return": "return expr ; !return",
	},
}

// treeParts says of what each node is made: its kind, whether a text and a number that were read belong to it, and how many kids it has (-1: all behind the mark).
var treeParts = map[string]struct{ kind, texts, numbers, kids int }{
	"!num": {impl.NkNum, 0, 1, 0}, "!var": {impl.NkVar, 1, 0, 0}, "!neg": {impl.NkNeg, 0, 0, 1},
	"!add": {impl.NkAdd, 0, 0, 2}, "!sub": {impl.NkSub, 0, 0, 2}, "!mul": {impl.NkMul, 0, 0, 2}, "!div": {impl.NkDiv, 0, 0, 2}, "!rest": {impl.NkRest, 0, 0, 2},
	"!less": {impl.NkLess, 0, 0, 2}, "!same": {impl.NkSame, 0, 0, 2},
	"!set": {impl.NkSet, 1, 0, 1}, "!read": {impl.NkRead, 1, 1, 1}, "!write": {impl.NkWrite, 0, 1, 2}, "!if": {impl.NkIf, 0, 0, -1},
	"!for": {impl.NkFor, 1, 1, 1}, "!abort": {impl.NkAbort, 0, 0, 0}, "!return": {impl.NkReturn, 0, 0, 1}, "!block": {impl.NkBlock, 0, 0, -1},
}

// treeMachine reads a set by rules and stacks, without a call within a call.
type treeMachine struct {
	set     impl.Set
	proc    impl.Proc
	deep    int
	texts   []string
	numbers []int
	vals    []int
}

func pop[E any](l *[]E) E {
	last := (*l)[len(*l)-1]
	*l = (*l)[:len(*l)-1]
	return last
}

// do says whether what is to be done between two words may be done.
func (m *treeMachine) do(act string) bool {
	switch act {
	case "!enter":
		m.deep++
	case "!leave":
		m.deep--
	case "!mark":
		m.vals = append(m.vals, -1)
	case "!name":
		m.proc.Name = pop(&m.texts)
	case "!param":
		m.proc.Params = append(m.proc.Params, pop(&m.texts))
	case "!proc":
		m.proc.Body = pop(&m.vals)
		m.set.Procs = append(m.set.Procs, m.proc)
		m.proc = impl.Proc{}
	default:
		m.node(act)
	}
	return m.deep <= impl.MaxDeep
}

func (m *treeMachine) node(act string) {
	part := treeParts[act]
	n := impl.Node{Kind: part.kind}
	if part.texts > 0 {
		n.S = pop(&m.texts)
	}
	if part.numbers > 0 {
		n.N = pop(&m.numbers)
	}
	from := len(m.vals) - part.kids
	if part.kids < 0 {
		from = len(m.vals)
		for m.vals[from-1] != -1 {
			from--
		}
	}
	n.Kids = slices.Clone(m.vals[from:])
	if part.kids < 0 {
		from--
	}
	m.vals = append(m.vals[:from], len(m.set.L))
	m.set.L = append(m.set.L, n)
}

func (m *treeMachine) keep(w impl.Tok) {
	switch w.Kind {
	case impl.TkNum, impl.TkTable:
		m.numbers = append(m.numbers, w.N)
	case impl.TkName:
		m.texts = append(m.texts, w.S)
	}
}

func classOf(words []impl.Tok) string {
	if len(words) == 0 {
		return "END"
	}
	switch words[0].Kind {
	case impl.TkNum:
		return "NUM"
	case impl.TkName:
		return "NAME"
	case impl.TkTable:
		return "TABLE"
	}
	return words[0].S
}

// step does the first symbol of todo, and says what is to be done then, how many words it took, and whether it could be done.
func (m *treeMachine) step(todo []string, words []impl.Tok) ([]string, int, bool) {
	symbol, rest, class := todo[0], todo[1:], classOf(words)
	if strings.HasPrefix(symbol, "!") {
		return rest, 0, m.do(symbol)
	}
	if rules, ok := treeRules[symbol]; ok {
		by, ok := rules[class]
		if !ok {
			by, ok = rules["ANY"]
		}
		return append(strings.Fields(by), rest...), 0, ok
	}
	if symbol != class {
		return rest, 0, false
	}
	m.keep(words[0])
	return rest, 1, true
}

// plainParse is what Parse is to answer, by plainLex and the rules.
func plainParse(s string) (impl.Set, int) {
	words, at := plainLex(s)
	if len(s) > impl.MaxSrc {
		return impl.Set{}, 0
	}
	if at != -1 {
		return impl.Set{}, at
	}
	m := &treeMachine{}
	for todo := []string{"set"}; len(todo) > 0; {
		after, took, ok := m.step(todo, words)
		if !ok && len(words) > 0 {
			return impl.Set{}, words[0].At
		}
		if !ok {
			return impl.Set{}, len(s)
		}
		todo, words = after, words[took:]
	}
	if len(m.set.L) > impl.MaxNodes {
		return impl.Set{}, len(s)
	}
	return m.set, -1
}
