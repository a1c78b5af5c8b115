package parse_test

import (
	"fmt"
	"slices"
	"strings"
	"testing"

	"braidwork/api"
	"braidwork/lex"
	"braidwork/parse"
	"braidwork/tree"
)

// grammar: the chapter's once more, as rules for a chart of all readings at once. A token goes wrong that no reading takes. kind! is no token: where it is awaited, ErrKind is told.
const grammar = `
program =
program = program decl
decl = cell name num ;
decl = array name num ;
decl = sem name num ;
decl = mutex name ;
decl = budget num ;
decl = thread name block
num = whole
num = imag
num = - whole
num = - imag
num = whole + imag
num = whole - imag
num = - whole + imag
num = - whole - imag
block = { stmts }
stmts =
stmts = stmts stmt
place = name
place = name [ expr ]
stmt = name = expr ;
stmt = name = load place ;
stmt = name = add place , expr ;
stmt = name = swap place , expr ;
stmt = name = cas place , expr , expr ;
stmt = name = try name ;
stmt = store place , expr ;
stmt = lock name ;
stmt = unlock name ;
stmt = wait name ;
stmt = post name ;
stmt = spawn name ;
stmt = join name ;
stmt = assert expr ;
stmt = assume expr ;
stmt = if expr block
stmt = if expr block else block
stmt = while expr block
stmt = giver kind!
stmt = name = doer kind!
giver = load
giver = add
giver = swap
giver = cas
giver = try
doer = store
doer = lock
doer = unlock
doer = wait
doer = post
doer = spawn
doer = join
doer = assert
doer = assume
doer = if
doer = while
expr = sum
expr = sum == sum
expr = sum != sum
expr = sum < sum
sum = prod
sum = sum + prod
sum = sum - prod
prod = one
prod = prod * one
one = - one
one = ~ one
one = ! one
one = # one
one = whole
one = imag
one = name
one = ( expr )
`

type rule struct {
	head string
	body []string
}

// item is a rule of which some has been read, from a token on.
type item struct {
	rule, done, from int
}

type chart struct {
	rules []rule
	heads map[string][]int
	sets  [][]item // one ahead of each token, as far as they go
}

func newChart() *chart {
	c := &chart{heads: map[string][]int{}}
	for _, line := range strings.Split(strings.TrimSpace(grammar), "\n") {
		words := strings.Fields(line)
		c.heads[words[0]] = append(c.heads[words[0]], len(c.rules))
		c.rules = append(c.rules, rule{words[0], words[2:]})
	}
	var first []item
	for _, r := range c.heads["program"] {
		first = append(first, item{rule: r})
	}
	c.sets = [][]item{nil}
	c.sets[0] = c.closed(first)
	return c
}

// awaited: what an item reads next; "", if it is whole.
func (c *chart) awaited(x item) string {
	if body := c.rules[x.rule].body; x.done < len(body) {
		return body[x.done]
	}
	return ""
}

// closed: all items that stand ahead of the last set's token.
func (c *chart) closed(l []item) []item {
	at := len(c.sets) - 1
	seen := map[item]bool{}
	add := func(x item) {
		if !seen[x] {
			seen[x] = true
			l = append(l, x)
		}
	}
	first := l
	l = nil
	for _, x := range first {
		add(x)
	}
	// Rules that are empty end where they begin, so that all is gone through till nothing is new.
	for n := -1; n != len(l); {
		n = len(l)
		for i := 0; i < len(l); i++ {
			x := l[i]
			w := c.awaited(x)
			for _, r := range c.heads[w] {
				add(item{rule: r, from: at})
			}
			if w != "" {
				continue
			}
			behind := c.sets[x.from]
			if x.from == at {
				behind = l
			}
			for _, y := range behind {
				if c.awaited(y) == c.rules[x.rule].head {
					add(item{y.rule, y.done + 1, y.from})
				}
			}
		}
	}
	return l
}

// read: takes a token, if a reading does.
func (c *chart) read(class string) bool {
	var l []item
	for _, x := range c.sets[len(c.sets)-1] {
		if c.awaited(x) == class {
			l = append(l, item{x.rule, x.done + 1, x.from})
		}
	}
	if l == nil {
		return false
	}
	c.sets = append(c.sets, nil)
	c.sets[len(c.sets)-1] = c.closed(l)
	return true
}

func (c *chart) awaits(class string) bool {
	return slices.ContainsFunc(c.sets[len(c.sets)-1], func(x item) bool { return c.awaited(x) == class })
}

func classOf(t lex.Token) string {
	switch {
	case t.Kind == lex.End:
		return "end!"
	case t.Kind == lex.Number && strings.HasSuffix(t.Text, "i"):
		return "imag"
	case t.Kind == lex.Number:
		return "whole"
	case t.Kind == lex.Word && !slices.Contains(reserved, t.Text):
		return "name"
	}
	return t.Text
}

// model: what Parse tells of a text in which nothing is too deep.
func (c *chart) model(s string) (int, api.Errno) {
	tokens, at, e := lex.Split(s)
	if e != api.OK {
		return at, e
	}
	c.sets = c.sets[:1]
	for _, x := range tokens {
		switch {
		case c.awaits("kind!"):
			return x.At, api.ErrKind
		case x.Kind == lex.End && c.awaits("cell"):
			return 0, api.OK
		case c.read(classOf(x)):
		case c.awaits("cell"):
			return x.At, api.ErrWord
		default:
			return x.At, api.ErrForm
		}
	}
	return -1, -1
}

func (c *chart) check(t *testing.T, s string) {
	t.Helper()
	at, e := c.model(s)
	checkWrong(t, s, at, e)
}

// changed: each text that comes of one by a token left out, said twice, swapped with the next one, or another one in its place or ahead of it; and each that is cut short.
func changed(s string, others []string, look func(string)) {
	l, _, _ := lex.Split(s)
	for i, x := range l[:len(l)-1] {
		ahead, behind := s[:x.At], s[x.At+len(x.Text):]
		look(ahead)
		look(ahead + " " + behind)
		look(ahead + x.Text + " " + x.Text + behind)
		next := l[i+1]
		look(ahead + next.Text + s[x.At+len(x.Text):next.At] + " " + x.Text + s[next.At+len(next.Text):])
		for _, o := range others {
			look(ahead + " " + o + " " + behind)
			look(ahead + " " + o + " " + x.Text + behind)
		}
	}
	for i := range s {
		look(s[:i])
		look(s[i:])
	}
}

func TestChangedTexts(t *testing.T) {
	c := newChart()
	c.check(t, everything())
	others := slices.Concat(reserved, signs, []string{"y", "5", "5i"})
	var texts []string
	for s := range kindTexts() {
		texts = append(texts, s)
	}
	slices.Sort(texts)
	for _, s := range texts {
		changed("thread t{"+s+"}", others, func(s string) { c.check(t, s) })
	}
	for _, s := range []string{"cell x 0;", "array v -1+2i;", "sem s 3-4i;mutex m;", "budget -2i;thread t{}cell y 0;", "thread t{a=(b+-c*d)<#(!e-~2i);}"} {
		changed(s, others, func(s string) { c.check(t, s) })
	}
}

// source of numbers, always the same ones.
type source uint64

func (s *source) below(n int) int {
	*s = *s*6364136223846793005 + 1442695040888963407
	return int(uint64(*s)>>33) % n
}

// TestTokensInAnyOrder: few of these texts go far; most readings of a grammar that are nearly right are told from it by some.
func TestTokensInAnyOrder(t *testing.T) {
	c := newChart()
	var s source = 5
	words := slices.Concat(reserved, signs, []string{"x", "7", "7i"})
	for range 3000 {
		text := []string{"", "cell x", "cell x 1", "thread t{", "thread t{a=", "thread t{if a{", "thread t{store x,", "thread t{a=cas x[1]", "thread t{a=("}[s.below(9)]
		for range s.below(6) {
			text += " " + words[s.below(len(words))]
		}
		c.check(t, text)
	}
}

// maker makes trees, and texts of them that Parse must read as just them.
type maker struct {
	source
	out    strings.Builder
	loose  bool // with blanks, notes and brackets that needn't be
	inWord bool
}

func (m *maker) word() string {
	return []string{"x", "y", "a", "b", "r1", "_", "Load", "i", "elses", "T_9"}[m.below(10)]
}

// put: writes a token, and answers where it begins.
func (m *maker) put(s string) int {
	asWord := s[0] == '_' || s[0] >= '0' && s[0] <= '9' || s[0] >= 'a' && s[0] <= 'z' || s[0] >= 'A' && s[0] <= 'Z'
	if m.inWord && asWord {
		m.out.WriteString([]string{" ", "\n", "\t", "//\n", " // a;\n "}[m.below(5)])
	} else if m.loose {
		m.out.WriteString([]string{"", "", "", " ", "\n\n", "\t ", "// {\n", " //= // @\x80\n"}[m.below(8)])
	}
	m.inWord = asWord
	at := m.out.Len()
	m.out.WriteString(s)
	return at
}

func (m *maker) num() complex128 {
	out := complex128(0)
	if m.below(3) == 0 {
		m.put("-")
		n := m.below(5) * 1000
		m.put(fmt.Sprint(n))
		out = complex(float64(-n), 0)
	} else {
		n := m.below(1 << 20)
		m.put(fmt.Sprint(n))
		out = complex(float64(n), 0)
	}
	n := m.below(30) + 1
	switch m.below(3) {
	case 0:
		m.put("+")
	case 1:
		m.put("-")
		n = -n
	default:
		return out
	}
	m.put(fmt.Sprint(max(n, -n)) + "i")
	return out + complex(0, float64(n))
}

func (m *maker) expr(depth int) tree.Expr {
	if depth == 1 || m.below(6) == 0 {
		return []tree.Expr{reg(m.word()), num(complex(float64(m.below(100)), 0)), num(complex(0, float64(1+m.below(100))))}[m.below(3)]
	}
	o := []string{"+", "-", "*", "==", "!=", "<", "neg", "conj", "not", "norm"}[m.below(10)]
	if len(o) > 2 {
		return op(o, m.expr(depth-1))
	}
	return op(o, m.expr(depth-1), m.expr(depth-1))
}

func level(o string) int {
	switch o {
	case "==", "!=", "<":
		return 0
	case "+", "-":
		return 1
	case "*":
		return 2
	}
	return 3
}

// putExpr: in brackets, where what stands about it binds more.
func (m *maker) putExpr(e tree.Expr, about int) {
	own := level(e.Op)
	if own < about || m.loose && m.below(5) == 0 {
		m.put("(")
		m.putExpr(e, 0)
		m.put(")")
		return
	}
	switch {
	case e.Op == "":
		m.put(e.Text())
	case e.Op == "reg":
		m.put(e.Name)
	case own == 3:
		m.put(map[string]string{"neg": "-", "conj": "~", "not": "!", "norm": "#"}[e.Op])
		m.putExpr(e.Parts[0], 3)
	default:
		m.putExpr(e.Parts[0], max(own, 1))
		m.put(e.Op)
		m.putExpr(e.Parts[1], own+1)
	}
}

func (m *maker) stmt(blocks int) tree.Stmt {
	k := tree.Kind(m.below(int(tree.Kinds)))
	if blocks == api.MaxDeep && k >= tree.If {
		k = tree.Set
	}
	out := tree.Stmt{Kind: k, At: -1}
	put := func(s string) {
		if at := m.put(s); out.At < 0 {
			out.At = at
		}
	}
	if k.Gives() {
		out.Reg = m.word()
		put(out.Reg)
		put("=")
	}
	if k != tree.Set {
		put(strings.ToLower([]string{"Set", "Load", "Store", "Add", "Swap", "Cas", "Lock", "Unlock", "Try", "Wait", "Post", "Spawn", "Join", "Assert", "Assume", "If", "While"}[k]))
	}
	if k.Named() {
		out.Name = m.word()
		put(out.Name)
	}
	if k.Celled() && m.below(2) == 0 {
		out.Indexed = true
		out.Exprs = append(out.Exprs, m.expr(1+m.below(4)))
		put("[")
		m.putExpr(out.Exprs[0], 0)
		put("]")
	}
	for i := range k.Takes() {
		if i > 0 || k.Named() {
			put(",")
		}
		e := m.expr(1 + m.below(5))
		out.Exprs = append(out.Exprs, e)
		m.putExpr(e, 0)
	}
	if k < tree.If {
		put(";")
		return out
	}
	out.Body = m.block(blocks + 1)
	if k == tree.If && m.below(2) == 0 {
		put("else")
		out.Else = m.block(blocks + 1)
	}
	return out
}

func (m *maker) block(blocks int) []tree.Stmt {
	var out []tree.Stmt
	m.put("{")
	for range m.below(4) {
		out = append(out, m.stmt(blocks))
	}
	m.put("}")
	return out
}

func (m *maker) decl() tree.Decl {
	sort := tree.Sort(m.below(int(tree.Sorts)))
	if m.below(2) == 0 {
		sort = tree.Thread
	}
	out := tree.Decl{Sort: sort, At: m.put(sorts[sort])}
	if sort != tree.Budget {
		out.Name = m.word()
		m.put(out.Name)
	}
	switch sort {
	case tree.Thread:
		out.Body = m.block(1)
		return out
	case tree.Mutex:
	default:
		out.Num = m.num()
	}
	m.put(";")
	return out
}

func (m *maker) program() (tree.Program, string) {
	m.out.Reset()
	m.inWord = false
	var out tree.Program
	for range m.below(5) {
		out.Decls = append(out.Decls, m.decl())
	}
	return out, m.out.String()
}

// TestMadeTexts: P5.1 of texts whose trees are known ahead, and P5.2 of those.
func TestMadeTexts(t *testing.T) {
	for _, loose := range []bool{false, true} {
		m := maker{source: 11, loose: loose}
		for range 1500 {
			p, s := m.program()
			if len(s) > api.MaxText {
				continue
			}
			checkTree(t, s, p)
			checkPrinted(t, p)
		}
	}
}

func checkPrinted(t *testing.T, p tree.Program) {
	t.Helper()
	s := tree.Print(p)
	if len(s) > api.MaxText {
		checkWrong(t, s, 0, api.ErrSize)
		return
	}
	q, at, e := parse.Parse(s)
	if e != api.OK || at != 0 || !tree.Same(p, q) || tree.Print(q) != s {
		t.Errorf("P5.2: %.300q: error %d at %d, or another tree", s, e, at)
	}
}

func TestPrinted(t *testing.T) {
	texts := []string{"", everything(), "cell x -0-1i; budget -1048576+1048576i; array v 1048576i; sem s -3i;", blocks(api.MaxDeep, "if a {} else", "r=1;"), blocks(api.MaxDeep, "while 1", "")}
	for _, e := range deepTexts(api.MaxDeep) {
		texts = append(texts, "thread t { r = load v["+e+"]; if "+e+" { assert "+e+"; } }")
	}
	for s := range kindTexts() {
		texts = append(texts, "thread t {"+s+"}")
	}
	for _, s := range texts {
		p, at, e := parse.Parse(s)
		if e != api.OK {
			t.Errorf("P5.1: %.200q: error %d at %d", s, e, at)
			continue
		}
		checkPrinted(t, p)
	}
}

// TestMadeTextsChanged: texts of all kinds, each with one token changed, or cut short.
func TestMadeTextsChanged(t *testing.T) {
	c := newChart()
	m := maker{source: 17, loose: true}
	words := slices.Concat(reserved, signs, []string{"x", "7", "7i"})
	for range 400 {
		_, s := m.program()
		if len(s) > 1500 {
			continue
		}
		l, _, _ := lex.Split(s)
		for range 4 {
			x := l[m.below(len(l))]
			behind := s[x.At+len(x.Text):]
			c.check(t, s[:x.At]+" "+words[m.below(len(words))]+" "+behind)
			c.check(t, s[:x.At]+" "+behind)
			c.check(t, s[:m.below(len(s)+1)])
		}
	}
}
