package names_test

import (
	"fmt"
	"slices"
	"testing"

	"braidwork/api"
	"braidwork/names"
	"braidwork/parse"
	"braidwork/tree"
)

// complaint is one thing that is wrong, and where.
type complaint struct {
	at int
	e  api.Errno
}

// complaints: all that is wrong with a program, in the chapter's order: nothing stops at the first one, and each is asked of the whole that stands ahead of it.
func complaints(p tree.Program) []complaint {
	var out []complaint
	for i := range p.Decls {
		out = append(out, ofDecl(p.Decls[:i+1])...)
	}
	if sorted(p.Decls, tree.Thread) == nil {
		out = append(out, complaint{0, api.ErrNone})
	}
	for _, d := range sorted(p.Decls, tree.Thread) {
		var regs []string
		for _, s := range flat(d.Body) {
			out = append(out, ofStmt(p.Decls, s, regs)...)
			regs = append(regs, mentioned(s)...)
		}
	}
	return out
}

func sorted(decls []tree.Decl, sorts ...tree.Sort) []tree.Decl {
	var out []tree.Decl
	for _, d := range decls {
		if slices.Contains(sorts, d.Sort) {
			out = append(out, d)
		}
	}
	return out
}

// bounds: of each sort whose number has some.
var bounds = map[tree.Sort][2]int{tree.Array: {1, api.MaxArray}, tree.Sem: {0, api.MaxPart}, tree.Budget: {1, api.MaxBudget}}

// ofDecl: what is wrong with the last of these declarations.
func ofDecl(decls []tree.Decl) []complaint {
	var out []complaint
	last := len(decls) - 1
	d := decls[last]
	say := func(wrong bool, e api.Errno) {
		if wrong {
			out = append(out, complaint{d.At, e})
		}
	}
	// Budgets are all without a name, and nothing else is.
	say(slices.ContainsFunc(decls[:last], func(x tree.Decl) bool { return x.Name == d.Name }), api.ErrTwice)
	if b, ok := bounds[d.Sort]; ok {
		n := min(max(int(real(d.Num)), b[0]), b[1])
		say(d.Num != complex(float64(n), 0), api.ErrRange)
	}
	say(len(sorted(decls, tree.Thread)) > 6 || len(decls) > 40 || len(objects(decls)) > 60, api.ErrSize)
	return out
}

// objects: the names that they belong to, in order.
func objects(decls []tree.Decl) []string {
	var out []string
	for _, d := range sorted(decls, tree.Cell, tree.Array) {
		n := 1
		if d.Sort == tree.Array {
			n = min(int(real(d.Num)), api.MaxArray) // of one with more the number is wrong, which is told ahead
		}
		for range n {
			out = append(out, d.Name)
		}
	}
	for _, s := range []tree.Sort{tree.Mutex, tree.Sem, tree.Thread} {
		for _, d := range sorted(decls, s) {
			out = append(out, d.Name)
		}
	}
	return out
}

// flat: statements, each ahead of those of its bodies.
func flat(body []tree.Stmt) []tree.Stmt {
	var out []tree.Stmt
	for _, s := range body {
		out = append(out, s)
		out = append(out, flat(slices.Concat(s.Body, s.Else))...)
	}
	return out
}

// mentioned: a statement's registers, each as often as it stands there.
func mentioned(s tree.Stmt) []string {
	var out []string
	rest := slices.Clone(s.Exprs)
	for len(rest) > 0 {
		e := rest[0]
		rest = slices.Concat(e.Parts, rest[1:])
		if e.Op == "reg" {
			out = append(out, e.Name)
		}
	}
	if s.Reg != "" {
		out = append(out, s.Reg)
	}
	return out
}

// mustBe: the sorts that a kind's name may be of; without an index, and with one.
var mustBe = map[tree.Kind][2]tree.Sort{
	tree.Load: {tree.Cell, tree.Array}, tree.Store: {tree.Cell, tree.Array}, tree.Add: {tree.Cell, tree.Array}, tree.Swap: {tree.Cell, tree.Array}, tree.Cas: {tree.Cell, tree.Array},
	tree.Lock: {tree.Mutex, -1}, tree.Unlock: {tree.Mutex, -1}, tree.Try: {tree.Mutex, -1}, tree.Wait: {tree.Sem, -1}, tree.Post: {tree.Sem, -1}, tree.Spawn: {tree.Thread, -1}, tree.Join: {tree.Thread, -1},
}

// ofStmt: what is wrong with a statement ahead of which those registers stand.
func ofStmt(decls []tree.Decl, s tree.Stmt, regs []string) []complaint {
	var out []complaint
	say := func(wrong bool, e api.Errno) {
		if wrong {
			out = append(out, complaint{s.At, e})
		}
	}
	declared := func(name string) int {
		return slices.IndexFunc(decls, func(d tree.Decl) bool { return d.Name == name })
	}
	if sorts, ok := mustBe[s.Kind]; ok {
		i := declared(s.Name)
		say(i < 0, api.ErrNone)
		must := sorts[0]
		if s.Indexed {
			must = sorts[1]
		}
		say(i >= 0 && decls[i].Sort != must, api.ErrKind)
	}
	for _, name := range mentioned(s) {
		say(declared(name) >= 0, api.ErrKind)
		ahead := len(once(regs))
		regs = append(slices.Clone(regs), name)
		say(len(once(regs)) > ahead && ahead >= 8, api.ErrSize)
	}
	return out
}

// once: a list, each where it stands first.
func once(l []string) []string {
	var out []string
	for i, x := range l {
		if slices.Index(l, x) == i {
			out = append(out, x)
		}
	}
	return out
}

// model: what Check tells of a program.
func model(p tree.Program) (names.Table, int, api.Errno) {
	if l := complaints(p); len(l) > 0 {
		return names.Table{}, l[0].at, l[0].e
	}
	l := objects(p.Decls)
	out := names.Table{Things: things{}, Objects: len(l), Budget: 100}
	for _, d := range p.Decls {
		if d.Sort == tree.Budget {
			out.Things["budget"] = names.Thing{Sort: tree.Budget, Num: d.Num}
			out.Budget = int(real(d.Num))
			continue
		}
		n := 0
		for _, x := range l {
			if x == d.Name {
				n++
			}
		}
		out.Things[d.Name] = names.Thing{Sort: d.Sort, Base: slices.Index(l, d.Name), Len: n, Num: d.Num}
	}
	for _, d := range sorted(p.Decls, tree.Thread) {
		out.Threads = append(out.Threads, d.Name)
		var regs []string
		for _, s := range flat(d.Body) {
			regs = append(regs, mentioned(s)...)
		}
		out.Regs = append(out.Regs, once(regs))
	}
	out.First = slices.Index(l, out.Threads[0])
	return out, 0, api.OK
}

// source of numbers, always the same ones.
type source uint64

func (s *source) below(n int) int {
	*s = *s*6364136223846793005 + 1442695040888963407
	return int(uint64(*s)>>33) % n
}

// maker makes trees such as Parse may answer, but for places, which are any numbers. The more care, the fewer errors.
type maker struct {
	source
	care  int
	decls []tree.Decl
}

func (m *maker) careless() bool {
	return m.below(m.care) == 0
}

func (m *maker) place() int {
	return m.below(2000) - 1000
}

// name: of something of that sort, mostly.
func (m *maker) name(sort tree.Sort) string {
	l := sorted(m.decls, sort)
	if m.careless() {
		l = sorted(m.decls, tree.Cell, tree.Array, tree.Mutex, tree.Sem, tree.Thread)
	}
	if len(l) == 0 || m.careless() {
		return "nobody"
	}
	return l[m.below(len(l))].Name
}

func (m *maker) register() string {
	if m.careless() {
		return m.name(tree.Cell)
	}
	if m.careless() {
		return fmt.Sprint("q", m.below(9))
	}
	return fmt.Sprint("r", m.below(8))
}

func (m *maker) expr(depth int) tree.Expr {
	if depth == 1 || m.below(3) == 0 {
		if m.below(2) == 0 {
			return tree.Expr{Num: complex(float64(m.below(9)), 0)}
		}
		return tree.Expr{Op: "reg", Name: m.register()}
	}
	op := []string{"+", "-", "*", "==", "!=", "<", "neg", "conj", "not", "norm"}[m.below(10)]
	out := tree.Expr{Op: op, Parts: []tree.Expr{m.expr(depth - 1)}}
	if len(op) <= 2 {
		out.Parts = append(out.Parts, m.expr(depth-1))
	}
	return out
}

func (m *maker) stmt(blocks int) tree.Stmt {
	k := tree.Kind(m.below(int(tree.Kinds)))
	if blocks == api.MaxDeep && k >= tree.If {
		k = tree.Assert
	}
	out := tree.Stmt{Kind: k, At: m.place()}
	if sorts, ok := mustBe[k]; ok {
		sort := sorts[0]
		if k.Celled() && m.below(2) == 0 {
			out.Indexed = true
			out.Exprs = append(out.Exprs, m.expr(1+m.below(3)))
			sort = sorts[1]
		}
		out.Name = m.name(sort)
	}
	for range k.Takes() {
		out.Exprs = append(out.Exprs, m.expr(1+m.below(3)))
	}
	if k.Gives() {
		out.Reg = m.register()
	}
	if k >= tree.If {
		out.Body = m.block(blocks + 1)
	}
	if k == tree.If && m.below(2) == 0 {
		out.Else = m.block(blocks + 1)
	}
	return out
}

func (m *maker) block(blocks int) []tree.Stmt {
	var out []tree.Stmt
	for range m.below(4) {
		out = append(out, m.stmt(blocks))
	}
	return out
}

func (m *maker) decl(i int) tree.Decl {
	sort := tree.Sort(m.below(int(tree.Sorts)))
	out := tree.Decl{Sort: sort, Name: fmt.Sprint("n", i), At: m.place()}
	if m.careless() {
		out.Name = fmt.Sprint("n", m.below(i+1))
	}
	switch sort {
	case tree.Cell:
		out.Num = complex(float64(m.below(9)-4), float64(m.below(3)-1))
	case tree.Budget:
		out.Name = ""
		out.Num = complex(float64(1+m.below(100)), 0)
	case tree.Array:
		out.Num = complex(float64(1+m.below(8)), 0)
	case tree.Sem:
		out.Num = complex(float64(m.below(3)), 0)
	}
	if bounds[sort] != [2]int{} && m.careless() {
		out.Num = []complex128{-1, 0, 1, 8, 9, 100, 101, api.MaxPart, 1i, 1 + 1i, 8 - 1i}[m.below(11)]
	}
	return out
}

// program: a budget is dropped, mostly, if there is one; so is a thread, if there are six.
func (m *maker) program(most int) tree.Program {
	m.decls = nil
	for i := range m.below(most) {
		d := m.decl(i)
		full := d.Sort == tree.Budget && len(sorted(m.decls, tree.Budget)) > 0 || d.Sort == tree.Thread && len(sorted(m.decls, tree.Thread)) == 6
		if !full || m.careless() {
			m.decls = append(m.decls, d)
		}
	}
	for i := range m.decls {
		if m.decls[i].Sort == tree.Thread {
			m.decls[i].Body = m.block(1)
		}
	}
	return tree.Program{Decls: m.decls}
}

// TestMadePrograms: against a second reading of the chapter.
func TestMadePrograms(t *testing.T) {
	m := maker{source: 23}
	seen := map[api.Errno]int{}
	for i := range 12000 {
		m.care = []int{3, 30, 300}[i%3]
		p := m.program([]int{6, 12, 30, 50}[i/3%4])
		want, at, e := model(p)
		seen[e]++
		checkAnswer(t, p, want, at, e)
		checkAsText(t, p)
	}
	for _, e := range []api.Errno{api.OK, api.ErrTwice, api.ErrRange, api.ErrSize, api.ErrNone, api.ErrKind} {
		if seen[e] < 100 {
			t.Errorf("error %d only %d times", e, seen[e])
		}
	}
}

// checkAsText: the same of the tree that its text is read as, with that text's places.
func checkAsText(t *testing.T, p tree.Program) {
	t.Helper()
	s := tree.Print(p)
	if len(s) > api.MaxText {
		return
	}
	q, at, e := parse.Parse(s)
	if e != api.OK || !tree.Same(p, q) {
		t.Fatalf("%.600q isn't read as its tree: error %d at %d", s, e, at)
	}
	want, at, e := model(q)
	checkAnswer(t, q, want, at, e)
}
