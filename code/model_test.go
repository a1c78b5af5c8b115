package code_test

import (
	"fmt"
	"slices"
	"strings"
	"testing"

	"braidwork/api"
	"braidwork/code"
	"braidwork/names"
	"braidwork/tree"
)

// taker takes a thread's instructions apart: the statements that they were made of come back.
type taker struct {
	thread code.Thread
	table  names.Table
}

// body: of the instructions from one to below another one.
func (k taker) body(from, to int) []tree.Stmt {
	var out []tree.Stmt
	for i := from; i < to; {
		s, next := k.stmt(i)
		if next <= i || next > to {
			panic(fmt.Sprint("no statement ends behind instruction ", i))
		}
		out = append(out, s)
		i = next
	}
	return out
}

// stmt: the statement that begins with an instruction, and the instruction behind it.
func (k taker) stmt(i int) (tree.Stmt, int) {
	x := k.thread.Code[i]
	if x.Kind == tree.While {
		panic(fmt.Sprint("a While at ", i, " ends nothing"))
	}
	if x.Kind != tree.If {
		return tree.Stmt{Kind: x.Kind, Reg: k.reg(x), Name: k.name(x), Indexed: x.Indexed, Exprs: x.Exprs}, i + 1
	}
	out := tree.Stmt{Kind: tree.If, Exprs: x.Exprs}
	last := k.thread.Code[x.To-1]
	switch {
	case last.Kind == tree.While && last.To == i:
		out.Kind = tree.While
		out.Body = k.body(i+1, x.To-1)
		return out, x.To
	case last.Kind == tree.While && last.To > x.To:
		out.Body = k.body(i+1, x.To-1)
		out.Else = k.body(x.To, last.To)
		return out, last.To
	}
	out.Body = k.body(i+1, x.To)
	return out, x.To
}

func (k taker) reg(x code.Instr) string {
	if x.Reg == -1 {
		return ""
	}
	return k.thread.Regs[x.Reg]
}

// name: by the objects. Of what has none all is nought.
func (k taker) name(x code.Instr) string {
	if x.Base == 0 && x.Len == 0 {
		return ""
	}
	for name, thing := range k.table.Things {
		if thing.Sort != tree.Budget && thing.Base == x.Base && thing.Len == x.Len {
			return name
		}
	}
	return "nobody's"
}

// takenApart: a program's threads.
func takenApart(p code.Program, table names.Table) []tree.Decl {
	var out []tree.Decl
	for i, x := range p.Threads {
		out = append(out, tree.Decl{Sort: tree.Thread, Name: table.Threads[i], Body: taker{x, table}.body(0, len(x.Code))})
	}
	return out
}

// size: how many instructions a body must have.
func size(body []tree.Stmt) int {
	n := 0
	for _, s := range body {
		n += 1 + size(s.Body) + size(s.Else)
		if s.Kind == tree.While || len(s.Else) > 0 {
			n++
		}
	}
	return n
}

func ofSort(p tree.Program, sorts ...tree.Sort) []tree.Decl {
	var out []tree.Decl
	for _, d := range p.Decls {
		if slices.Contains(sorts, d.Sort) {
			out = append(out, d)
		}
	}
	return out
}

// checkShared: what threads share, by the declarations.
func checkShared(t *testing.T, p code.Program, of tree.Program) {
	t.Helper()
	var want code.Program
	for _, d := range ofSort(of, tree.Cell, tree.Array) {
		n := []complex128{d.Num}
		if d.Sort == tree.Array {
			n = make([]complex128, int(real(d.Num)))
		}
		want.Cells = append(want.Cells, n...)
	}
	for _, d := range ofSort(of, tree.Sem) {
		want.Sems = append(want.Sems, int(real(d.Num)))
	}
	want.Mutexes = len(ofSort(of, tree.Mutex))
	want.Budget = 100
	for _, d := range ofSort(of, tree.Budget) {
		want.Budget = int(real(d.Num))
	}
	p.Threads = nil
	if programText(p) != programText(want) {
		t.Errorf("P7.1: %.600q: %s, not %s", tree.Print(of), programText(p), programText(want))
	}
}

// maker makes texts of programs that are well, but for threads that are too long.
type maker struct {
	source
	objects map[string][]string // names by their sorts
	out     strings.Builder
}

// pick: a name of that sort; "", if there is none.
func (m *maker) pick(sort string) string {
	l := m.objects[sort]
	if len(l) == 0 {
		return ""
	}
	return l[m.below(len(l))]
}

func (m *maker) register() string {
	return fmt.Sprint("r", m.below(8))
}

func (m *maker) sum() string {
	return m.expr(1 + m.below(4)).Text()
}

// forms: R is a register, E an expression; what else is large stands for a name of that sort.
var forms = []string{"R = E;", "assert E;", "assume E;", "R = load C;", "store C, E;", "R = add C, E;", "R = swap C, E;", "R = cas C, E, E;", "R = load A[E];", "store A[E], E;", "R = add A[E], E;", "R = swap A[E], E;", "R = cas A[E], E, E;", "lock M;", "unlock M;", "R = try M;", "wait S;", "post S;", "spawn T;", "join T;"}

func (m *maker) plain() {
	form := forms[m.below(len(forms))]
	for _, sort := range []string{"C", "A", "M", "S", "T"} {
		if strings.Contains(form, sort) && m.pick(sort) == "" {
			form = forms[0]
		}
	}
	for i := range len(form) {
		switch c := form[i : i+1]; {
		case c == "R":
			m.out.WriteString(m.register())
		case c == "E":
			m.out.WriteString(m.sum())
		case strings.Contains("CAMST", c):
			m.out.WriteString(m.pick(c))
		default:
			m.out.WriteString(c)
		}
	}
}

func (m *maker) block(blocks, most int) {
	m.out.WriteString("{")
	for range m.below(most) {
		k := m.below(6)
		switch {
		case k == 0 && blocks < 6:
			m.out.WriteString("while " + m.sum())
			m.block(blocks+1, 4)
		case k <= 2 && blocks < 6:
			m.out.WriteString("if " + m.sum())
			m.block(blocks+1, 4)
			if m.below(2) == 0 {
				m.out.WriteString("else")
				m.block(blocks+1, 4)
			}
		default:
			m.plain()
		}
	}
	m.out.WriteString("}")
}

func (m *maker) program(most int) string {
	m.objects = map[string][]string{}
	m.out.Reset()
	sorts := []string{"T"}
	for range m.below(12) {
		sorts = append(sorts, string("CAMST"[m.below(5)]))
	}
	threads := 0
	for i, sort := range sorts {
		if sort == "T" {
			threads++
		}
		if sort != "T" || threads <= 3 {
			m.objects[sort] = append(m.objects[sort], fmt.Sprint("n", i))
		}
	}
	budget := m.below(2 * len(sorts))
	for _, i := range order(m, len(sorts)) {
		if i == budget {
			m.out.WriteString(fmt.Sprint("budget ", 1+m.below(100), ";"))
		}
		name := fmt.Sprint(" n", i, " ")
		switch sort := sorts[i]; {
		case sort == "C":
			m.out.WriteString("cell" + name + []string{"0", "-1", "3+4i", "-2i", "1048576-1i"}[m.below(5)] + ";")
		case sort == "A":
			m.out.WriteString(fmt.Sprint("array", name, 1+m.below(4), ";"))
		case sort == "M":
			m.out.WriteString("mutex" + name + ";")
		case sort == "S":
			m.out.WriteString(fmt.Sprint("sem", name, m.below(4), ";"))
		case slices.Contains(m.objects["T"], strings.TrimSpace(name)):
			m.out.WriteString("thread" + name)
			m.block(1, most)
		}
	}
	return m.out.String()
}

// order: the numbers below n, in some order.
func order(m *maker, n int) []int {
	out := make([]int, n)
	for i := range out {
		j := m.below(i + 1)
		out[i] = out[j]
		out[j] = i
	}
	return out
}

// TestMadePrograms: taken apart, they are the trees that they were made of.
func TestMadePrograms(t *testing.T) {
	m := maker{source: 5}
	well, long := 0, 0
	for i := range 2000 {
		s := m.program([]int{3, 6, 15, 60}[i%4])
		if len(s) > api.MaxText {
			continue
		}
		p, tab := checked(t, s)
		threads := ofSort(p, tree.Thread)
		if slices.ContainsFunc(threads, func(d tree.Decl) bool { return size(d.Body) > api.MaxCode }) {
			long++
			checkWrong(t, s, 0, api.ErrSize)
			continue
		}
		well++
		got := read(t, s)
		for j, d := range threads {
			if n := len(got.Threads[j].Code); n != size(d.Body) {
				t.Fatalf("P7.1: %.600q: %d instructions, not %d", s, n, size(d.Body))
			}
			if !slices.Equal(got.Threads[j].Regs, tab.Regs[j]) {
				t.Fatalf("P7.1: %.600q: registers %q, not %q", s, got.Threads[j].Regs, tab.Regs[j])
			}
		}
		if back := takenApart(got, tab); !tree.Same(tree.Program{Decls: back}, tree.Program{Decls: threads}) {
			t.Fatalf("P7.1: %.600q: taken apart it is %.600q", s, tree.Print(tree.Program{Decls: back}))
		}
		checkShared(t, got, p)
		checkNumbers(t, got, tab)
	}
	if well < 1200 || long < 100 {
		t.Errorf("%d programs, %d with threads that are too long", well, long)
	}
}

// checkNumbers: what has no register, no name and no jump says so; objects are numbered as the table has them.
func checkNumbers(t *testing.T, p code.Program, tab names.Table) {
	t.Helper()
	if p.Objects() != tab.Objects || p.Status(0) != tab.First || p.Budget != tab.Budget {
		t.Errorf("P7.1: %d objects, the first thread's is %d, the budget %d", p.Objects(), p.Status(0), p.Budget)
	}
	for i, name := range tab.Threads {
		if p.Status(i) != tab.Things[name].Base {
			t.Errorf("P7.1: Status of %d: %d", i, p.Status(i))
		}
		for _, x := range p.Threads[i].Code {
			if x.Kind.Gives() != (x.Reg >= 0) || x.Visible() != (x.Len > 0) || !x.Visible() && x.Base != 0 || x.Kind < tree.If && x.To != 0 || x.Kind == tree.While && len(x.Exprs) > 0 {
				t.Errorf("P7.1: %s", instrText(x))
			}
		}
	}
}
