package local_test

import (
	"fmt"
	"slices"
	"strings"
	"testing"

	"braidwork/api"
	"braidwork/code"
	"braidwork/local"
	"braidwork/names"
	"braidwork/parse"
	"braidwork/tree"
)

// source: numbers that look made at random, the same ones each time.
type source uint64

func (s *source) below(n int) int {
	*s = *s*6364136223846793005 + 1442695040888963407
	return int(uint64(*s)>>33) % n
}

// whole is a complex number in whole numbers.
type whole struct{ re, im int64 }

func (n whole) complex() complex128 {
	return complex(float64(n.re), float64(n.im))
}

func (n whole) fits() bool {
	return max(n.re, -n.re, n.im, -n.im) <= api.MaxPart
}

// truth: how a yes or no counts.
func truth(b bool) whole {
	if b {
		return whole{1, 0}
	}
	return whole{}
}

// walker goes through a thread's statements, not its instructions: a second reading of how a thread goes by itself.
type walker struct {
	left   int
	names  []string
	regs   [api.MaxRegs]whole
	things map[string]names.Thing
	given  []whole // to each stop what is given there
	stops  []string
	end    local.State
}

func (w *walker) over(pc int, status local.Status) bool {
	w.end = local.State{PC: pc, Left: w.left, Status: status}
	for i, n := range w.regs {
		w.end.Regs[i] = n.complex()
	}
	return false
}

// mayStep: is there a step left?
func (w *walker) mayStep(pc int) bool {
	return w.left > 0 || w.over(pc, local.Spent)
}

func (w *walker) value(e tree.Expr) (whole, bool) {
	switch e.Op {
	case "":
		return whole{int64(real(e.Num)), int64(imag(e.Num))}, true
	case "reg":
		return w.regs[slices.Index(w.names, e.Name)], true
	}
	parts := []whole{{}, {}}
	for i, x := range e.Parts {
		n, ok := w.value(x)
		if !ok {
			return whole{}, false
		}
		parts[i] = n
	}
	out := done(e.Op, parts[0], parts[1])
	return out, out.fits()
}

func done(op string, a, b whole) whole {
	switch op {
	case "+":
		return whole{a.re + b.re, a.im + b.im}
	case "-":
		return whole{a.re - b.re, a.im - b.im}
	case "*":
		return whole{a.re*b.re - a.im*b.im, a.re*b.im + a.im*b.re}
	case "==":
		return truth(a == b)
	case "!=":
		return truth(a != b)
	case "<":
		return truth(a.re < b.re || a.re == b.re && a.im < b.im)
	case "neg":
		return whole{-a.re, -a.im}
	case "conj":
		return whole{a.re, -a.im}
	case "not":
		return truth(a == whole{})
	case "norm":
		return whole{a.re*a.re + a.im*a.im, 0}
	}
	panic("no such " + op)
}

// size: how many instructions a body has.
func size(body []tree.Stmt) int {
	n := len(body)
	for _, s := range body {
		n += size(s.Body) + size(s.Else)
		if s.Kind == tree.While || len(s.Else) > 0 {
			n++
		}
	}
	return n
}

// body: false, if the thread is over within it.
func (w *walker) body(body []tree.Stmt, pc int) bool {
	for i, s := range body {
		if !w.stmt(s, pc+size(body[:i])) {
			return false
		}
	}
	return true
}

func (w *walker) stmt(s tree.Stmt, pc int) bool {
	if !w.mayStep(pc) {
		return false
	}
	var values []whole
	for _, e := range s.Exprs {
		n, ok := w.value(e)
		if !ok {
			return w.over(pc, local.Faulty)
		}
		values = append(values, n)
	}
	if s.Kind.Named() {
		return w.stop(s, values, pc)
	}
	w.left--
	switch s.Kind {
	case tree.Set:
		w.regs[slices.Index(w.names, s.Reg)] = values[0]
	case tree.Assert:
		return values[0] != whole{} || w.over(pc+1, local.Failed)
	case tree.Assume:
		return values[0] != whole{} || w.over(pc+1, local.Pruned)
	case tree.If:
		return w.branch(s, values[0], pc)
	case tree.While:
		return w.loop(s, values[0], pc)
	}
	return true
}

func (w *walker) branch(s tree.Stmt, n whole, pc int) bool {
	behind := pc + 1 + size(s.Body)
	if n == (whole{}) {
		return w.body(s.Else, behind+1)
	}
	if !w.body(s.Body, pc+1) {
		return false
	}
	if len(s.Else) == 0 {
		return true
	}
	// The jump over the Else is a step, too.
	ok := w.mayStep(behind)
	w.left--
	return ok
}

func (w *walker) loop(s tree.Stmt, n whole, pc int) bool {
	if n == (whole{}) {
		return true
	}
	back := pc + 1 + size(s.Body)
	if !w.body(s.Body, pc+1) || !w.mayStep(back) {
		return false
	}
	w.left--
	return w.stmt(s, pc)
}

// stop: at something that is Visible.
func (w *walker) stop(s tree.Stmt, values []whole, pc int) bool {
	thing := w.things[s.Name]
	object := thing.Base
	if s.Indexed {
		n := values[0]
		if n.im != 0 || n.re < 0 || n.re >= int64(thing.Len) {
			return w.over(pc, local.Faulty)
		}
		object += int(n.re)
		values = values[1:]
	}
	reg := -1
	if s.Kind.Gives() {
		reg = slices.Index(w.names, s.Reg)
	}
	var args [2]complex128
	for i, n := range values {
		args[i] = n.complex()
	}
	w.stops = append(w.stops, fmt.Sprintf("at %d, left %d: %v", pc, w.left, local.Op{Kind: s.Kind, Object: object, Args: args, Reg: reg}))
	w.left--
	if reg >= 0 {
		w.regs[reg] = w.given[len(w.stops)%len(w.given)]
	}
	return true
}

// walk: all stops, and the end.
func (w *walker) walk(body []tree.Stmt) ([]string, local.State) {
	if w.body(body, 0) {
		w.over(size(body), local.Done)
	}
	return w.stops, w.end
}

// gone: all stops, and the end, by the calls of local.
func gone(x code.Thread, budget int, given []whole) ([]string, local.State) {
	var stops []string
	s := local.Born(x, budget)
	for s.Status == local.Live {
		op, ok := local.Next(x, s)
		if !ok || local.Run(x, s) != s {
			return append(stops, "it neither waits nor is it over"), s
		}
		stops = append(stops, fmt.Sprintf("at %d, left %d: %v", s.PC, s.Left, op))
		s.PC++
		s.Left--
		s = local.Run(x, s.Give(op.Reg, given[len(stops)%len(given)].complex()))
	}
	return stops, s
}

// maker makes threads' bodies.
type maker struct {
	source
	out strings.Builder
}

func (m *maker) pick(l ...string) string {
	return l[m.below(len(l))]
}

func (m *maker) expr(deep int) string {
	switch k := m.below(9); {
	case k < 2 || deep == 0:
		return m.pick("0", "1", "2", "3", "1i", "2i", "1024", "1048576")
	case k < 5:
		return m.pick("a", "b", "c", "d")
	case k < 6:
		return m.pick("-", "~", "!", "#") + "(" + m.expr(deep-1) + ")"
	}
	return "(" + m.expr(deep-1) + m.pick("+", "-", "+", "-", "*", "==", "!=", "<") + m.expr(deep-1) + ")"
}

// forms: R is a register, E an expression, I an index.
var forms = []string{"R = E;", "R = E;", "R = R + 1;", "R = R - 1;", "assert R != 3;", "assume R != 4;", "assert E;", "assume E;", "R = load x;", "R = load v[I];", "store y, E;", "store v[I], E;", "R = add v[I], E;", "R = swap x, E;", "R = cas v[I], E, E;", "lock m;", "unlock n;", "R = try n;", "wait s;", "post w;", "spawn u;", "join t;"}

func (m *maker) plain() {
	for _, c := range m.pick(forms...) {
		switch c {
		case 'R':
			m.out.WriteString(m.pick("a", "b", "c", "d"))
		case 'E':
			m.out.WriteString(m.expr(3))
		case 'I':
			m.out.WriteString(m.pick("0", "1", "2", "a", "b", m.expr(1)))
		default:
			m.out.WriteRune(c)
		}
	}
}

func (m *maker) test() string {
	return m.pick(m.pick("a", "b", "c")+" < "+m.pick("2", "3", "4"), m.expr(2), "1")
}

func (m *maker) block(deep int) {
	m.out.WriteString("{")
	for range 1 + m.below(4) {
		switch k := m.below(7); {
		case k == 0 && deep > 0:
			m.out.WriteString("while " + m.test())
			m.block(deep - 1)
		case k <= 2 && deep > 0:
			m.out.WriteString("if " + m.test())
			m.block(deep - 1)
			if m.below(2) == 0 {
				m.out.WriteString("else")
				m.block(deep - 1)
			}
		default:
			m.plain()
		}
	}
	m.out.WriteString("}")
}

// made: a thread, and what it was made of; false, if it is too long.
func made(t *testing.T, m *maker) (string, code.Thread, []tree.Stmt, map[string]names.Thing, bool) {
	t.Helper()
	m.out.Reset()
	m.block(3)
	text := decls + "thread t " + m.out.String() + " thread u { }"
	p, _, e := code.Read(text)
	if e == api.ErrSize {
		return "", code.Thread{}, nil, nil, false
	}
	whole, _, _ := parse.Parse(text)
	table, _, _ := names.Check(whole)
	at := slices.IndexFunc(whole.Decls, func(d tree.Decl) bool { return d.Sort == tree.Thread })
	if e != api.OK || at < 0 {
		t.Fatalf("%s: error %d", text, e)
	}
	return m.out.String(), p.Threads[0], whole.Decls[at].Body, table.Things, true
}

// TestAgainstStatements: threads that were made go by their instructions as they go by their statements.
func TestAgainstStatements(t *testing.T) {
	m := &maker{source: 9}
	var ends [local.Statuses]int
	stops := 0
	for range 6000 {
		text, x, body, things, ok := made(t, m)
		if !ok {
			continue
		}
		var given []whole
		for range 5 {
			given = append(given, whole{int64(m.below(5) - 1), int64(m.below(5) / 4)})
		}
		budget := m.below(60) - 2
		w := walker{left: budget, names: x.Regs, things: things, given: given}
		wantStops, want := w.walk(body)
		gotStops, got := gone(x, budget, given)
		if !slices.Equal(gotStops, wantStops) {
			t.Fatalf("P9.1: %s with %d steps, given %v: stops %q, not %q", text, budget, given, gotStops, wantStops)
		}
		if stateText(got) != stateText(want) {
			t.Fatalf("P9.1: %s with %d steps, given %v: at the end %s; not %s", text, budget, given, stateText(got), stateText(want))
		}
		ends[want.Status]++
		stops += len(wantStops)
	}
	for status := local.Done; status < local.Statuses; status++ {
		if ends[status] < 100 {
			t.Errorf("only %d threads come to the status %d", ends[status], status)
		}
	}
	if stops < 3000 {
		t.Errorf("only %d stops", stops)
	}
}

// oddState: any that may be handed in.
func (m *maker) oddState(x code.Thread) local.State {
	s := local.State{PC: m.below(len(x.Code) + 1), Left: m.below(8) - 1, Status: local.Live}
	if m.below(8) == 0 {
		s.PC, s.Status = m.below(400)-100, local.Status(m.below(12)-2)
	}
	if s.Status == local.Live {
		s.PC = min(max(s.PC, 0), len(x.Code))
	}
	for i := range s.Regs {
		s.Regs[i] = complex(float64(m.below(6)-1), float64(m.below(6)/5))
		if m.below(40) == 0 {
			s.Regs[i] = complex(0.5, float64(m.below(3)<<20))
		}
	}
	return s
}

// behind: a state behind one instruction that isn't Visible, whose expression's value is c.
func behind(i code.Instr, s local.State, c complex128) local.State {
	s.Left--
	s.PC++
	switch {
	case i.Kind == tree.Set:
		s.Regs[i.Reg] = c
	case i.Kind == tree.Assert && c == 0:
		s.Status = local.Failed
	case i.Kind == tree.Assume && c == 0:
		s.Status = local.Pruned
	case i.Kind == tree.If && c == 0, i.Kind == tree.While:
		s.PC = i.To
	}
	return s
}

// nextOf: what an instruction that is Visible does.
func nextOf(i code.Instr, values []complex128) (local.Op, bool) {
	op := local.Op{Kind: i.Kind, Object: i.Base, Reg: i.Reg}
	if i.Indexed {
		places := 0
		for n := range i.Len {
			if values[0] == complex(float64(n), 0) {
				op.Object += n
				places++
			}
		}
		if places != 1 {
			return local.Op{}, false
		}
		values = values[1:]
	}
	for n, c := range values {
		op.Args[n] = c
	}
	return op, true
}

// oneOn: what Run of a state is the same as Run of: itself, or what it is at once, or one instruction on.
func oneOn(x code.Thread, s local.State) (local.State, local.Op) {
	with := func(status local.Status) (local.State, local.Op) {
		s.Status = status
		return s, local.Op{}
	}
	if s.PC == len(x.Code) {
		return with(local.Done)
	}
	if s.Left <= 0 {
		return with(local.Spent)
	}
	i := x.Code[s.PC]
	var values []complex128
	for _, e := range i.Exprs {
		c, ok := code.Value(e, x.Regs, s.Regs[:])
		if !ok {
			return with(local.Faulty)
		}
		values = append(values, c)
	}
	if i.Visible() {
		op, ok := nextOf(i, values)
		if !ok {
			return with(local.Faulty)
		}
		return s, op
	}
	return behind(i, s, append(values, 0)[0]), local.Op{}
}

// TestOneInstructionOn: of states that needn't have come of Born.
func TestOneInstructionOn(t *testing.T) {
	m := &maker{source: 21}
	var kinds [tree.Kinds]int
	for range 1500 {
		text, x, _, _, ok := made(t, m)
		if !ok {
			continue
		}
		for range 20 {
			s := m.oddState(x)
			what := fmt.Sprintf("%s: %s", text, stateText(s))
			if s.Status != local.Live {
				checkState(t, what, local.Run(x, s), s)
				checkNone(t, what, x, s)
				continue
			}
			on, op := oneOn(x, s)
			checkState(t, what, local.Run(x, s), local.Run(x, on))
			if on.Status != local.Live {
				checkState(t, what, local.Run(x, s), on)
			}
			switch {
			case op != (local.Op{}):
				checkState(t, what, local.Run(x, s), s)
				checkOp(t, what, x, s, op)
				kinds[op.Kind]++
			case on.Status != local.Spent:
				checkNone(t, what, x, s)
			}
		}
	}
	for k := tree.Load; k <= tree.Join; k++ {
		if kinds[k] < 30 {
			t.Errorf("only %d stops at %s", kinds[k], k.Word())
		}
	}
}
