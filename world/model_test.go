package world_test

import (
	"fmt"
	"maps"
	"slices"
	"strings"
	"testing"

	"braidwork/api"
	"braidwork/code"
	"braidwork/event"
	"braidwork/local"
	"braidwork/tree"
	"braidwork/world"
)

// whole is a complex number in whole numbers.
type whole struct{ re, im int64 }

func wholeOf(c complex128) whole {
	return whole{int64(real(c)), int64(imag(c))}
}

// model is a second reading of a world: what each object is, by its number. A cell's is its number; a mutex's 0, or 1 more than who holds it; a semaphore's how high it is; a thread's is its status.
type model struct {
	program code.Program
	objects map[int]whole
	threads []local.State
	mutexes int // the first one's object
	sems    int
	first   int // the first thread's
}

func modelOf(p code.Program) model {
	m := model{program: p, objects: map[int]whole{}, mutexes: len(p.Cells)}
	m.sems = m.mutexes + p.Mutexes
	m.first = m.sems + len(p.Sems)
	for i, c := range p.Cells {
		m.objects[i] = wholeOf(c)
	}
	for i := range p.Mutexes {
		m.objects[m.mutexes+i] = whole{}
	}
	for i, n := range p.Sems {
		m.objects[m.sems+i] = whole{re: int64(n)}
	}
	m.threads = make([]local.State, len(p.Threads))
	m.threads[0] = local.Born(p.Threads[0], p.Budget)
	m.note()
	return m
}

// note: the threads' statuses as their objects.
func (m model) note() {
	for i, s := range m.threads {
		m.objects[m.first+i] = whole{re: int64(s.Status)}
	}
}

// text: the same as all of a world.
func (m model) text() string {
	var cells, words []string
	holders, sems := []int{}, []int{}
	for i := range m.first {
		n := m.objects[i]
		switch {
		case i < m.mutexes:
			cells = append(cells, numberText(n))
		case i < m.sems:
			holders = append(holders, int(n.re)-1)
		default:
			sems = append(sems, int(n.re))
		}
	}
	for i := range m.threads {
		words = append(words, strings.Fields("unborn waiting done failed faulty spent pruned")[m.objects[m.first+i].re])
	}
	return fmt.Sprintf("%s; %v; %v; %v", strings.Join(slices.Concat(cells, []string{"|"}, words), " "), holders, sems, m.threads)
}

func numberText(n whole) string {
	switch {
	case n.im == 0:
		return fmt.Sprint(n.re)
	case n.re == 0:
		return fmt.Sprintf("%di", n.im)
	}
	return fmt.Sprintf("%d%+di", n.re, n.im)
}

func (m model) next(t int) (local.Op, bool) {
	return local.Next(m.program.Threads[t], m.threads[t])
}

// enabled: by what stands there of an object.
func (m model) enabled(t int) bool {
	op, ok := m.next(t)
	n := m.objects[op.Object].re
	return ok && (op.Kind != tree.Lock || n == 0) && (op.Kind != tree.Wait || n > 0) && (op.Kind != tree.Join || n > int64(local.Live))
}

// outcome: what an op of a thread makes of its object, and gives; false: it goes wrong.
func outcome(op local.Op, t int, was whole) (now, given whole, ok bool) {
	a, b := wholeOf(op.Args[0]), wholeOf(op.Args[1])
	me := whole{re: int64(t + 1)}
	one, none := whole{re: 1}, whole{}
	switch op.Kind {
	case tree.Load, tree.Join:
		return was, was, true
	case tree.Store, tree.Swap:
		return a, was, true
	case tree.Add:
		now = whole{was.re + a.re, was.im + a.im}
		return now, was, max(now.re, -now.re, now.im, -now.im) <= api.MaxPart
	case tree.Cas:
		if was == a {
			return b, one, true
		}
		return was, none, true
	case tree.Lock:
		return me, none, true
	case tree.Unlock:
		return none, none, was == me
	case tree.Try:
		if was == none {
			return me, one, true
		}
		return was, none, true
	case tree.Wait:
		return whole{re: was.re - 1}, none, true
	case tree.Post:
		return whole{re: was.re + 1}, none, was.re < api.MaxPart
	case tree.Spawn:
		return whole{re: int64(local.Live)}, none, was == none
	}
	panic("no such kind")
}

// pick: the model behind a step that can be, and what it touches.
func (m model) pick(t int) (model, string) {
	m.objects = maps.Clone(m.objects)
	m.threads = slices.Clone(m.threads)
	op, _ := m.next(t)
	now, given, ok := outcome(op, t, m.objects[op.Object])
	s := &m.threads[t]
	s.Left--
	if ok {
		m.objects[op.Object] = now
		if op.Kind == tree.Spawn {
			u := op.Object - m.first
			m.threads[u] = local.Born(m.program.Threads[u], m.program.Budget)
		}
		s.PC++
		if m.program.Threads[t].Code[s.PC-1].Kind.Gives() {
			s.Regs[op.Reg] = complex(float64(given.re), float64(given.im))
		}
		*s = local.Run(m.program.Threads[t], *s)
	} else {
		s.Status = local.Faulty
	}
	m.note()
	touched := map[int]bool{op.Object: op.Kind != tree.Load && op.Kind != tree.Join}
	if s.Status >= local.Done {
		touched[m.first+t] = true
	}
	return m, touchedText(touched)
}

func touchedText(l map[int]bool) string {
	var out []string
	for _, object := range slices.Sorted(maps.Keys(l)) {
		s := fmt.Sprint(object)
		if l[object] {
			s += "!"
		}
		out = append(out, s)
	}
	return strings.Join(out, " ")
}

// source: numbers that look made at random, the same ones each time.
type source uint64

func (s *source) below(n int) int {
	*s = *s*6364136223846793005 + 1442695040888963407
	return int(uint64(*s)>>33) % n
}

func (s *source) pick(l ...string) string {
	return l[s.below(len(l))]
}

// forms: R is a register, E an expression, T a thread, M a mutex, S a semaphore, C a cell.
var forms = []string{"R = load C;", "R = load C;", "store C, E;", "R = add C, E;", "R = swap C, E;", "R = cas C, E, E;", "lock M;", "unlock M;", "R = try M;", "wait S;", "post S;", "spawn T;", "spawn T;", "join T;", "R = E;", "assert R != 1;", "assume R != 1;", "if R { B } else { B }", "while R < 2 { R = R + 1; B }", "lock M; B unlock M;", "R = try M; if R { B unlock M; }"}

// body: of so many statements.
func (s *source) body(threads, many, deep int) string {
	var out strings.Builder
	for range many {
		for _, c := range s.pick(forms...) {
			switch c {
			case 'R':
				out.WriteString(s.pick("a", "b"))
			case 'E':
				out.WriteString(s.pick("0", "1", "2", "3", "a", "b", "a + 1", "1i", "-1", "1048576"))
			case 'C':
				out.WriteString(s.pick("x", "y", "v[0]", "v[1]", "v[a]"))
			case 'M':
				out.WriteString(s.pick("m", "n"))
			case 'S':
				out.WriteString(s.pick("s", "z", "q"))
			case 'T':
				fmt.Fprintf(&out, "t%d", s.below(threads))
			case 'B':
				if deep > 0 {
					out.WriteString(s.body(threads, 1, deep-1))
				}
			default:
				out.WriteRune(c)
			}
		}
	}
	return out.String()
}

// program: of so many threads, the first of which begins by spawning some.
func (s *source) program(threads, many int) string {
	var out strings.Builder
	fmt.Fprintf(&out, "cell x 0; cell y %s; array v 2; mutex m; mutex n; sem s 1; sem z 0; sem q 1048576; budget %d; ", s.pick("1", "1048575", "-2i"), 5+s.below(40))
	for i := range threads {
		fmt.Fprintf(&out, "thread t%d { ", i)
		for k := 1; k < threads && i == 0; k++ {
			if s.below(5) > 0 {
				fmt.Fprintf(&out, "spawn t%d; ", k)
			}
		}
		out.WriteString(s.body(threads, 1+s.below(many), 2) + "} ")
	}
	return out.String()
}

// made: a program that was made, and its text.
func made(t *testing.T, s *source, threads, many int) (string, code.Program) {
	t.Helper()
	text := s.program(threads, many)
	return text, read(t, text)
}

// held holds a world against its model: all that is in it, and what each thread does next.
func held(t *testing.T, what string, w world.World, m model) {
	t.Helper()
	if all(w) != m.text() {
		t.Fatalf("P10.1: %s: %s\nnot %s", what, all(w), m.text())
	}
	for i := range m.threads {
		op, ok := w.Next(i)
		wantOp, wantOK := m.next(i)
		if op != wantOp || ok != wantOK || w.Enabled(i) != m.enabled(i) || w.All()>>i&1 == 1 != m.enabled(i) {
			t.Fatalf("P10.1: %s: %s: thread %d: Next %v %v, Enabled %v, All %b", what, all(w), i, op, ok, w.Enabled(i), w.All())
		}
	}
}

// able: the threads that can go on.
func able(m model) []int {
	var out []int
	for i := range m.threads {
		if m.enabled(i) {
			out = append(out, i)
		}
	}
	return out
}

// tally is how often something was met.
type tally struct {
	kinds, wrong [tree.Kinds]int
	ends         [local.Statuses]int
	pairs        int // swapped
	stuck        int // threads that wait, where nobody can go on
	freed, held  int // a step made that another one can, or can't go on
}

// count: a step that is about to come.
func (n *tally) count(m model, t int) {
	op, _ := m.next(t)
	n.kinds[op.Kind]++
	if _, _, ok := outcome(op, t, m.objects[op.Object]); !ok {
		n.wrong[op.Kind]++
	}
}

// TestWholeRuns: of programs that were made, by any picks.
func TestWholeRuns(t *testing.T) {
	s := source(10)
	var n tally
	for range 4000 {
		text, p := made(t, &s, 1+s.below(api.MaxThreads), 7)
		w, m := world.New(p), modelOf(p)
		steps := make([]int, len(p.Threads))
		for {
			held(t, text, w, m)
			l := able(m)
			if len(l) == 0 {
				break
			}
			checkPairs(t, text, w, l, &n)
			who := l[s.below(len(l))]
			n.count(m, who)
			next, marks := picked(t, w, who)
			var want string
			m, want = m.pick(who)
			if marks != want {
				t.Fatalf("P10.1: %s: %s: the step of %d touches %s, not %s", text, all(w), who, marks, want)
			}
			steps[who]++
			w = next
		}
		checkEnd(t, text, p, w, steps, &n)
	}
	n.check(t)
}

// checkEnd: behind a whole run.
func checkEnd(t *testing.T, text string, p code.Program, w world.World, steps []int, n *tally) {
	t.Helper()
	for i, s := range w.Threads {
		if steps[i] > p.Budget || s.Left < 0 || s.Status != local.Unborn && steps[i] > p.Budget-s.Left {
			t.Errorf("P10.3: %s: thread %d has %d steps of %d, and %d left", text, i, steps[i], p.Budget, s.Left)
		}
		checkStuck(t, w, i)
		n.ends[s.Status]++
		if s.Status == local.Live {
			n.stuck++
		}
	}
}

// check: was everything met?
func (n *tally) check(t *testing.T) {
	t.Helper()
	for k := tree.Load; k <= tree.Join; k++ {
		mayFail := k == tree.Add || k == tree.Unlock || k == tree.Post || k == tree.Spawn
		if n.kinds[k] < 200 || mayFail && n.wrong[k] < 50 || !mayFail && n.wrong[k] > 0 {
			t.Errorf("of %s only %d steps, %d of which go wrong", k.Word(), n.kinds[k], n.wrong[k])
		}
	}
	for s, k := range n.ends {
		if k < 100 {
			t.Errorf("only %d threads that end with the status %d", k, s)
		}
	}
	if n.pairs < 5000 || n.stuck < 500 || n.freed < 500 || n.held < 200 {
		t.Errorf("only %d pairs, %d that wait at the end, %d steps that let another one go on, %d that don't", n.pairs, n.stuck, n.freed, n.held)
	}
}

// checkPairs: at a world, each step of one that can go on, and each other thread.
func checkPairs(t *testing.T, text string, w world.World, l []int, n *tally) {
	t.Helper()
	for _, a := range l {
		behind, e, _ := w.Pick(a)
		for b := range w.Threads {
			if a == b {
				continue
			}
			if w.Enabled(b) != behind.Enabled(b) {
				checkTurn(t, text, w, behind, e, b, n)
			}
			if w.Enabled(b) {
				checkSwap(t, text, w, a, b, n)
			}
		}
	}
}

// checkTurn: a step made that another thread can, or can't go on. Then it wrote what that one waits for, or its status.
func checkTurn(t *testing.T, text string, w, behind world.World, e event.Event, b int, n *tally) {
	t.Helper()
	needs := event.Mark{Object: w.Program.Status(b)}
	if op, ok := w.Next(b); ok {
		needs = world.Mark(op)
	}
	if !event.Clash(e.Marks, []event.Mark{needs}) {
		t.Fatalf("P10.2: %s: %s: the step of %d touches %s, and thread %d can go on: %v, then %v", text, all(w), e.Thread, marksText(e), b, w.Enabled(b), behind.Enabled(b))
	}
	if !w.Enabled(b) {
		n.freed++
		_, f, _ := behind.Pick(b)
		// Of one that wasn't born nothing is said: its first step needn't touch its status.
		if w.Threads[b].Status != local.Unborn && !event.Depend(e, f) {
			t.Fatalf("P10.2: %s: %s: %d lets %d go on, and they don't depend on one another", text, all(w), e.Thread, b)
		}
		return
	}
	n.held++
	if _, f, _ := w.Pick(b); !event.Depend(e, f) {
		t.Fatalf("P10.2: %s: %s: %d holds %d up, and they don't depend on one another", text, all(w), e.Thread, b)
	}
}

// checkSwap: two that can go on, and don't depend on one another, in both orders.
func checkSwap(t *testing.T, text string, w world.World, a, b int, n *tally) {
	t.Helper()
	wa, ea, _ := w.Pick(a)
	wb, eb, _ := w.Pick(b)
	if event.Depend(ea, eb) {
		return
	}
	n.pairs++
	wab, eb2, okB := wa.Pick(b)
	wba, ea2, okA := wb.Pick(a)
	if !okA || !okB || !world.Same(wab, wba) || all(wab) != all(wba) || !event.Same(ea, ea2) || !event.Same(eb, eb2) {
		t.Fatalf("P10.2: %s: %s: %d, then %d comes to %s, and touches %s, %s;\nthe other way it comes to %s, and touches %s, %s", text, all(w), a, b, all(wab), marksText(ea), marksText(eb2), all(wba), marksText(ea2), marksText(eb))
	}
}

// ends: of all runs their worlds' texts, and how many come to each.
func ends(t *testing.T, text string, w world.World, deep int, out map[string]int, n *tally) {
	t.Helper()
	if deep < 0 {
		t.Fatalf("P10.3: %s: a run has too many steps", text)
	}
	var l []int
	for i := range w.Threads {
		if w.Enabled(i) {
			l = append(l, i)
		}
	}
	if len(l) == 0 {
		out[w.Text()]++
	}
	checkPairs(t, text, w, l, n)
	for _, i := range l {
		next, _, _ := w.Pick(i)
		ends(t, text, next, deep-1, out, n)
	}
}

// TestAllRuns: of small programs, by how many runs each end is come to.
func TestAllRuns(t *testing.T) {
	for _, c := range []struct {
		text string
		want map[string]int
	}{
		{"cell x 0; thread a { spawn b; store x, 1; } thread b { store x, 2; }", map[string]int{"1 | done done": 1, "2 | done done": 1}},
		{"cell x 0; cell y 0; thread a { spawn b; store x, 1; } thread b { store y, 2; }", map[string]int{"1 2 | done done": 2}},
		{"cell x 0; thread a { spawn b; r = load x; store x, r + 1; } thread b { r = load x; store x, r + 1; }", map[string]int{"2 | done done": 2, "1 | done done": 4}},
		{"cell x 0; thread a { spawn b; r = add x, 1; r = add x, 1; } thread b { r = add x, 1i; r = add x, 1i; }", map[string]int{"2+2i | done done": 6}},
		{"cell x 0; mutex m; thread a { spawn b; lock m; r = load x; store x, r + 1; unlock m; } thread b { lock m; r = load x; store x, r + 1; unlock m; }", map[string]int{"2 | done done": 2}},
		{"mutex m; mutex n; thread a { spawn b; lock m; lock n; } thread b { lock n; lock m; }", map[string]int{"| done waiting": 1, "| waiting done": 1, "| waiting waiting": 2}},
		{"cell x 0; thread a { spawn b; join b; r = load x; assert r == 3; } thread b { store x, 3; }", map[string]int{"3 | done done": 1}},
		{"cell x 0; thread a { spawn b; r = load x; assume r; } thread b { store x, 3; }", map[string]int{"3 | done done": 1, "3 | pruned done": 1}},
		{"cell x 0; thread a { spawn b; r = cas x, 0, 1; assert r; } thread b { r = cas x, 0, 2; assert r; }", map[string]int{"1 | done failed": 1, "2 | failed done": 1}},
		{"sem s 1; cell x 0; thread a { spawn b; spawn c; wait s; } thread b { wait s; } thread c { wait s; r = add x, 1; }", map[string]int{"0 | done waiting waiting": 1, "0 | waiting done waiting": 2, "1 | waiting waiting done": 1}},
		{"budget 5; cell x 0; thread a { spawn b; while 1 { r = add x, 1; } } thread b { while 1 { r = add x, 10; } }", map[string]int{"21 | spent spent": 3}},
	} {
		got := map[string]int{}
		var n tally
		ends(t, c.text, world.New(read(t, c.text)), 20, got, &n)
		if !maps.Equal(got, c.want) {
			t.Errorf("P10.1: %s: ends %v, not %v", c.text, got, c.want)
		}
	}
}

// TestAllRunsOfMadePrograms: of short ones, whatever they come to.
func TestAllRunsOfMadePrograms(t *testing.T) {
	s := source(102)
	var n tally
	for range 300 {
		text, p := made(t, &s, 1+s.below(3), 2)
		w := world.New(p)
		ends(t, text, w, p.Budget*len(p.Threads), map[string]int{}, &n)
	}
	if n.pairs < 1000 {
		t.Errorf("only %d pairs", n.pairs)
	}
}
