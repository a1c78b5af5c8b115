package foot_test

import (
	"fmt"
	"maps"
	"slices"
	"strings"
	"testing"

	"braidwork/api"
	"braidwork/code"
	"braidwork/event"
	"braidwork/foot"
	"braidwork/local"
	"braidwork/names"
	"braidwork/parse"
	"braidwork/tree"
	"braidwork/world"
)

// closed: of each instruction those that may come from it on, by the chapter's words: it, what is behind it, and, till nothing new comes, what is behind one that may come.
func closed(l []code.Instr) [][]bool {
	comes := make([][]bool, len(l))
	for i := range l {
		comes[i] = make([]bool, len(l))
		comes[i][i] = true
	}
	for more := true; more; {
		more = false
		for i := range l {
			for at := range l {
				if !comes[i][at] {
					continue
				}
				for _, next := range behind(l[at], at) {
					if next >= 0 && next < len(l) && !comes[i][next] {
						comes[i][next], more = true, true
					}
				}
			}
		}
	}
	return comes
}

func behind(x code.Instr, at int) []int {
	if x.Kind == tree.If {
		return []int{at + 1, x.To}
	}
	if x.Kind == tree.While {
		return []int{x.To}
	}
	return []int{at + 1}
}

// plainReach: the same as Reach.
func plainReach(comes []bool) []int {
	var out []int
	for i := range comes {
		if comes[i] {
			out = append(out, i)
		}
	}
	return out
}

// writing: each kind about an object; is that written?
var writing = map[tree.Kind]bool{
	tree.Load: false, tree.Store: true, tree.Add: true, tree.Swap: true, tree.Cas: true,
	tree.Lock: true, tree.Unlock: true, tree.Try: true, tree.Wait: true, tree.Post: true,
	tree.Spawn: true, tree.Join: false,
}

// plainOf: object by object, is there one of the instructions that is about it?
func plainOf(p code.Program, t int, comes []int) []event.Mark {
	var out []event.Mark
	for object := range p.Objects() {
		told, write := object == p.Status(t), object == p.Status(t)
		for _, at := range comes {
			x := p.Threads[t].Code[at]
			w, about := writing[x.Kind]
			if about && x.Base <= object && object < x.Base+x.Len {
				told, write = true, write || w
			}
		}
		if told {
			out = append(out, event.Mark{Object: object, Write: write})
		}
	}
	return out
}

// plainSpawns: thread by thread.
func plainSpawns(p code.Program, t int, comes []int) uint64 {
	var out uint64
	for u := range p.Threads {
		if slices.ContainsFunc(comes, func(at int) bool {
			x := p.Threads[t].Code[at]
			return x.Kind == tree.Spawn && x.Base == p.Status(u)
		}) {
			out |= 1 << u
		}
	}
	return out
}

// checkPlaces: all threads of a program, from all places on, and some beside.
func checkPlaces(t *testing.T, what string, p code.Program) {
	t.Helper()
	for n, thread := range p.Threads {
		comes := closed(thread.Code)
		for pc := -2; pc < len(thread.Code)+2; pc++ {
			var want []int
			if pc >= 0 && pc < len(thread.Code) {
				want = plainReach(comes[pc])
			}
			if got := foot.Reach(thread, pc); !slices.Equal(got, want) {
				t.Fatalf("P14.1: %s: Reach of thread %d from %d is %v, not %v", what, n, pc, got, want)
			}
			if got, want := foot.Of(p, n, pc), plainOf(p, n, want); !slices.Equal(got, want) {
				t.Fatalf("P14.1: %s: Of thread %d from %d is %v, not %v", what, n, pc, got, want)
			}
			if got, want := foot.Spawns(p, n, pc), plainSpawns(p, n, want); got != want {
				t.Fatalf("P14.1: %s: Spawns of thread %d from %d are %b, not %b", what, n, pc, got, want)
			}
		}
	}
}

// source: numbers that look made at random, the same ones each time.
type source uint64

func (s *source) below(n int) int {
	*s = *s*6364136223846793005 + 1442695040888963407
	return int(uint64(*s)>>33) % n
}

func (s *source) pick(l ...string) string {
	return l[s.below(len(l))]
}

// forms: R is a register, E an expression, T a thread, M a mutex, S a semaphore, C a cell, B a body.
var forms = []string{
	"R = load C;", "R = load C;", "store C, E;", "R = add C, E;", "R = swap C, E;", "R = cas C, E, E;",
	"lock M;", "unlock M;", "R = try M;", "wait S;", "post S;", "spawn T;", "spawn T;", "join T;", "join T;",
	"R = E;", "assert R != 1;", "assume R != 1;",
	"if R { B }", "if R { B } else { B }", "if R { B B } else { B B }", "if R { } else { B }", "while R < 2 { R = R + 1; B }", "while R < 2 { B R = R + 1; B }",
	"lock M; B unlock M;", "R = try M; if R { B unlock M; }",
}

// body: of so many statements.
func (s *source) body(threads, many, deep int) string {
	var out strings.Builder
	for range many {
		for _, c := range s.pick(forms...) {
			switch c {
			case 'R':
				out.WriteString(s.pick("a", "b"))
			case 'E':
				out.WriteString(s.pick("0", "1", "2", "3", "a", "b", "a + 1", "1i", "-1", "1048576"))
			case 'C':
				out.WriteString(s.pick("x", "y", "v[0]", "v[1]", "v[a]", "w[a]", "w[b]"))
			case 'M':
				out.WriteString(s.pick("m", "n"))
			case 'S':
				out.WriteString(s.pick("s", "z", "q"))
			case 'T':
				fmt.Fprintf(&out, "t%d", s.below(threads))
			case 'B':
				if deep > 0 {
					out.WriteString(s.body(threads, 1+s.below(2), deep-1))
				}
			default:
				out.WriteRune(c)
			}
		}
	}
	return out.String()
}

// program: of so many threads, the first of which begins by spawning some.
func (s *source) program(threads, many, deep int) string {
	var out strings.Builder
	fmt.Fprintf(&out, "cell x 0; array v 2; mutex m; sem s 1; cell y %s; mutex n; sem z 0; array w 3; sem q 1048576; budget %d; ", s.pick("1", "1048575", "-2i"), 5+s.below(40))
	for i := range threads {
		fmt.Fprintf(&out, "thread t%d { ", i)
		for k := 1; k < threads && i == 0; k++ {
			if s.below(5) > 0 {
				fmt.Fprintf(&out, "spawn t%d; ", k)
			}
		}
		out.WriteString(s.body(threads, s.below(many+1), deep) + "} ")
	}
	return out.String()
}

// TestMadePrograms: against the chapter's words, from every place.
func TestMadePrograms(t *testing.T) {
	s := source(14)
	most := 0
	for range 1500 {
		text := s.program(1+s.below(api.MaxThreads), 5, 3)
		p, at, err := code.Read(text)
		if err == api.ErrSize {
			continue
		}
		if err != api.OK {
			t.Fatalf("%s: error %d at %d", text, err, at)
		}
		checkPlaces(t, text, p)
		for _, thread := range p.Threads {
			most = max(most, len(thread.Code))
		}
	}
	if most < 60 {
		t.Errorf("no thread of more than %d instructions", most)
	}
}

// TestAllShortThreads: all threads of up to four instructions that jump to anywhere, beside them, too.
func TestAllShortThreads(t *testing.T) {
	var kinds []code.Instr
	for to := -1; to <= 4; to++ {
		kinds = append(kinds, code.Instr{Kind: tree.If, To: to}, code.Instr{Kind: tree.While, To: to})
	}
	kinds = append(kinds, code.Instr{Kind: tree.Set}, code.Instr{Kind: tree.Load, Len: 1}, code.Instr{Kind: tree.Spawn, Base: 1, Len: 1})
	lists := [][]code.Instr{nil}
	for range 4 {
		var longer [][]code.Instr
		for _, l := range lists {
			p := code.Program{Threads: []code.Thread{{Code: l}}, Cells: []complex128{0}}
			checkPlaces(t, fmt.Sprint(l), p)
			for _, x := range kinds {
				longer = append(longer, append(slices.Clone(l), x))
			}
		}
		lists = longer
	}
	for i, l := range lists {
		if i%7 == 0 {
			checkPlaces(t, fmt.Sprint(l), code.Program{Threads: []code.Thread{{Code: l}}, Cells: []complex128{0}})
		}
	}
}

// set is places.
type set map[int]bool

func (s set) with(others ...set) set {
	out := maps.Clone(s)
	for _, o := range others {
		maps.Copy(out, o)
	}
	return out
}

func upTo(first, behind int) set {
	out := set{}
	for i := first; i < behind; i++ {
		out[i] = true
	}
	return out
}

// sight is a thread seen as statements, not as jumps: of each instruction what may come, and the statement.
type sight struct {
	comes map[int]set
	stmts map[int]tree.Stmt
}

// length: how many instructions.
func length(l []tree.Stmt) int {
	out := 0
	for _, s := range l {
		out += 1 + length(s.Body) + length(s.Else)
		if s.Kind == tree.While || len(s.Else) > 0 {
			out++
		}
	}
	return out
}

// block: statements from an instruction on, behind which something may come; what may come from the first one on.
func (v sight) block(l []tree.Stmt, first int, then set) set {
	if len(l) == 0 {
		return then
	}
	then = v.block(l[1:], first+length(l[:1]), then)
	return v.stmt(l[0], first, then)
}

func (v sight) stmt(s tree.Stmt, at int, then set) set {
	v.stmts[at] = s
	me := upTo(at, at+1)
	after := at + 1 + length(s.Body)
	switch {
	case s.Kind == tree.While:
		// Once in the loop, all of it may come.
		all := then.with(upTo(at, after+1))
		v.block(s.Body, at+1, all)
		v.comes[at], v.comes[after] = all, all
	case s.Kind == tree.If && len(s.Else) > 0:
		v.comes[after] = then.with(upTo(after, after+1))
		v.comes[at] = me.with(v.block(s.Body, at+1, v.comes[after]), v.block(s.Else, after+1, then))
	case s.Kind == tree.If:
		v.comes[at] = me.with(v.block(s.Body, at+1, then), then)
	default:
		v.comes[at] = me.with(then)
	}
	return v.comes[at]
}

// touched: by the names of statements, as a text like marked's, and the threads that may begin.
func (v sight) touched(tab names.Table, thread int, comes set) (string, uint64) {
	own := tab.First + thread
	written := map[int]bool{own: true}
	var begin uint64
	for at := range comes {
		s, ok := v.stmts[at]
		w, about := writing[s.Kind]
		if !ok || !about {
			continue
		}
		thing := tab.Things[s.Name]
		for i := range thing.Len {
			written[thing.Base+i] = written[thing.Base+i] || w
		}
		if s.Kind == tree.Spawn {
			begin |= 1 << slices.Index(tab.Threads, s.Name)
		}
	}
	var l []event.Mark
	for _, object := range slices.Sorted(maps.Keys(written)) {
		l = append(l, event.Mark{Object: object, Write: written[object]})
	}
	return marked(l), begin
}

// TestStatements: what may come is what a program's text tells, without its jumps.
func TestStatements(t *testing.T) {
	s := source(7)
	for range 1500 {
		text := s.program(1+s.below(4), 5, 3)
		parsed, _, _ := parse.Parse(text)
		tab, at, err := names.Check(parsed)
		if err != api.OK {
			t.Fatalf("%s: error %d at %d", text, err, at)
		}
		p, err := code.Make(parsed, tab)
		if err != api.OK {
			continue
		}
		n := 0
		for _, d := range parsed.Decls {
			if d.Sort == tree.Thread {
				checkSight(t, text, p, tab, n, d.Body)
				n++
			}
		}
	}
}

func checkSight(t *testing.T, text string, p code.Program, tab names.Table, n int, body []tree.Stmt) {
	t.Helper()
	v := sight{map[int]set{}, map[int]tree.Stmt{}}
	v.block(body, 0, set{})
	if len(v.comes) != len(p.Threads[n].Code) {
		t.Fatalf("%s: thread %d has %d instructions, not %d", text, n, len(p.Threads[n].Code), len(v.comes))
	}
	for pc, comes := range v.comes {
		checkReach(t, text, p.Threads[n], pc, numbers(slices.Sorted(maps.Keys(comes))))
		marks, begin := v.touched(tab, n, comes)
		checkOf(t, text, p, n, pc, marks)
		checkSpawns(t, text, p, n, pc, begin)
	}
}

// told is what was told of a thread at one of its places: what may come, be touched, begin.
type told struct {
	at     int
	comes  []int
	marks  []event.Mark
	spawns uint64
}

// tally is how often something was met.
type tally struct {
	events, begun, over, indexed, bare int
}

// tell: at a world, what each thread's place tells, if it is another one than it told of.
func tell(w world.World, l [][]told) {
	for i, s := range w.Threads {
		if s.Status.Over() || len(l[i]) > 0 && l[i][len(l[i])-1].at == s.PC {
			continue
		}
		p := w.Program
		l[i] = append(l[i], told{at: s.PC, comes: foot.Reach(p.Threads[i], s.PC), marks: foot.Of(p, i, s.PC), spawns: foot.Spawns(p, i, s.PC)})
	}
}

// checkStep: a step of a thread, against all that was told of it, at whatever of its places; where it stands then may come, too.
func checkStep(t *testing.T, text string, l []told, w, next world.World, e event.Event, n *tally) {
	t.Helper()
	n.events++
	pc := next.Threads[e.Thread].PC
	end := len(w.Program.Threads[e.Thread].Code)
	for _, then := range l {
		for _, m := range e.Marks {
			if !slices.Contains(then.marks, m) && !slices.Contains(then.marks, event.Mark{Object: m.Object, Write: true}) {
				t.Fatalf("P14.2: %s: thread %d at %d touches %s; from %d on it may touch %s", text, e.Thread, w.Threads[e.Thread].PC, marked(e.Marks), then.at, marked(then.marks))
			}
		}
		if pc != end && !slices.Contains(then.comes, pc) {
			t.Fatalf("P14.1: %s: thread %d stands at %d; from %d on there may come %v", text, e.Thread, pc, then.at, then.comes)
		}
		for u := range w.Threads {
			if w.Threads[u].Status == local.Unborn && next.Threads[u].Status != local.Unborn && then.spawns>>u&1 == 0 {
				t.Fatalf("P14.2: %s: thread %d lets %d begin; from %d on it may %b", text, e.Thread, u, then.at, then.spawns)
			}
		}
	}
}

// count: what a step was like.
func (n *tally) count(w, next world.World, e event.Event) {
	op, _ := w.Next(e.Thread)
	x := w.Program.Threads[e.Thread].Code[w.Threads[e.Thread].PC]
	if op.Object != x.Base {
		n.indexed++
	}
	if next.Threads[e.Thread].Status.Over() {
		n.over++
	}
	if op.Kind == tree.Spawn && next.Threads[e.Thread].Status != local.Faulty {
		n.begun++
	}
	if len(foot.Of(next.Program, e.Thread, next.Threads[e.Thread].PC)) == 1 {
		n.bare++
	}
}

// TestRuns: programs that were made, picked on to their end: whatever a thread does later was told at each of its places.
func TestRuns(t *testing.T) {
	s := source(3)
	var n tally
	for range 3000 {
		text := s.program(1+s.below(5), 6, 2)
		p, _, err := code.Read(text)
		if err != api.OK {
			continue
		}
		for range 3 {
			w := world.New(p)
			l := make([][]told, len(p.Threads))
			for tell(w, l); w.All() != 0; tell(w, l) {
				who := s.below(len(p.Threads))
				next, e, ok := w.Pick(who)
				if !ok {
					continue
				}
				checkStep(t, text, l[who], w, next, e, &n)
				n.count(w, next, e)
				w = next
			}
		}
	}
	if n.events < 20000 || n.begun < 5000 || n.over < 5000 || n.indexed < 1000 || n.bare < 500 {
		t.Errorf("only %+v", n)
	}
}

// everyRun: all runs of a world, to the end.
func everyRun(t *testing.T, text string, w world.World, l [][]told, n *tally) {
	t.Helper()
	tell(w, l)
	for who := range w.Threads {
		if next, e, ok := w.Pick(who); ok {
			checkStep(t, text, l[who], w, next, e, n)
			mine := make([][]told, len(l))
			for i := range l {
				mine[i] = slices.Clone(l[i])
			}
			everyRun(t, text, next, mine, n)
		}
	}
}

// TestAllRuns: of small programs, in all orders.
func TestAllRuns(t *testing.T) {
	for _, text := range []string{
		"cell x 0; thread a { spawn b; store x, 1; r = load x; } thread b { store x, 2; r = load x; assert r == 2; }",
		"array v 3; cell i 0; thread a { spawn b; spawn c; r = load i; store v[r], 1; } thread b { r = add i, 1; r = load v[r]; } thread c { r = add i, 2; r = load v[r + 1]; }",
		"mutex m; cell x 0; thread a { spawn b; spawn c; r = try m; if r { store x, 1; unlock m; } else { join b; } } thread b { lock m; r = load x; unlock m; } thread c { r = try m; while r { unlock m; r = 0; } }",
		"sem s 0; cell x 0; thread a { spawn b; r = 2; while r { wait s; r = r - 1; } spawn c; } thread b { post s; post s; join a; } thread c { post s; r = add x, 1; }",
		"cell x 0; thread a { spawn b; r = load x; if r { spawn c; } else { spawn d; join b; } } thread b { store x, 1; spawn c; } thread c { r = add x, 2; spawn d; } thread d { r = load x; }",
		"budget 4; cell x 0; thread a { spawn b; while 1 { r = add x, 1; } } thread b { while 1 { store x, 0; unlock m; } } mutex m;",
	} {
		p := read(t, text)
		var n tally
		everyRun(t, text, world.New(p), make([][]told, len(p.Threads)), &n)
		if n.events < 9 {
			t.Errorf("%s: only %d steps", text, n.events)
		}
	}
}
