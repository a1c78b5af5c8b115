package world_test

import (
	"fmt"
	"math"
	"slices"
	"strings"
	"testing"

	"braidwork/api"
	"braidwork/code"
	"braidwork/event"
	"braidwork/local"
	"braidwork/tree"
	"braidwork/world"
)

// read: a text's program, which must be well.
func read(t *testing.T, s string) code.Program {
	t.Helper()
	p, at, e := code.Read(s)
	if e != api.OK {
		t.Fatalf("%.300q: error %d at %d", s, e, at)
	}
	return p
}

// regs: the first ones, the others nought.
func regs(l ...complex128) [api.MaxRegs]complex128 {
	var out [api.MaxRegs]complex128
	copy(out[:], l)
	return out
}

// marksText: objects, with ! behind those that are written.
func marksText(e event.Event) string {
	var out []string
	for _, m := range e.Marks {
		s := fmt.Sprint(m.Object)
		if m.Write {
			s += "!"
		}
		out = append(out, s)
	}
	return strings.Join(out, " ")
}

// shared: what threads share, and how they are.
func shared(w world.World) string {
	return fmt.Sprintf("%s; %v; %v", w.Text(), w.Holders, w.Sems)
}

// all: everything in a world but its program.
func all(w world.World) string {
	return fmt.Sprintf("%v; %v", shared(w), w.Threads)
}

// on: the threads that can go on; All and Enabled must tell the same.
func on(t *testing.T, w world.World) string {
	t.Helper()
	var out strings.Builder
	for i := range 70 {
		bit := i < 64 && w.All()>>i&1 == 1
		if bit != w.Enabled(i) {
			t.Errorf("P10.1: All is %b, and Enabled of %d is %v", w.All(), i, w.Enabled(i))
		}
		if bit {
			fmt.Fprint(&out, i)
		}
	}
	return out.String()
}

// picked: behind a step that can be, and what it touches.
func picked(t *testing.T, w world.World, who int) (world.World, string) {
	t.Helper()
	out, e, ok := w.Pick(who)
	if !ok {
		t.Fatalf("P10.1: %s: %d can't go on", all(w), who)
	}
	if e.Thread != who {
		t.Errorf("P10.1: %s: the event of %d is %d's", all(w), who, e.Thread)
	}
	return out, marksText(e)
}

// checkStuck: nothing comes of a thread that can't go on.
func checkStuck(t *testing.T, w world.World, who int) {
	t.Helper()
	before := all(w)
	out, e, ok := w.Pick(who)
	if ok || w.Enabled(who) {
		t.Errorf("P10.1: %s: %d can go on", all(w), who)
	}
	if out.Program.Threads != nil || len(out.Cells)+len(out.Holders)+len(out.Sems)+len(out.Threads) > 0 || e.Thread != 0 || len(e.Marks) > 0 {
		t.Errorf("R3: %s: Pick of %d answers %s, %v beside false", before, who, all(out), e)
	}
}

// checkRun: of picks, one a line: the thread, what it touches, what is then shared, and who can go on. A ! ahead: it can't.
func checkRun(t *testing.T, text string, lines ...string) world.World {
	t.Helper()
	w := world.New(read(t, text))
	for i, want := range lines {
		var who int
		if _, err := fmt.Sscanf(strings.TrimPrefix(want, "!"), "%d", &who); err != nil {
			t.Fatal(want)
		}
		if want[0] == '!' {
			checkStuck(t, w, who)
			continue
		}
		next, marks := picked(t, w, who)
		got := fmt.Sprintf("%d: %s; %s; on %s", who, marks, shared(next), on(t, next))
		if got != want {
			t.Errorf("P10.1: %s: step %d is\n%s, not\n%s", text, i, got, want)
		}
		w = next
	}
	return w
}

func TestAtFirst(t *testing.T) {
	for _, c := range []struct{ text, want, on string }{
		{"thread t { }", "| done; []; []", ""},
		{"thread t { assert 0; }", "| failed; []; []", ""},
		{"thread t { assume 0; }", "| pruned; []; []", ""},
		{"thread t { a = 1048576 + 1; }", "| faulty; []; []", ""},
		{"thread t { while 1 { } }", "| spent; []; []", ""},
		{"cell x 0; thread t { store x, 1; }", "0 | waiting; []; []", "0"},
		{"cell x 0; array v 2; thread t { store v[2], 1; }", "0 0 0 | faulty; []; []", ""},
		{"thread t { } thread u { } thread v { }", "| done unborn unborn; []; []", ""},
		{"cell x -1-2i; array v 3; cell y 1048576; array w 1; thread t { }", "-1-2i 0 0 0 1048576 0 | done; []; []", ""},
		{"sem s 5; mutex m; sem z 0; mutex n; mutex o; sem y 1048576; thread t { }", "| done; [-1 -1 -1]; [5 0 1048576]", ""},
		{"thread t { spawn u; } sem s 7; thread u { wait s; } cell x 3i; mutex m;", "3i | waiting unborn; [-1]; [7]", "0"},
		{"mutex m; thread t { lock m; }", "| waiting; [-1]; []", "0"},
		{"sem s 0; thread t { wait s; }", "| waiting; []; [0]", ""},
		{"sem s 1; thread t { wait s; }", "| waiting; []; [1]", "0"},
		{"thread t { join u; } thread u { }", "| waiting unborn; []; []", ""},
		{"thread t { join t; }", "| waiting; []; []", ""},
	} {
		w := world.New(read(t, c.text))
		if got := shared(w); got != c.want {
			t.Errorf("P10.1: New of %s: %s, not %s", c.text, got, c.want)
		}
		if got := on(t, w); got != c.on {
			t.Errorf("P10.1: New of %s: %q can go on, not %q", c.text, got, c.on)
		}
		if c.on == "" {
			checkStuck(t, w, 0)
		}
	}
}

// TestFirstThread: it is Born with the budget; the others are nothing yet.
func TestFirstThread(t *testing.T) {
	p := read(t, "budget 9; cell x 4; thread t { a = 2; b = a + 1; store x, b; } thread u { c = 1; store x, c; }")
	w := world.New(p)
	want := []local.State{{PC: 2, Left: 7, Regs: regs(2, 3), Status: local.Live}, {}}
	if !slices.Equal(w.Threads, want) || w.Threads[0] != local.Born(p.Threads[0], 9) {
		t.Errorf("P10.1: New: %v, not %v", w.Threads, want)
	}
	w, _ = picked(t, checkRun(t, "budget 9; cell x 4; thread u { spawn t; spawn t; } thread t { a = 2; b = a + 1; store x, b; }"), 0)
	if w.Threads[1] != want[0] {
		t.Errorf("P10.1: spawn: %v, not %v", w.Threads[1], want[0])
	}
}

// decls: the objects are x 0, v 1 and 2, m 3, n 4, s 5, z 6, q 7, t 8, u 9.
const decls = "cell x 3; array v 2; mutex m; mutex n; sem s 1; sem z 0; sem q 1048576; "

// calm: mutexes and semaphores as at first.
const calm = "[-1 -1]; [1 0 1048576]"

// step is what of one is the same, whether its thread is over behind it or not.
type step struct {
	ahead  string // its statements, ahead of the step
	steps  int    // how many of these are about objects
	text   string
	marks  string
	cells  string
	others string // mutexes and semaphores
	a      complex128
	u      string // the thread u's status
}

var goodSteps = []step{
	{"", 0, "a = load x;", "0", "3 0 0", calm, 3, "unborn"},
	{"store v[1], 5i;", 1, "a = load v[1];", "2", "3 0 5i", calm, 5i, "unborn"},
	{"store v[1], 5i;", 1, "a = load v[0];", "1", "3 0 5i", calm, 0, "unborn"},
	{"", 0, "store x, a * 2i;", "0!", "14i 0 0", calm, 7, "unborn"},
	{"", 0, "store v[a - 7], -1;", "1!", "3 -1 0", calm, 7, "unborn"},
	{"", 0, "store x, 3;", "0!", "3 0 0", calm, 7, "unborn"},
	{"", 0, "a = swap x, a;", "0!", "7 0 0", calm, 3, "unborn"},
	{"", 0, "a = swap v[1], 4;", "2!", "3 0 4", calm, 0, "unborn"},
	{"", 0, "a = add x, 4 - 1i;", "0!", "7-1i 0 0", calm, 3, "unborn"},
	{"", 0, "a = add v[0], -2;", "1!", "3 -2 0", calm, 0, "unborn"},
	{"", 0, "a = add x, 0;", "0!", "3 0 0", calm, 3, "unborn"},
	{"", 0, "a = add x, 1048573;", "0!", "1048576 0 0", calm, 3, "unborn"},
	{"store x, -3i;", 1, "a = add x, -1048573i;", "0!", "-1048576i 0 0", calm, -3i, "unborn"},
	{"", 0, "a = cas x, 3, 5;", "0!", "5 0 0", calm, 1, "unborn"},
	{"", 0, "a = cas x, 5, 3;", "0!", "3 0 0", calm, 0, "unborn"},
	{"", 0, "a = cas x, 4, 5;", "0!", "3 0 0", calm, 0, "unborn"},
	{"", 0, "a = cas x, 3i, 5;", "0!", "3 0 0", calm, 0, "unborn"},
	{"", 0, "a = cas x, 3 + 1i, 5;", "0!", "3 0 0", calm, 0, "unborn"},
	{"", 0, "a = cas x, 3, 3;", "0!", "3 0 0", calm, 1, "unborn"},
	{"", 0, "a = cas v[1], 0, 1i;", "2!", "3 0 1i", calm, 1, "unborn"},
	{"", 0, "a = cas v[0], 1, 2;", "1!", "3 0 0", calm, 0, "unborn"},
	{"", 0, "lock m;", "3!", "3 0 0", "[0 -1]; [1 0 1048576]", 7, "unborn"},
	{"lock m;", 1, "unlock m;", "3!", "3 0 0", calm, 7, "unborn"},
	{"", 0, "a = try m;", "3!", "3 0 0", "[0 -1]; [1 0 1048576]", 1, "unborn"},
	{"lock m;", 1, "a = try m;", "3!", "3 0 0", "[0 -1]; [1 0 1048576]", 0, "unborn"},
	{"b = try m;", 1, "unlock m;", "3!", "3 0 0", calm, 7, "unborn"},
	{"lock m; unlock m;", 2, "a = try m;", "3!", "3 0 0", "[0 -1]; [1 0 1048576]", 1, "unborn"},
	{"", 0, "wait s;", "5!", "3 0 0", "[-1 -1]; [0 0 1048576]", 7, "unborn"},
	{"", 0, "wait q;", "7!", "3 0 0", "[-1 -1]; [1 0 1048575]", 7, "unborn"},
	{"", 0, "post z;", "6!", "3 0 0", "[-1 -1]; [1 1 1048576]", 7, "unborn"},
	{"post z;", 1, "wait z;", "6!", "3 0 0", calm, 7, "unborn"},
	{"wait q;", 1, "post q;", "7!", "3 0 0", calm, 7, "unborn"},
	{"", 0, "spawn u;", "9!", "3 0 0", calm, 7, "done"},
	{"spawn u;", 1, "join u;", "9", "3 0 0", calm, 7, "done"},
}

// program: t is at a step, behind what stands ahead of it.
func (s step) program(t *testing.T, tail string) (world.World, local.State) {
	t.Helper()
	w := world.New(read(t, decls+"thread t { a = 7; "+s.ahead+s.text+tail+" } thread u { }"))
	for range s.steps {
		w, _ = picked(t, w, 0)
	}
	return w, w.Threads[0]
}

// tails: what may come behind a step, where the thread is then, and how.
var tails = []struct {
	text   string
	pc     int
	status local.Status
}{
	{"", 1, local.Done},
	{"c = 9;", 2, local.Done},
	{"assert 1; lock n;", 2, local.Live},
	{"wait z;", 1, local.Live}, // it waits, also where it can't go on
	{"assert 0; lock n;", 2, local.Failed},
	{"assume 0; lock n;", 2, local.Pruned},
	{"c = #(1048576i); lock n;", 1, local.Faulty},
	{"store v[2], 1;", 1, local.Faulty},
	{"while 1 { }", 2, local.Spent},
}

// withOwn: with t's own status, behind all but u's.
func withOwn(marks string) string {
	if strings.HasPrefix(marks, "9") {
		return "8! " + marks
	}
	return marks + " 8!"
}

func TestStepsThatGoWell(t *testing.T) {
	words := []string{"unborn", "waiting", "done", "failed", "faulty", "spent", "pruned"}
	for _, s := range goodSteps {
		for _, tail := range tails {
			w, before := s.program(t, tail.text)
			got, marks := picked(t, w, 0)
			wantMarks := s.marks
			if tail.status != local.Live {
				wantMarks = withOwn(s.marks)
			}
			want := s.cells + " | " + words[tail.status] + " " + s.u + "; " + s.others
			if shared(got) != want || marks != wantMarks {
				t.Errorf("P10.1: %s: %s %s: %s; %s, not %s; %s", s.ahead, s.text, tail.text, marks, shared(got), wantMarks, want)
			}
			checkBehind(t, s, tail.text, before, got.Threads[0], tail.pc)
		}
	}
}

// checkBehind: the registers, and where the thread is; of its steps one was taken, and those of the tail.
func checkBehind(t *testing.T, s step, tail string, before, got local.State, pc int) {
	t.Helper()
	if got.Regs[0] != s.a {
		t.Errorf("P10.1: %s %s: the register is %v, not %v", s.ahead, s.text, got.Regs[0], s.a)
	}
	if tail == "c = 9;" && !slices.Contains(got.Regs[1:], 9) {
		t.Errorf("P10.1: %s %s: it doesn't go on: %v", s.ahead, s.text, got)
	}
	if got.Status == local.Spent {
		if got.Left != 0 {
			t.Errorf("P10.1: %s %s: %d steps are left", s.ahead, s.text, got.Left)
		}
		return
	}
	if got.PC != before.PC+pc || got.Left != before.Left-pc {
		t.Errorf("P10.1: %s %s %s: at %d, left %d, of %d, %d", s.ahead, s.text, tail, got.PC, got.Left, before.PC, before.Left)
	}
}

var wrongSteps = []step{
	{"", 0, "a = add x, 1048574;", "0! 8!", "3 0 0", calm, 7, "unborn"},
	{"b = add x, 1048576i;", 1, "a = add x, 1i;", "0! 8!", "3+1048576i 0 0", calm, 7, "unborn"},
	{"store v[1], -1048576;", 1, "a = add v[1], -1;", "2! 8!", "3 0 -1048576", calm, 7, "unborn"},
	{"store x, -1i;", 1, "a = add x, -1048576i;", "0! 8!", "-1i 0 0", calm, 7, "unborn"},
	{"", 0, "unlock m;", "3! 8!", "3 0 0", calm, 7, "unborn"},
	{"lock n;", 1, "unlock m;", "3! 8!", "3 0 0", "[-1 0]; [1 0 1048576]", 7, "unborn"},
	{"lock m; unlock m;", 2, "unlock m;", "3! 8!", "3 0 0", calm, 7, "unborn"},
	{"", 0, "post q;", "7! 8!", "3 0 0", calm, 7, "unborn"},
	{"wait q; post q;", 2, "post q;", "7! 8!", "3 0 0", calm, 7, "unborn"},
	{"", 0, "spawn t;", "8!", "3 0 0", calm, 7, "unborn"},
	{"spawn u;", 1, "spawn u;", "8! 9!", "3 0 0", calm, 7, "done"},
}

// TestStepsThatGoWrong: only the status and the steps left are other ones; mutexes stay held.
func TestStepsThatGoWrong(t *testing.T) {
	for _, s := range wrongSteps {
		for _, tail := range tails {
			w, want := s.program(t, tail.text)
			got, marks := picked(t, w, 0)
			want.Left--
			want.Status = local.Faulty
			if shared(got) != s.cells+" | faulty "+s.u+"; "+s.others || marks != s.marks || got.Threads[0] != want {
				t.Errorf("P10.1: %s: %s %s: %s; %s; %v", s.ahead, s.text, tail.text, marks, shared(got), got.Threads[0])
			}
			checkStuck(t, got, 0)
		}
	}
}

func TestMutexOfTwo(t *testing.T) {
	// m is 0, t 1, u 2.
	checkRun(t, "mutex m; thread t { spawn u; lock m; unlock m; } thread u { lock m; a = try m; unlock m; }",
		"0: 2!; | waiting waiting; [-1]; []; on 01",
		"1: 0!; | waiting waiting; [1]; []; on 1",
		"!0",
		"1: 0!; | waiting waiting; [1]; []; on 1",
		"!0",
		"1: 0! 2!; | waiting done; [-1]; []; on 0",
		"0: 0!; | waiting done; [0]; []; on 0",
		"0: 0! 1!; | done done; [-1]; []; on ")
	checkRun(t, "mutex m; thread t { spawn u; lock m; lock m; } thread u { a = try m; assert a; }",
		"0: 2!; | waiting waiting; [-1]; []; on 01",
		"0: 0!; | waiting waiting; [0]; []; on 1", // by itself it is held up, too
		"!0",
		"1: 0! 2!; | waiting failed; [0]; []; on ",
		"!0", "!1")
	checkRun(t, "mutex m; thread t { spawn u; lock m; spawn t; } thread u { unlock m; }",
		"0: 2!; | waiting waiting; [-1]; []; on 01",
		"0: 0!; | waiting waiting; [0]; []; on 01",
		"1: 0! 2!; | waiting faulty; [0]; []; on 0",
		"0: 1!; | faulty faulty; [0]; []; on ")
	// Over, and still holding.
	checkRun(t, "mutex m; thread t { spawn u; lock m; } thread u { lock m; }",
		"0: 2!; | waiting waiting; [-1]; []; on 01",
		"1: 0! 2!; | waiting done; [1]; []; on ",
		"!0", "!1")
}

func TestSemaphoreOfTwo(t *testing.T) {
	// s is 0, t 1, u 2.
	checkRun(t, "sem s 0; thread t { spawn u; wait s; wait s; } thread u { post s; post s; post s; }",
		"0: 2!; | waiting waiting; []; [0]; on 1",
		"!0",
		"1: 0!; | waiting waiting; []; [1]; on 01",
		"1: 0!; | waiting waiting; []; [2]; on 01",
		"0: 0!; | waiting waiting; []; [1]; on 01",
		"0: 0! 1!; | done waiting; []; [0]; on 1",
		"1: 0! 2!; | done done; []; [1]; on ")
	checkRun(t, "sem s 1048575; thread t { spawn u; post s; } thread u { post s; wait s; }",
		"0: 2!; | waiting waiting; []; [1048575]; on 01",
		"0: 0! 1!; | done waiting; []; [1048576]; on 1",
		"1: 0! 2!; | done faulty; []; [1048576]; on ")
}

func TestSpawnAndJoin(t *testing.T) {
	// x is 0, t 1, u 2, v 3.
	checkRun(t, "cell x 0; thread t { spawn u; join v; join u; } thread u { a = add x, 1; spawn v; } thread v { store x, 9; }",
		"!1", "!2",
		"0: 2!; 0 | waiting waiting unborn; []; []; on 1",
		"!0", "!2",
		"1: 0!; 1 | waiting waiting unborn; []; []; on 1",
		"1: 2! 3!; 1 | waiting done waiting; []; []; on 2",
		"!0",
		"2: 0! 3!; 9 | waiting done done; []; []; on 0",
		"0: 3; 9 | waiting done done; []; []; on 0",
		"0: 1! 2; 9 | done done done; []; []; on ")
	// Born, and over at once: what spawns writes its status, and nothing more.
	checkRun(t, "cell x 0; thread t { spawn u; spawn v; a = load x; } thread u { } thread v { assert 0; }",
		"0: 2!; 0 | waiting done unborn; []; []; on 0",
		"0: 3!; 0 | waiting done failed; []; []; on 0",
		"0: 0 1!; 0 | done done failed; []; []; on ")
}

// TestSpawnOfThreadsThatThereAre: Live, over, itself, and the first one.
func TestSpawnOfThreadsThatThereAre(t *testing.T) {
	checkRun(t, "cell x 0; thread t { spawn u; spawn u; } thread u { store x, 1; }",
		"0: 2!; 0 | waiting waiting; []; []; on 01",
		"0: 1! 2!; 0 | faulty waiting; []; []; on 1",
		"1: 0! 2!; 1 | faulty done; []; []; on ")
	checkRun(t, "cell x 0; thread t { spawn u; spawn u; } thread u { store x, 1; }",
		"0: 2!; 0 | waiting waiting; []; []; on 01",
		"1: 0! 2!; 1 | waiting done; []; []; on 0",
		"0: 1! 2!; 1 | faulty done; []; []; on ")
	checkRun(t, "cell x 0; thread t { spawn u; store x, 1; } thread u { spawn t; }",
		"0: 2!; 0 | waiting waiting; []; []; on 01",
		"1: 1! 2!; 0 | waiting faulty; []; []; on 0",
		"0: 0! 1!; 1 | done faulty; []; []; on ")
	checkRun(t, "thread t { spawn u; } thread u { spawn u; }",
		"0: 0! 1!; | done waiting; []; []; on 1",
		"1: 1!; | done faulty; []; []; on ")
}

// TestJoinOf: threads that are Unborn, Live, over in each way, and itself.
func TestJoinOf(t *testing.T) {
	checkRun(t, "thread t { join u; } thread u { }", "!0", "!1")
	checkRun(t, "thread t { join t; } thread u { }", "!0", "!1")
	for _, c := range []struct{ body, word string }{
		{"", "done"}, {"assert 0;", "failed"}, {"assume 0;", "pruned"}, {"while 1 { }", "spent"}, {"a = 1048576 + 1;", "faulty"}, {"store v[1], 1;", "faulty"},
	} {
		checkRun(t, "cell x 0; array v 1; thread t { spawn u; join u; } thread u { store x, 5;"+c.body+"}",
			"0: 3!; 0 0 | waiting waiting; []; []; on 1",
			"!0",
			"1: 0! 3!; 5 0 | waiting "+c.word+"; []; []; on 0",
			"0: 2! 3; 5 0 | done "+c.word+"; []; []; on ")
	}
}

// TestThreadsThatWaitForOneAnother: then nobody can go on.
func TestThreadsThatWaitForOneAnother(t *testing.T) {
	const two = "mutex m; mutex n; thread t { spawn u; lock m; lock n; } thread u { lock n; lock m; }"
	checkRun(t, two,
		"0: 3!; | waiting waiting; [-1 -1]; []; on 01",
		"0: 0!; | waiting waiting; [0 -1]; []; on 01",
		"1: 1!; | waiting waiting; [0 1]; []; on ",
		"!0", "!1")
	checkRun(t, two,
		"0: 3!; | waiting waiting; [-1 -1]; []; on 01",
		"0: 0!; | waiting waiting; [0 -1]; []; on 01",
		"0: 1! 2!; | done waiting; [0 0]; []; on ",
		"!0", "!1")
	checkRun(t, "thread t { spawn u; join u; } thread u { join t; }",
		"0: 1!; | waiting waiting; []; []; on ",
		"!0", "!1")
	checkRun(t, "sem s 0; sem z 0; thread t { spawn u; wait s; post z; } thread u { wait z; post s; }",
		"0: 3!; | waiting waiting; []; [0 0]; on ",
		"!0", "!1")
}

func TestTwoReadOneCell(t *testing.T) {
	checkRun(t, "cell x 6; thread t { spawn u; a = load x; store x, a + 1; } thread u { a = load x; store x, a + 1; }",
		"0: 2!; 6 | waiting waiting; []; []; on 01",
		"0: 0; 6 | waiting waiting; []; []; on 01",
		"1: 0; 6 | waiting waiting; []; []; on 01",
		"1: 0! 2!; 7 | waiting done; []; []; on 0",
		"0: 0! 1!; 7 | done done; []; []; on ")
}

// TestBudget: each thread has its own steps, and steps that aren't about objects are some, too.
func TestBudget(t *testing.T) {
	checkRun(t, "budget 3; cell x 0; thread t { spawn u; while 1 { a = add x, 1; } } thread u { while 1 { a = add x, 10; } }",
		"0: 2!; 0 | waiting waiting; []; []; on 01",
		"1: 0! 2!; 10 | waiting spent; []; []; on 0",
		"0: 0! 1!; 11 | spent spent; []; []; on ")
	checkRun(t, "budget 1; cell x 0; thread t { store x, 1; store x, 2; }", "0: 0! 1!; 1 | spent; []; []; on ")
	checkRun(t, "budget 1; cell x 0; thread t { store x, 1; }", "0: 0! 1!; 1 | done; []; []; on ")
	checkRun(t, "budget 1; mutex m; thread t { unlock m; }", "0: 0! 1!; | faulty; [-1]; []; on ")
}

// TestAsManyThreadsAsMayBe: and their bits.
func TestAsManyThreadsAsMayBe(t *testing.T) {
	text := "cell x 0; thread t { spawn a; spawn b; spawn c; spawn d; spawn e; store x, 1; }"
	for _, name := range []string{"a", "b", "c", "d", "e"} {
		text += " thread " + name + " { r = load x; join t; }"
	}
	w := checkRun(t, text,
		"0: 2!; 0 | waiting waiting unborn unborn unborn unborn; []; []; on 01",
		"0: 3!; 0 | waiting waiting waiting unborn unborn unborn; []; []; on 012",
		"0: 4!; 0 | waiting waiting waiting waiting unborn unborn; []; []; on 0123",
		"0: 5!; 0 | waiting waiting waiting waiting waiting unborn; []; []; on 01234",
		"0: 6!; 0 | waiting waiting waiting waiting waiting waiting; []; []; on 012345",
		"5: 0; 0 | waiting waiting waiting waiting waiting waiting; []; []; on 01234",
		"3: 0; 0 | waiting waiting waiting waiting waiting waiting; []; []; on 0124",
		"!5", "!3",
		"0: 0! 1!; 1 | done waiting waiting waiting waiting waiting; []; []; on 12345",
		"5: 1 6!; 1 | done waiting waiting waiting waiting done; []; []; on 1234",
		"4: 0; 1 | done waiting waiting waiting waiting done; []; []; on 1234")
	if w.All() != 0b011110 || w.Threads[4].Regs[0] != 1 || w.Threads[3].Regs[0] != 0 {
		t.Errorf("P10.1: All is %b, registers %v %v", w.All(), w.Threads[4].Regs, w.Threads[3].Regs)
	}
}

// noThreads: numbers that none of two threads has.
var noThreads = []int{-1, -2, 2, 3, 6, 63, 64, 65, 1 << 32, math.MaxInt, math.MinInt}

func TestThreadsThatThereAreNot(t *testing.T) {
	w := world.New(read(t, "cell x 0; thread t { spawn u; store x, 1; } thread u { store x, 2; }"))
	for _, who := range []int{0, 1, 0} {
		for _, n := range noThreads {
			checkStuck(t, w, n)
			if op, ok := w.Next(n); ok || op != (local.Op{}) {
				t.Errorf("P10.1: Next of %d: %v %v", n, op, ok)
			}
		}
		w, _ = picked(t, w, who)
	}
}

// TestNext: what waits is told whether it can go on or not; of others nothing is.
func TestNext(t *testing.T) {
	check := func(text string, picks int, who int, want local.Op) {
		t.Helper()
		w := world.New(read(t, text))
		for range picks {
			w, _ = picked(t, w, 0)
		}
		op, ok := w.Next(who)
		if op != want || ok != (want != local.Op{}) {
			t.Errorf("P10.1: %s: Next of %d behind %d: %v %v, not %v", text, who, picks, op, ok, want)
		}
		other, okToo := local.Next(w.Program.Threads[who], w.Threads[who])
		if op != other || ok != okToo {
			t.Errorf("P10.1: %s: Next of %d is %v, and local's %v", text, who, op, other)
		}
	}
	const locks = "array v 3; mutex m; thread t { lock m; a = cas v[1], 2, 3i; lock m; } thread u { spawn t; }"
	check(locks, 0, 0, local.Op{Kind: tree.Lock, Object: 3, Reg: -1})
	check(locks, 1, 0, local.Op{Kind: tree.Cas, Object: 1, Args: [2]complex128{2, 3i}})
	check(locks, 2, 0, local.Op{Kind: tree.Lock, Object: 3, Reg: -1}) // which it holds
	check(locks, 0, 1, local.Op{})
	const sems = "sem s 0; thread t { spawn u; wait s; } thread u { join t; }"
	check(sems, 0, 1, local.Op{})
	check(sems, 1, 0, local.Op{Kind: tree.Wait, Object: 0, Reg: -1})
	check(sems, 1, 1, local.Op{Kind: tree.Join, Object: 1, Reg: -1})
	check("cell x 0; thread t { store x, 1; }", 1, 0, local.Op{})
}

func TestMark(t *testing.T) {
	for k := tree.Load; k <= tree.Join; k++ {
		for _, object := range []int{0, 1, 7, 59} {
			want := event.Mark{Object: object, Write: k != tree.Load && k != tree.Join}
			op := local.Op{Kind: k, Object: object, Args: [2]complex128{3, 4}, Reg: 2}
			if got := world.Mark(op); got != want {
				t.Errorf("P10.1: Mark of %v: %v", op, got)
			}
		}
	}
}

// filled: a world of one program, with these lists.
func filled(cells []complex128, holders, sems []int, threads ...local.State) world.World {
	return world.World{Cells: cells, Holders: holders, Sems: sems, Threads: threads}
}

func TestSame(t *testing.T) {
	live := local.State{PC: 1, Left: 2, Regs: regs(3, 4i), Status: local.Live}
	base := filled([]complex128{1, 2i}, []int{-1, 0}, []int{5, 6}, live, local.State{})
	threads := func(change func(s *local.State)) world.World {
		s := live
		change(&s)
		return filled(base.Cells, base.Holders, base.Sems, s, local.State{})
	}
	others := []world.World{
		{},
		filled([]complex128{1, 3i}, base.Holders, base.Sems, base.Threads...),
		filled([]complex128{1, 2}, base.Holders, base.Sems, base.Threads...),
		filled([]complex128{1}, base.Holders, base.Sems, base.Threads...),
		filled([]complex128{1, 2i, 0}, base.Holders, base.Sems, base.Threads...),
		filled(base.Cells, []int{-1, 1}, base.Sems, base.Threads...),
		filled(base.Cells, []int{0, -1}, base.Sems, base.Threads...),
		filled(base.Cells, nil, base.Sems, base.Threads...),
		filled(base.Cells, base.Holders, []int{5, 7}, base.Threads...),
		filled(base.Cells, base.Holders, []int{6, 5}, base.Threads...),
		filled(base.Cells, base.Holders, []int{5}, base.Threads...),
		filled(base.Cells, base.Holders, base.Sems, live),
		filled(base.Cells, base.Holders, base.Sems, local.State{}, live),
		threads(func(s *local.State) { s.PC++ }),
		threads(func(s *local.State) { s.Left-- }),
		threads(func(s *local.State) { s.Regs[7] = 1 }),
		threads(func(s *local.State) { s.Regs[1] = 4 }),
		threads(func(s *local.State) { s.Status = local.Done }),
	}
	same := filled(slices.Clone(base.Cells), slices.Clone(base.Holders), slices.Clone(base.Sems), slices.Clone(base.Threads)...)
	same.Program = read(t, "thread t { }") // which isn't held against the other one's
	if !world.Same(base, same) || !world.Same(same, base) || !world.Same(base, base) {
		t.Error("P10.1: Same of two that are the same")
	}
	for _, x := range others {
		if world.Same(base, x) || world.Same(x, base) {
			t.Errorf("P10.1: Same of %s and %s", all(base), all(x))
		}
	}
	if !world.Same(world.World{}, filled([]complex128{}, []int{}, []int{})) {
		t.Error("R4: an empty list isn't none")
	}
}

func TestText(t *testing.T) {
	var threads []local.State
	for s := local.Unborn; s < local.Statuses; s++ {
		threads = append(threads, local.State{Status: s, PC: 3, Left: 4, Regs: regs(5)})
	}
	for _, c := range []struct {
		w    world.World
		want string
	}{
		{world.World{}, "|"},
		{filled(nil, nil, nil, threads[2]), "| done"},
		{filled([]complex128{0}, []int{-1}, []int{7}), "0 |"},
		{filled([]complex128{-1 - 1i, 0, 3 + 4i, -2i, 1048576}, []int{0, -1}, []int{7}, threads...), "-1-1i 0 3+4i -2i 1048576 | unborn waiting done failed faulty spent pruned"},
		{filled([]complex128{5}, nil, nil, threads[6], threads[6], threads[0]), "5 | pruned pruned unborn"},
	} {
		if got := c.w.Text(); got != c.want {
			t.Errorf("P10.1: Text: %q, not %q", got, c.want)
		}
	}
}

// TestExamples: the chapter's, and the document's through the whole.
func TestExamples(t *testing.T) {
	if s := world.New(read(t, "thread t { }")).Text(); s != "| done" {
		t.Errorf("P10.1: Text: %q", s)
	}
	const two = "cell x 0; thread a { spawn b; store x, 1; } thread b { store x, 2; }"
	checkRun(t, two,
		"0: 2!; 0 | waiting waiting; []; []; on 01",
		"0: 0! 1!; 1 | done waiting; []; []; on 1",
		"1: 0! 2!; 2 | done done; []; []; on ")
	checkRun(t, two,
		"0: 2!; 0 | waiting waiting; []; []; on 01",
		"1: 0! 2!; 2 | waiting done; []; []; on 0",
		"0: 0! 1!; 1 | done done; []; []; on ")
}
