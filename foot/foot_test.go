package foot_test

import (
	"fmt"
	"math"
	"slices"
	"strings"
	"testing"

	"braidwork/api"
	"braidwork/code"
	"braidwork/event"
	"braidwork/foot"
	"braidwork/tree"
)

// read: a program of a text that is well.
func read(t *testing.T, text string) code.Program {
	t.Helper()
	p, at, err := code.Read(text)
	if err != api.OK {
		t.Fatalf("%s: error %d at %d", text, err, at)
	}
	return p
}

// numbers as a text: "0 2 3".
func numbers(l []int) string {
	return strings.Trim(fmt.Sprint(l), "[]")
}

// marked: marks as a text: "0 2!" reads the object 0, and writes 2.
func marked(l []event.Mark) string {
	var out []string
	for _, m := range l {
		s := fmt.Sprint(m.Object)
		if m.Write {
			s += "!"
		}
		out = append(out, s)
	}
	return strings.Join(out, " ")
}

func checkReach(t *testing.T, what string, thread code.Thread, pc int, want string) {
	t.Helper()
	if got := numbers(foot.Reach(thread, pc)); got != want {
		t.Errorf("P14.1: %s: Reach from %d is %s, not %s", what, pc, got, want)
	}
}

func checkOf(t *testing.T, what string, p code.Program, n, pc int, want string) {
	t.Helper()
	if got := marked(foot.Of(p, n, pc)); got != want {
		t.Errorf("P14.1: %s: Of thread %d from %d is %s, not %s", what, n, pc, got, want)
	}
}

func checkSpawns(t *testing.T, what string, p code.Program, n, pc int, want uint64) {
	t.Helper()
	if got := foot.Spawns(p, n, pc); got != want {
		t.Errorf("P14.1: %s: Spawns of thread %d from %d are %b, not %b", what, n, pc, got, want)
	}
}

// beside: places and threads that are none of a list of so many.
func beside(count int) []int {
	return []int{math.MinInt, math.MinInt + 1, -65, -64, -2, -1, count, count + 1, count + 63, count + 64, math.MaxInt - 1, math.MaxInt}
}

// decls: the objects are x 0, v 1 and 2, m 3, n 4, s 5, z 6, t 7, u 8, w 9.
const decls = "cell x 3; array v 2; mutex m; mutex n; sem s 1; sem z 0; "

// three: t, of such statements, and two others.
func three(body string) string {
	return decls + "thread t { " + body + " } thread u { store x, 1; spawn w; } thread w { }"
}

func TestExamples(t *testing.T) {
	checkOf(t, "an empty thread", read(t, "thread t { }"), 0, 0, "0!")
	p := read(t, "cell x 0; array v 2; thread a { if r { store v[0], 1; } r = load x; spawn b; } thread b { }")
	checkOf(t, "the first one", p, 0, 0, "0 1! 2! 3! 4!")
	checkOf(t, "the first one", p, 0, 2, "0 3! 4!")
	checkSpawns(t, "the first one", p, 0, 2, 2)
	checkReach(t, "the first one", p.Threads[0], 1, "1 2 3")
}

// reaches: a thread's statements, and from each of its instructions on which ones may come.
var reaches = []struct {
	text string
	want []string
}{
	{"", nil},
	{"a = 1;", []string{"0"}},
	{"a = 1; b = load x; assert 1; assume 1;", []string{"0 1 2 3", "1 2 3", "2 3", "3"}},
	// If to 3, Set, Set, Set.
	{"if a { b = 1; c = 2; } d = 3;", []string{"0 1 2 3", "1 2 3", "2 3", "3"}},
	// If to 3, Set, While to 4, Set, Set.
	{"if a { b = 1; } else { c = 2; } d = 3;", []string{"0 1 2 3 4", "1 2 4", "2 4", "3 4", "4"}},
	// The While of the If stands ahead of the Else's, and jumps to the instructions' end.
	{"if a { b = 1; } else { c = 2; }", []string{"0 1 2 3", "1 2", "2", "3"}},
	{"a = 1; if a { b = 1; b = 2; } else { c = 2; c = 3; }", []string{"0 1 2 3 4 5 6", "1 2 3 4 5 6", "2 3 4", "3 4", "4", "5 6", "6"}},
	{"if a { }", []string{"0"}},
	{"if a { } b = 1;", []string{"0 1", "1"}},
	{"if a { } else { b = 1; }", []string{"0 1 2", "1", "2"}},
	{"if a { } else { b = 1; } c = 1;", []string{"0 1 2 3", "1 3", "2 3", "3"}},
	// A loop, and what is ahead of it, and behind: If to 5, Set, Set, While to 1.
	{"a = 1; while b { c = 1; d = 2; } e = 3;", []string{"0 1 2 3 4 5", "1 2 3 4 5", "1 2 3 4 5", "1 2 3 4 5", "1 2 3 4 5", "5"}},
	// Its While is the last one.
	{"while a { }", []string{"0 1", "0 1"}},
	{"b = 1; while a { }", []string{"0 1 2", "1 2", "1 2"}},
	{"while a { b = 1; b = 2; }", []string{"0 1 2 3", "0 1 2 3", "0 1 2 3", "0 1 2 3"}},
	{"while a { } b = 1;", []string{"0 1 2", "0 1 2", "2"}},
	// Two loops: from the second one there is no way into the first one.
	{"while a { b = 1; } while c { d = 1; }", []string{"0 1 2 3 4 5", "0 1 2 3 4 5", "0 1 2 3 4 5", "3 4 5", "3 4 5", "3 4 5"}},
	// An If in a loop: from the one body the way leads to the other one by the loop's If.
	{"while a { if b { c = 1; } else { d = 1; } }", []string{"0 1 2 3 4 5", "0 1 2 3 4 5", "0 1 2 3 4 5", "0 1 2 3 4 5", "0 1 2 3 4 5", "0 1 2 3 4 5"}},
	// A loop in an If: there is none.
	{"if a { while b { c = 1; } } else { d = 1; } e = 1;", []string{"0 1 2 3 4 5 6", "1 2 3 4 6", "1 2 3 4 6", "1 2 3 4 6", "4 6", "5 6", "6"}},
	{"if a { d = 1; } else { while b { c = 1; } } e = 1;", []string{"0 1 2 3 4 5 6", "1 2 6", "2 6", "3 4 5 6", "3 4 5 6", "3 4 5 6", "6"}},
	// A loop in a loop.
	{"while a { while b { c = 1; } d = 1; } e = 1;", []string{"0 1 2 3 4 5 6", "0 1 2 3 4 5 6", "0 1 2 3 4 5 6", "0 1 2 3 4 5 6", "0 1 2 3 4 5 6", "0 1 2 3 4 5 6", "6"}},
	// Ifs in Ifs.
	{"if a { if b { c = 1; } else { c = 2; } } else { if b { c = 3; } }", []string{"0 1 2 3 4 5 6 7", "1 2 3 4 5", "2 3 5", "3 5", "4 5", "5", "6 7", "7"}},
	// What expressions come to isn't looked at, nor that a thread is over behind a step.
	{"if 0 { a = 1; }", []string{"0 1", "1"}},
	{"if 1 { a = 1; } else { a = 2; }", []string{"0 1 2 3", "1 2", "2", "3"}},
	{"while 1 { } a = 1;", []string{"0 1 2", "0 1 2", "2"}},
	{"assert 0; assume 0; spawn t; a = load v[9]; b = 1;", []string{"0 1 2 3 4", "1 2 3 4", "2 3 4", "3 4", "4"}},
}

func TestReach(t *testing.T) {
	for _, c := range reaches {
		thread := read(t, three(c.text)).Threads[0]
		if len(thread.Code) != len(c.want) {
			t.Errorf("%s: %d instructions, not %d", c.text, len(thread.Code), len(c.want))
			continue
		}
		for pc, want := range c.want {
			checkReach(t, c.text, thread, pc, want)
		}
		for _, pc := range beside(len(thread.Code)) {
			checkReach(t, c.text, thread, pc, "")
		}
	}
}

// thread of instructions: "i4" is an If that jumps to 4, "w0" a While that jumps to 0, "-" another one.
func thread(text string) code.Thread {
	var out code.Thread
	for _, word := range strings.Fields(text) {
		x := code.Instr{Kind: tree.Set, Reg: 0, To: 1}
		switch word[0] {
		case 'i':
			x.Kind = tree.If
		case 'w':
			x.Kind = tree.While
		}
		fmt.Sscan(word[1:], &x.To)
		out.Code = append(out.Code, x)
	}
	return out
}

// TestJumps: as no text has them, too; what is beside the instructions is none.
func TestJumps(t *testing.T) {
	for _, c := range []struct {
		text string
		pc   int
		want string
	}{
		{"w0", 0, "0"},
		{"i0", 0, "0"},
		{"w2 - -", 0, "0 2"},
		{"w2 - -", 1, "1 2"},
		{"w2 - w0 -", 0, "0 2"},
		{"w2 - w1 -", 0, "0 1 2"},
		{"- w3 w4 - -", 0, "0 1 3 4"},
		{"- w3 w4 - -", 2, "2 4"},
		{"i3 - w5 - - -", 0, "0 1 2 3 4 5"},
		{"i3 - w5 - - -", 1, "1 2 5"},
		{"w3 - - w1", 0, "0 1 2 3"},
		{"w1", 0, "0"},
		{"i1", 0, "0"},
		{"i9 -", 0, "0 1"},
		{"w9 -", 0, "0"},
		{"i-1 -", 0, "0 1"},
		{"w-1 -", 0, "0"},
		{"w-9223372036854775808 -", 0, "0"},
		{"i9223372036854775807 -", 0, "0 1"},
		{"- i0 w0 -", 3, "3"},
		{"- i0 w0 -", 2, "0 1 2"},
		{"i2 w0 w1", 0, "0 1 2"},
		// The same one is come to by many ways.
		{"i2 i3 i4 i5 i6 -", 0, "0 1 2 3 4 5"},
		{"i2 i3 i4 i5 i6 -", 3, "3 4 5"},
		{"i4 i4 i4 i4 -", 1, "1 2 3 4"},
	} {
		checkReach(t, c.text, thread(c.text), c.pc, c.want)
	}
	// What stands in the spare room isn't there.
	l := thread("- - -")
	l.Code = l.Code[:2]
	checkReach(t, "two of three", l, 0, "0 1")
	checkReach(t, "two of three", l, 2, "")
}

// TestKinds: behind each kind but If and While comes the next one.
func TestKinds(t *testing.T) {
	for kind := tree.Kind(-1); kind <= tree.Kinds; kind++ {
		l := code.Thread{Code: []code.Instr{{Kind: kind, To: 2}, {}, {}, {}}}
		want := "0 1 2 3"
		if kind == tree.While {
			want = "0 2 3"
		}
		checkReach(t, fmt.Sprint("the kind ", int(kind)), l, 0, want)
	}
}

// TestKindsAboutObjects: only these touch one; of others Base and Len aren't looked at.
func TestKindsAboutObjects(t *testing.T) {
	for kind := tree.Kind(-1); kind <= tree.Kinds; kind++ {
		p := code.Program{Threads: []code.Thread{{Code: []code.Instr{{Kind: kind, Base: 1, Len: 1, To: 1}}}, {}}, Cells: []complex128{0, 0}}
		want := "2!"
		switch {
		case kind == tree.Load || kind == tree.Join:
			want = "1 2!"
		case kind.Named():
			want = "1! 2!"
		}
		checkOf(t, fmt.Sprint("the kind ", int(kind)), p, 0, 0, want)
		p.Threads[0].Code[0].Base = 3
		checkSpawns(t, fmt.Sprint("the kind ", int(kind)), p, 0, 0, map[tree.Kind]uint64{tree.Spawn: 2}[kind])
	}
}

// feet: t's statements, and what it may touch, and lets begin, from each of its instructions on.
var feet = []struct {
	text   string
	want   []string
	spawns []uint64
}{
	{"", nil, nil},
	{"a = load x;", []string{"0 7!"}, []uint64{0}},
	{"store x, 1;", []string{"0! 7!"}, []uint64{0}},
	{"a = add x, 1;", []string{"0! 7!"}, []uint64{0}},
	{"a = swap x, 1;", []string{"0! 7!"}, []uint64{0}},
	{"a = cas x, 1, 2;", []string{"0! 7!"}, []uint64{0}},
	// All elements, also where the index is known, or is none.
	{"a = load v[0];", []string{"1 2 7!"}, []uint64{0}},
	{"a = load v[b];", []string{"1 2 7!"}, []uint64{0}},
	{"store v[1], a;", []string{"1! 2! 7!"}, []uint64{0}},
	{"a = add v[5], 1;", []string{"1! 2! 7!"}, []uint64{0}},
	{"a = swap v[1i], 1;", []string{"1! 2! 7!"}, []uint64{0}},
	{"a = cas v[a], 1, 2;", []string{"1! 2! 7!"}, []uint64{0}},
	{"lock m;", []string{"3! 7!"}, []uint64{0}},
	{"unlock n;", []string{"4! 7!"}, []uint64{0}},
	{"a = try m;", []string{"3! 7!"}, []uint64{0}},
	{"wait s;", []string{"5! 7!"}, []uint64{0}},
	{"post z;", []string{"6! 7!"}, []uint64{0}},
	{"join u;", []string{"7! 8"}, []uint64{0}},
	{"join w;", []string{"7! 9"}, []uint64{0}},
	{"join t;", []string{"7!"}, []uint64{0}},
	{"spawn u;", []string{"7! 8!"}, []uint64{2}},
	{"spawn w;", []string{"7! 9!"}, []uint64{4}},
	{"spawn t;", []string{"7!"}, []uint64{1}},
	// Its own status alone.
	{"a = 1; assert a; assume a;", []string{"7!", "7!", "7!"}, []uint64{0, 0, 0}},
	{"if a { b = 1; } else { while b { } }", []string{"7!", "7!", "7!", "7!", "7!"}, []uint64{0, 0, 0, 0, 0}},
	// Read and written, in both orders.
	{"a = load x; store x, a;", []string{"0! 7!", "0! 7!"}, []uint64{0, 0}},
	{"store x, a; a = load x;", []string{"0! 7!", "0 7!"}, []uint64{0, 0}},
	{"a = load v[0]; store v[1], a; a = load v[1];", []string{"1! 2! 7!", "1! 2! 7!", "1 2 7!"}, []uint64{0, 0, 0}},
	{"a = load x; a = load x;", []string{"0 7!", "0 7!"}, []uint64{0, 0}},
	{"join u; spawn u; join u;", []string{"7! 8!", "7! 8!", "7! 8"}, []uint64{2, 2, 0}},
	// Rising, whatever comes first.
	{"spawn w; post z; wait s; lock n; unlock m; store v[0], 1; store x, 1;", []string{"0! 1! 2! 3! 4! 5! 6! 7! 9!", "0! 1! 2! 3! 4! 5! 6! 7!", "0! 1! 2! 3! 4! 5! 7!", "0! 1! 2! 3! 4! 7!", "0! 1! 2! 3! 7!", "0! 1! 2! 7!", "0! 7!"}, []uint64{4, 0, 0, 0, 0, 0, 0}},
	// Several spawns.
	{"spawn t; spawn u; spawn w; join w;", []string{"7! 8! 9!", "7! 8! 9!", "7! 9!", "7! 9"}, []uint64{7, 6, 4, 0}},
	{"spawn u; spawn u;", []string{"7! 8!", "7! 8!"}, []uint64{2, 2}},
	{"if a { spawn u; } else { spawn w; } join u;", []string{"7! 8! 9!", "7! 8!", "7! 8", "7! 8 9!", "7! 8"}, []uint64{6, 2, 0, 4, 0}},
	{"while a { spawn u; } spawn w;", []string{"7! 8! 9!", "7! 8! 9!", "7! 8! 9!", "7! 9!"}, []uint64{6, 6, 6, 4}},
	// From within an If's body on, the Else's isn't told; from within a loop's, all of it is.
	{"if a { store x, 1; } else { lock m; } wait s;", []string{"0! 3! 5! 7!", "0! 5! 7!", "5! 7!", "3! 5! 7!", "5! 7!"}, []uint64{0, 0, 0, 0, 0}},
	{"lock n; while a { store x, 1; b = load v[0]; } wait s;", []string{"0! 1 2 4! 5! 7!", "0! 1 2 5! 7!", "0! 1 2 5! 7!", "0! 1 2 5! 7!", "0! 1 2 5! 7!", "5! 7!"}, []uint64{0, 0, 0, 0, 0, 0}},
	// What never comes is told, too.
	{"if 0 { store x, 1; } assert 0; while 1 { } lock m;", []string{"0! 3! 7!", "0! 3! 7!", "3! 7!", "3! 7!", "3! 7!", "3! 7!"}, []uint64{0, 0, 0, 0, 0, 0}},
}

func TestFeet(t *testing.T) {
	for _, c := range feet {
		p := read(t, three(c.text))
		if len(p.Threads[0].Code) != len(c.want) || len(c.want) != len(c.spawns) {
			t.Errorf("%s: %d instructions, not %d", c.text, len(p.Threads[0].Code), len(c.want))
			continue
		}
		for pc := range c.want {
			checkOf(t, c.text, p, 0, pc, c.want[pc])
			checkSpawns(t, c.text, p, 0, pc, c.spawns[pc])
		}
		checkOthers(t, c.text, p)
	}
}

// checkOthers: u and w, whatever t does; and what is beside instructions and threads.
func checkOthers(t *testing.T, what string, p code.Program) {
	t.Helper()
	checkOf(t, what, p, 1, 0, "0! 8! 9!")
	checkOf(t, what, p, 1, 1, "8! 9!")
	checkSpawns(t, what, p, 1, 0, 4)
	checkSpawns(t, what, p, 1, 1, 4)
	checkOf(t, what, p, 2, 0, "9!")
	for n := range p.Threads {
		for _, pc := range beside(len(p.Threads[n].Code)) {
			checkOf(t, what, p, n, pc, fmt.Sprintf("%d!", 7+n))
			checkSpawns(t, what, p, n, pc, 0)
		}
	}
	for _, n := range beside(len(p.Threads)) {
		for _, pc := range append(beside(0), 0, 1) {
			checkOf(t, what, p, n, pc, "")
			checkSpawns(t, what, p, n, pc, 0)
		}
	}
}

// TestOwnStatus: also where others are about it, or it about theirs.
func TestOwnStatus(t *testing.T) {
	p := read(t, "thread t { join u; join w; } thread u { spawn t; spawn w; spawn u; } thread w { join t; join w; join u; }")
	checkOf(t, "joins", p, 0, 0, "0! 1 2")
	checkOf(t, "joins", p, 0, 1, "0! 2")
	checkOf(t, "spawns", p, 1, 0, "0! 1! 2!")
	checkOf(t, "spawns", p, 1, 2, "1!")
	checkOf(t, "joins", p, 2, 0, "0 1 2!")
	checkOf(t, "joins", p, 2, 3, "2!")
	checkSpawns(t, "spawns", p, 1, 0, 7)
	checkSpawns(t, "spawns", p, 1, 1, 6)
	checkSpawns(t, "spawns", p, 1, 2, 2)
}

// TestMostThreads: each lets the next one begin, the last one the first one.
func TestMostThreads(t *testing.T) {
	text := "sem s 0; "
	for i := range api.MaxThreads {
		text += fmt.Sprintf("thread t%d { wait s; spawn t%d; } ", i, (i+1)%api.MaxThreads)
	}
	p := read(t, text)
	for i := range api.MaxThreads {
		next := (i + 1) % api.MaxThreads
		checkOf(t, text, p, i, 0, fmt.Sprintf("0! %d! %d!", 1+min(i, next), 1+max(i, next)))
		checkSpawns(t, text, p, i, 0, 1<<next)
		checkSpawns(t, text, p, i, 2, 0)
	}
}

// TestMostObjects: of 60, in threads of 200 instructions.
func TestMostObjects(t *testing.T) {
	text, body := "", ""
	for i := range 6 {
		text += fmt.Sprintf("array v%d 8; ", i)
	}
	for i := range 11 {
		text += fmt.Sprintf("cell x%d 0; ", i)
	}
	for i := range 199 {
		if i%2 == 0 {
			body += fmt.Sprintf("a = load v%d[a]; ", i/2%6)
		} else {
			body += fmt.Sprintf("store x%d, a; ", i/2%11)
		}
	}
	p := read(t, text+"thread t { "+body+"a = 1; }")
	if len(p.Threads[0].Code) != api.MaxCode || p.Objects() != api.MaxObjects {
		t.Fatalf("%d instructions, %d objects", len(p.Threads[0].Code), p.Objects())
	}
	want := ""
	for i := range 48 {
		want += fmt.Sprint(i, " ")
	}
	for i := 48; i < 60; i++ {
		want += fmt.Sprint(i, "! ")
	}
	checkOf(t, "the greatest", p, 0, 0, strings.TrimSpace(want))
	checkOf(t, "the greatest", p, 0, 198, "24 25 26 27 28 29 30 31 59!")
	checkOf(t, "the greatest", p, 0, 199, "59!")
	if got := foot.Reach(p.Threads[0], 0); len(got) != 200 || got[199] != 199 || !slices.IsSorted(got) {
		t.Errorf("P14.1: Reach of the greatest is %v", got)
	}
}

// TestLongThreads: they end, how long they ever are.
func TestLongThreads(t *testing.T) {
	const many = 300000
	l := code.Thread{Code: make([]code.Instr, many)}
	for i := range l.Code {
		l.Code[i].Kind, l.Code[i].To = tree.If, (i*7919+13)%many
	}
	if got := foot.Reach(l, 0); len(got) != many {
		t.Errorf("P14.1: Reach of %d tells %d", many, len(got))
	}
	if got := foot.Reach(l, many-1); len(got) == 0 || !slices.IsSorted(got) {
		t.Errorf("P14.1: Reach from the last one tells %d", len(got))
	}
	p := code.Program{Threads: []code.Thread{l}}
	checkOf(t, "a long one", p, 0, 0, "0!")
	checkSpawns(t, "a long one", p, 0, 0, 0)
}

func TestNoThreads(t *testing.T) {
	for _, p := range []code.Program{{}, {Threads: []code.Thread{}, Cells: []complex128{1, 2}, Mutexes: 3, Sems: []int{4}}} {
		for _, n := range append(beside(0), 1) {
			for _, pc := range append(beside(0), 1) {
				checkOf(t, "no threads", p, n, pc, "")
				checkSpawns(t, "no threads", p, n, pc, 0)
			}
		}
	}
	for _, pc := range append(beside(0), 1) {
		checkReach(t, "no instructions", code.Thread{}, pc, "")
		checkReach(t, "no instructions", code.Thread{Code: []code.Instr{}}, pc, "")
	}
}
