package code_test

import (
	"fmt"
	"math"
	"reflect"
	"slices"
	"strings"
	"testing"

	"braidwork/api"
	"braidwork/code"
	"braidwork/names"
	"braidwork/parse"
	"braidwork/tree"
)

// read: a text's program, which must be well.
func read(t *testing.T, s string) code.Program {
	t.Helper()
	p, at, e := code.Read(s)
	if e != api.OK || at != 0 {
		t.Fatalf("P7.1: %.300q: error %d at %d", s, e, at)
	}
	return p
}

func parsed(t *testing.T, s string) tree.Program {
	t.Helper()
	p, at, e := parse.Parse(s)
	if e != api.OK {
		t.Fatalf("%.300q isn't parsed: error %d at %d", s, e, at)
	}
	return p
}

func checked(t *testing.T, s string) (tree.Program, names.Table) {
	t.Helper()
	p := parsed(t, s)
	tab, at, e := names.Check(p)
	if e != api.OK {
		t.Fatalf("%.300q isn't well: error %d at %d", s, e, at)
	}
	return p, tab
}

// many: n pieces, each with its number in it.
func many(n int, form string) string {
	var out strings.Builder
	for i := range n {
		fmt.Fprintf(&out, form, i)
	}
	return out.String()
}

func instrText(x code.Instr) string {
	var exprs []string
	for _, e := range x.Exprs {
		exprs = append(exprs, e.Text())
	}
	return fmt.Sprintf("kind %d reg %d base %d len %d indexed %v exprs %q to %d", x.Kind, x.Reg, x.Base, x.Len, x.Indexed, exprs, x.To)
}

// programText: all that a program holds; empty lists as nil ones, as these mean the same.
func programText(p code.Program) string {
	var out strings.Builder
	fmt.Fprintf(&out, "cells %v mutexes %d sems %v budget %d", p.Cells, p.Mutexes, p.Sems, p.Budget)
	for _, x := range p.Threads {
		fmt.Fprintf(&out, "\nthread %q", x.Regs)
		for _, i := range x.Code {
			out.WriteString("\n" + instrText(i))
		}
	}
	return out.String()
}

func isZero(p code.Program) bool {
	return len(p.Threads) == 0 && len(p.Cells) == 0 && p.Mutexes == 0 && len(p.Sems) == 0 && p.Budget == 0
}

func checkWrong(t *testing.T, s string, at int, e api.Errno) {
	t.Helper()
	p, gotAt, gotE := code.Read(s)
	if gotAt != at || gotE != e {
		t.Errorf("P7.1: %.300q: error %d at %d, not %d at %d", s, gotE, gotAt, e, at)
	}
	if !isZero(p) {
		t.Errorf("R3: %.300q: a program beside an error: %s", s, programText(p))
	}
}

// checkMarked: the place of the error is marked by a $ ahead of it.
func checkMarked(t *testing.T, s string, e api.Errno) {
	t.Helper()
	at := strings.Index(s, "$")
	if at < 0 || strings.Count(s, "$") != 1 {
		t.Fatalf("no mark: %q", s)
	}
	checkWrong(t, strings.Replace(s, "$", "", 1), at, e)
}

// expr: an expression of a text.
func expr(t *testing.T, s string) tree.Expr {
	t.Helper()
	return parsed(t, "thread t { assert "+s+"; }").Decls[0].Body[0].Exprs[0]
}

func exprs(t *testing.T, l ...string) []tree.Expr {
	t.Helper()
	var out []tree.Expr
	for _, s := range l {
		out = append(out, expr(t, s))
	}
	return out
}

func TestEachKind(t *testing.T) {
	// Objects: x 0, v 1 to 3, y 4, m 5, n 6, s 7, w 8, t 9, u 10.
	const decls = "cell x 0; sem s 1; array v 3; mutex m; cell y 1; mutex n; sem w 2; "
	for _, c := range []struct {
		text string
		want code.Instr
	}{
		{"a = b + 1;", code.Instr{Kind: tree.Set, Reg: 0, Exprs: exprs(t, "b + 1")}},
		{"b = 2i;", code.Instr{Kind: tree.Set, Reg: 1, Exprs: exprs(t, "2i")}},
		{"c = a;", code.Instr{Kind: tree.Set, Reg: 2, Exprs: exprs(t, "a")}},
		{"a = load x;", code.Instr{Kind: tree.Load, Reg: 0, Base: 0, Len: 1}},
		{"b = load y;", code.Instr{Kind: tree.Load, Reg: 1, Base: 4, Len: 1}},
		{"c = load v[a + 1];", code.Instr{Kind: tree.Load, Reg: 2, Base: 1, Len: 3, Indexed: true, Exprs: exprs(t, "a + 1")}},
		{"store x, a * 2;", code.Instr{Kind: tree.Store, Reg: -1, Base: 0, Len: 1, Exprs: exprs(t, "a * 2")}},
		{"store v[a], b;", code.Instr{Kind: tree.Store, Reg: -1, Base: 1, Len: 3, Indexed: true, Exprs: exprs(t, "a", "b")}},
		{"b = add y, 3;", code.Instr{Kind: tree.Add, Reg: 1, Base: 4, Len: 1, Exprs: exprs(t, "3")}},
		{"b = add v[0], 3;", code.Instr{Kind: tree.Add, Reg: 1, Base: 1, Len: 3, Indexed: true, Exprs: exprs(t, "0", "3")}},
		{"a = swap y, ~b;", code.Instr{Kind: tree.Swap, Reg: 0, Base: 4, Len: 1, Exprs: exprs(t, "~b")}},
		{"a = swap v[2], -b;", code.Instr{Kind: tree.Swap, Reg: 0, Base: 1, Len: 3, Indexed: true, Exprs: exprs(t, "2", "-b")}},
		{"c = cas x, a, 7;", code.Instr{Kind: tree.Cas, Reg: 2, Base: 0, Len: 1, Exprs: exprs(t, "a", "7")}},
		{"c = cas v[b], a, 7i;", code.Instr{Kind: tree.Cas, Reg: 2, Base: 1, Len: 3, Indexed: true, Exprs: exprs(t, "b", "a", "7i")}},
		{"lock m;", code.Instr{Kind: tree.Lock, Reg: -1, Base: 5, Len: 1}},
		{"lock n;", code.Instr{Kind: tree.Lock, Reg: -1, Base: 6, Len: 1}},
		{"unlock n;", code.Instr{Kind: tree.Unlock, Reg: -1, Base: 6, Len: 1}},
		{"b = try m;", code.Instr{Kind: tree.Try, Reg: 1, Base: 5, Len: 1}},
		{"wait s;", code.Instr{Kind: tree.Wait, Reg: -1, Base: 7, Len: 1}},
		{"post w;", code.Instr{Kind: tree.Post, Reg: -1, Base: 8, Len: 1}},
		{"spawn u;", code.Instr{Kind: tree.Spawn, Reg: -1, Base: 10, Len: 1}},
		{"join t;", code.Instr{Kind: tree.Join, Reg: -1, Base: 9, Len: 1}},
		{"assert a < b;", code.Instr{Kind: tree.Assert, Reg: -1, Exprs: exprs(t, "a < b")}},
		{"assume !c;", code.Instr{Kind: tree.Assume, Reg: -1, Exprs: exprs(t, "!c")}},
		{"if a == 1 { }", code.Instr{Kind: tree.If, Reg: -1, Exprs: exprs(t, "a == 1"), To: 4}},
	} {
		p := read(t, decls+"thread t { a = 1; b = 2; c = 3; "+c.text+" } thread u { }")
		if len(p.Threads) != 2 || len(p.Threads[0].Code) != 4 || len(p.Threads[1].Code) != 0 {
			t.Errorf("P7.1: %s: %s", c.text, programText(p))
			continue
		}
		if got := p.Threads[0].Code[3]; instrText(got) != instrText(c.want) {
			t.Errorf("P7.1: %s: %s, not %s", c.text, instrText(got), instrText(c.want))
		}
		if !slices.Equal(p.Threads[0].Regs, []string{"a", "b", "c"}) || len(p.Threads[1].Regs) != 0 {
			t.Errorf("P7.1: %s: registers %q and %q", c.text, p.Threads[0].Regs, p.Threads[1].Regs)
		}
	}
}

// jumps: each instruction's word; of those that jump where to.
func jumps(l []code.Instr) string {
	var out []string
	for _, x := range l {
		word := x.Kind.Word()
		if x.Kind == tree.Set {
			word = "set"
		}
		if x.Kind == tree.If || x.Kind == tree.While {
			word += fmt.Sprint(">", x.To)
		} else if x.To != 0 {
			word += fmt.Sprint("?", x.To)
		}
		out = append(out, word)
	}
	return strings.Join(out, " ")
}

// moved: jumps, all of them that many instructions further on.
func moved(l string, by int) string {
	words := strings.Fields(l)
	for i, w := range words {
		word, to, ok := strings.Cut(w, ">")
		n := 0
		if ok {
			fmt.Sscan(to, &n)
			words[i] = fmt.Sprint(word, ">", n+by)
		}
	}
	return strings.Join(words, " ")
}

func checkJumps(t *testing.T, body, want string) {
	t.Helper()
	for ahead := range 3 {
		for behind := range 3 {
			s := "thread t { " + strings.Repeat("q = 1; ", ahead) + body + strings.Repeat(" q = 2;", behind) + " }"
			l := strings.Join(strings.Fields(strings.Repeat("set ", ahead)+moved(want, ahead)+strings.Repeat(" set", behind)), " ")
			if got := jumps(read(t, s).Threads[0].Code); got != l {
				t.Errorf("P7.1: %s: %s, not %s", s, got, l)
			}
		}
	}
}

func TestExample(t *testing.T) {
	p := read(t, "thread t { if a { b = 1; } else { b = 2; } }")
	want := []code.Instr{
		{Kind: tree.If, Reg: -1, Exprs: exprs(t, "a"), To: 3},
		{Kind: tree.Set, Reg: 1, Exprs: exprs(t, "1")},
		{Kind: tree.While, Reg: -1, To: 4},
		{Kind: tree.Set, Reg: 1, Exprs: exprs(t, "2")},
	}
	if !slices.EqualFunc(p.Threads[0].Code, want, func(a, b code.Instr) bool { return instrText(a) == instrText(b) }) {
		t.Errorf("P7.1: %s", programText(p))
	}
}

func TestJumps(t *testing.T) {
	for _, c := range []struct{ body, want string }{
		{"", ""},
		{"if a { }", "if>1"}, {"if a { } else { }", "if>1"},
		{"if a { b = 1; }", "if>2 set"}, {"if a { b = 1; } else { }", "if>2 set"},
		{"if a { b = 1; b = 2; }", "if>3 set set"},
		{"if a { } else { b = 1; }", "if>2 while>3 set"},
		{"if a { b = 1; } else { b = 2; }", "if>3 set while>4 set"},
		{"if a { b = 1; c = 2; } else { b = 2; c = 3; d = 4; }", "if>4 set set while>7 set set set"},
		{"while a { }", "if>2 while>0"}, {"while a { b = 1; }", "if>3 set while>0"}, {"while a { b = 1; c = 2; }", "if>4 set set while>0"},
		// One behind the other.
		{"if a { } if b { }", "if>1 if>2"}, {"while a { } while b { }", "if>2 while>0 if>4 while>2"},
		{"if a { } else { b = 1; } while b { } if c { }", "if>2 while>3 set if>5 while>3 if>6"},
		{"while a { b = 1; } if a { } else { c = 1; }", "if>3 set while>0 if>5 while>6 set"},
		// One in the other, first, in the middle, last.
		{"if a { if b { } }", "if>2 if>2"}, {"if a { if b { } c = 1; }", "if>3 if>2 set"}, {"if a { c = 1; if b { } }", "if>3 set if>3"},
		{"while a { while b { } }", "if>4 if>3 while>1 while>0"}, {"while a { while b { } c = 1; }", "if>5 if>3 while>1 set while>0"}, {"while a { c = 1; while b { } }", "if>5 set if>4 while>2 while>0"},
		{"while a { if b { } }", "if>3 if>2 while>0"}, {"while a { if b { } else { c = 1; } }", "if>5 if>3 while>4 set while>0"},
		{"if a { while b { } }", "if>3 if>3 while>1"}, {"if a { while b { c = 1; } d = 1; }", "if>5 if>4 set while>1 set"},
		{"if a { while b { } } else { while c { } }", "if>4 if>3 while>1 while>6 if>6 while>4"},
		{"if a { } else { while b { c = 1; } }", "if>2 while>5 if>5 set while>2"},
		{"if a { if b { } else { c = 1; } }", "if>4 if>3 while>4 set"},
		{"if a { if b { } else { c = 1; } } else { if d { } }", "if>5 if>3 while>4 set while>6 if>6"},
		{"if a { } else { if b { } else { if c { } else { d = 1; } } }", "if>2 while>7 if>4 while>7 if>6 while>7 set"},
		{"if a { if b { if c { } else { d = 1; } } else { d = 2; } } else { d = 3; }", "if>8 if>6 if>4 while>5 set while>7 set while>9 set"},
		{"while a { if b { while c { } } else { while d { } } }", "if>8 if>5 if>4 while>2 while>7 if>7 while>5 while>0"},
	} {
		checkJumps(t, c.body, c.want)
	}
}

// TestDeepBlocks: as many in one another as may be.
func TestDeepBlocks(t *testing.T) {
	const n = api.MaxDeep - 1
	var loops, tests, elses []string
	for i := range n {
		loops = append(loops, fmt.Sprint("if>", 2*n-i))
		tests = append(tests, fmt.Sprint("if>", n+1))
		elses = append(elses, fmt.Sprint("if>", 2*i+2), fmt.Sprint("while>", 2*n+1))
	}
	for i := range n {
		loops = append(loops, fmt.Sprint("while>", n-1-i))
	}
	checkJumps(t, strings.Repeat("while a { ", n)+strings.Repeat("}", n), strings.Join(loops, " "))
	checkJumps(t, strings.Repeat("if a { ", n)+"b = 1;"+strings.Repeat("}", n), strings.Join(append(tests, "set"), " "))
	checkJumps(t, strings.Repeat("if a { } else { ", n)+"b = 1;"+strings.Repeat("}", n), strings.Join(append(elses, "set"), " "))
}

// TestWhatJumpsHold: those that jump set nothing, and are about nothing.
func TestWhatJumpsHold(t *testing.T) {
	p := read(t, "cell x 0; thread t { z = 1; while z < 3 { if #z { store x, z; } else { z = load x; } } }")
	want := []code.Instr{
		{Kind: tree.Set, Exprs: exprs(t, "1")},
		{Kind: tree.If, Reg: -1, Exprs: exprs(t, "z < 3"), To: 7},
		{Kind: tree.If, Reg: -1, Exprs: exprs(t, "#z"), To: 5},
		{Kind: tree.Store, Reg: -1, Len: 1, Exprs: exprs(t, "z")},
		{Kind: tree.While, Reg: -1, To: 6},
		{Kind: tree.Load, Len: 1},
		{Kind: tree.While, Reg: -1, To: 1},
	}
	if !slices.EqualFunc(p.Threads[0].Code, want, func(a, b code.Instr) bool { return instrText(a) == instrText(b) }) {
		t.Errorf("P7.1: %s", programText(p))
	}
}

func TestVisible(t *testing.T) {
	visible := map[tree.Kind]bool{tree.Load: true, tree.Store: true, tree.Add: true, tree.Swap: true, tree.Cas: true, tree.Lock: true, tree.Unlock: true, tree.Try: true, tree.Wait: true, tree.Post: true, tree.Spawn: true, tree.Join: true}
	for _, k := range []tree.Kind{tree.Set, tree.Load, tree.Store, tree.Add, tree.Swap, tree.Cas, tree.Lock, tree.Unlock, tree.Try, tree.Wait, tree.Post, tree.Spawn, tree.Join, tree.Assert, tree.Assume, tree.If, tree.While, tree.Kinds, -1, math.MaxInt, math.MinInt} {
		for _, x := range []code.Instr{{Kind: k}, {Kind: k, Reg: -1, Base: 3, Len: 2, Indexed: true, To: 7}} {
			if x.Visible() != visible[k] {
				t.Errorf("P7.1: Visible of kind %d: %v", k, x.Visible())
			}
		}
	}
}

func TestWhatThreadsShare(t *testing.T) {
	for _, c := range []struct {
		s      string
		want   code.Program
		status []int
	}{
		{"thread t { }", code.Program{Budget: 100}, []int{0}},
		{"cell x 0; thread t { }", code.Program{Cells: []complex128{0}, Budget: 100}, []int{1}},
		{"thread t { } cell x -3+4i;", code.Program{Cells: []complex128{-3 + 4i}, Budget: 100}, []int{1}},
		{"cell x 1048576-1048576i; cell y -1048576i; thread t { }", code.Program{Cells: []complex128{1048576 - 1048576i, -1048576i}, Budget: 100}, []int{2}},
		{"array v 1; thread t { }", code.Program{Cells: []complex128{0}, Budget: 100}, []int{1}},
		{"array v 8; thread t { }", code.Program{Cells: make([]complex128, 8), Budget: 100}, []int{8}},
		{"cell x 1; array v 2; cell y 2; array w 1; cell z 3; thread t { }", code.Program{Cells: []complex128{1, 0, 0, 2, 0, 3}, Budget: 100}, []int{6}},
		{"array w 2; thread t { } cell y 5i; thread u { } array v 1; cell x 7;", code.Program{Cells: []complex128{0, 0, 5i, 0, 7}, Budget: 100}, []int{5, 6}},
		{"mutex m; thread t { }", code.Program{Mutexes: 1, Budget: 100}, []int{1}},
		{"mutex m; thread t { } mutex n; mutex o; thread u { } thread v { }", code.Program{Mutexes: 3, Budget: 100}, []int{3, 4, 5}},
		{"sem s 0; thread t { }", code.Program{Sems: []int{0}, Budget: 100}, []int{1}},
		{"sem s 3; thread t { } sem w 1048576; sem v 0; sem u 1;", code.Program{Sems: []int{3, 1048576, 0, 1}, Budget: 100}, []int{4}},
		{"budget 1; thread t { }", code.Program{Budget: 1}, []int{0}},
		{"thread t { } budget 99;", code.Program{Budget: 99}, []int{0}},
		{"thread t { } sem s 9; budget 100; mutex m; thread u { } cell x 8; mutex n; array v 2; sem w 7; thread a { }", code.Program{Cells: []complex128{8, 0, 0}, Mutexes: 2, Sems: []int{9, 7}, Budget: 100}, []int{7, 8, 9}},
		{many(7, "array a%d 8;") + "thread t { } cell x 1; thread u { } sem s 2;", code.Program{Cells: append(make([]complex128, 56), 1), Sems: []int{2}, Budget: 100}, []int{58, 59}},
	} {
		p := read(t, c.s)
		c.want.Threads = make([]code.Thread, len(c.status))
		if programText(p) != programText(c.want) {
			t.Errorf("P7.1: %s: %s, not %s", c.s, programText(p), programText(c.want))
		}
		_, tab := checked(t, c.s)
		if p.Objects() != c.status[0]+len(c.status) || p.Objects() != tab.Objects {
			t.Errorf("P7.1: %s: Objects %d", c.s, p.Objects())
		}
		for i, want := range c.status {
			if got := p.Status(i); got != want || got != tab.Things[tab.Threads[i]].Base {
				t.Errorf("P7.1: %s: Status of %d: %d, not %d", c.s, i, got, want)
			}
		}
	}
}

func TestEachThreadItsOwn(t *testing.T) {
	p := read(t, "cell x 0; thread a { p = 1; q = load x; } thread b { } thread c { q = 2; r = q; p = 3; } thread d { store x, 1; }")
	want := code.Program{Cells: []complex128{0}, Budget: 100, Threads: []code.Thread{
		{Regs: []string{"p", "q"}, Code: []code.Instr{{Kind: tree.Set, Exprs: exprs(t, "1")}, {Kind: tree.Load, Reg: 1, Len: 1}}},
		{},
		{Regs: []string{"q", "r", "p"}, Code: []code.Instr{{Kind: tree.Set, Exprs: exprs(t, "2")}, {Kind: tree.Set, Reg: 1, Exprs: exprs(t, "q")}, {Kind: tree.Set, Reg: 2, Exprs: exprs(t, "3")}}},
		{Code: []code.Instr{{Kind: tree.Store, Reg: -1, Len: 1, Exprs: exprs(t, "1")}}},
	}}
	if programText(p) != programText(want) {
		t.Errorf("P7.1: %s, not %s", programText(p), programText(want))
	}
	p = read(t, "thread t {"+many(8, "r%d = 1;")+"}")
	for i, x := range p.Threads[0].Code {
		if x.Reg != i {
			t.Errorf("P7.1: register %d of r%d", x.Reg, i)
		}
	}
}

// bodies: texts of bodies that have that many instructions, from 4 on.
func bodies(n int) []string {
	return []string{
		strings.Repeat("r=1;", n),
		strings.Repeat("if r {}", n),
		strings.Repeat("if r { r=1; ", 3) + "}}}" + strings.Repeat("r=1;", n-6),
		"if r {" + strings.Repeat("r=1;", n-1) + "}",
		"if r {" + strings.Repeat("r=1;", n-3) + "} else { r=2; }",
		"if r { r=1; } else {" + strings.Repeat("r=2;", n-3) + "}",
		"if r { } else {" + strings.Repeat("r=2;", n-2) + "}",
		"while r {" + strings.Repeat("r=2;", n-2) + "}",
		strings.Repeat("r=2;", n-2) + "while r {}",
		strings.Repeat("while r {}", n/2) + strings.Repeat("r=2;", n%2),
		strings.Repeat("while r { if r {} else { r=1; } }", n/5) + strings.Repeat("r=2;", n%5),
	}
}

func TestAsManyInstructionsAsMayBe(t *testing.T) {
	for _, n := range []int{api.MaxCode - 1, api.MaxCode} {
		for _, body := range bodies(n) {
			for _, form := range []string{"thread t {%s}", "thread a { } thread t {%s} thread b { }"} {
				p := read(t, fmt.Sprintf(form, body))
				if l := p.Threads[len(p.Threads)/2].Code; len(l) != n {
					t.Errorf("P7.1: %.60q..: %d instructions, not %d", body, len(l), n)
				}
			}
		}
	}
	full := "{" + strings.Repeat("r=1;", api.MaxCode) + "}"
	p := read(t, many(api.MaxThreads, "thread t%d "+full))
	for _, x := range p.Threads {
		if len(x.Code) != api.MaxCode {
			t.Errorf("P7.1: %d instructions", len(x.Code))
		}
	}
}

func TestThreadsTooLong(t *testing.T) {
	for _, n := range []int{api.MaxCode + 1, api.MaxCode + 2, 2 * api.MaxCode} {
		for _, body := range bodies(n) {
			for _, form := range []string{"thread t {%s}", "cell x 0; thread t {%s}", "thread a { } thread t {%s}", "thread t {%s} thread a { } budget 3;", many(5, "thread a%d { r=1; }") + "thread t {%s}"} {
				s := fmt.Sprintf(form, body)
				checkWrong(t, s, 0, api.ErrSize)
				if p, e := code.Make(checked(t, s)); e != api.ErrSize || !isZero(p) {
					t.Errorf("P7.1: %.60q..: Make: error %d, %s", s, e, programText(p))
				}
			}
		}
	}
	full := "{" + strings.Repeat("r=1;", api.MaxCode) + "}"
	checkWrong(t, many(5, "thread t%d "+full)+"thread t {"+full+"}", 5*(len("thread t0 ")+len(full))+len("thread t {"), api.ErrForm)
	checkWrong(t, many(5, "thread t%d "+full)+"thread t { if r "+full+"}", 0, api.ErrSize)
	long := (api.MaxText - 20) / len("r=1;")
	checkWrong(t, "thread t {"+strings.Repeat("r=1;", long)+"}", 0, api.ErrSize)
	long = (api.MaxText - 20) / len("while r{}")
	checkWrong(t, "thread t {"+strings.Repeat("while r{}", long)+"}", 0, api.ErrSize)
}

func TestTextsThatAreNoPrograms(t *testing.T) {
	for _, c := range []struct {
		s string
		e api.Errno
	}{
		// Split's.
		{"thread t { } $?", api.ErrForm}, {"cell x $07; thread t { }", api.ErrRange}, {"thread t { r = $1048577; }", api.ErrRange}, {"thread t { $1a", api.ErrForm},
		// Parse's.
		{"$x", api.ErrWord}, {"thread t { } $lock m;", api.ErrWord}, {"cell x $;", api.ErrForm}, {"thread t { r = 1 $}", api.ErrForm}, {"thread t { $", api.ErrForm}, {"thread t { load $x; }", api.ErrKind}, {"thread t { r = lock $m; }", api.ErrKind},
		{"thread t { r = $" + strings.Repeat("-", api.MaxDeep) + "1; }", api.ErrDeep}, {"thread t {" + strings.Repeat("if 1 {", api.MaxDeep-1) + "if 1 ${", api.ErrDeep},
		// Check's.
		{"$", api.ErrNone}, {"cell x 0; thread t { $r = load y; }", api.ErrNone}, {"cell x 0; $mutex x; thread t { }", api.ErrTwice}, {"$array v 9; thread t { }", api.ErrRange}, {many(6, "thread t%d { }") + "$thread t { }", api.ErrSize}, {"thread t { $lock m; }", api.ErrNone}, {"mutex m; thread t { if 1 { $wait m; } }", api.ErrKind}, {"thread t { $t = 1; }", api.ErrKind}, {"thread t { " + many(8, "r%d = 1;") + "$r8 = 1; }", api.ErrSize},
		// Which comes first: Split's, then Parse's, then Check's, then Make's.
		{"x $?", api.ErrForm}, {"thread t { lock m; } $x", api.ErrWord}, {"thread t { lock m; } $07", api.ErrRange}, {"cell x 0; cell x 0; thread t { } $}", api.ErrWord}, {"thread t {" + strings.Repeat("r=1;", 201) + "$lock m; }", api.ErrNone}, {"thread t {" + strings.Repeat("r=1;", 201) + "} $cell t 0;", api.ErrTwice}, {"thread t {" + strings.Repeat("r=1;", 201) + "} cell $;", api.ErrForm},
	} {
		checkMarked(t, c.s, c.e)
	}
	checkWrong(t, strings.Repeat(" ", api.MaxText+1), 0, api.ErrSize)
	checkWrong(t, "cell x 0;", 0, api.ErrNone)
	checkWrong(t, "thread t { }"+strings.Repeat(" ", api.MaxText), 0, api.ErrSize)
	read(t, "thread t { }"+strings.Repeat(" ", api.MaxText-len("thread t { }")))
}

// TestTreesThatCheckRefuses: beside its error Check answers an empty table. What Make tells of such a pair isn't said, but it panics of none.
func TestTreesThatCheckRefuses(t *testing.T) {
	for _, s := range []string{"", "cell x 0;", "array v 1048576; thread t { r = 1; }", "sem s -1048576; thread t { wait s; }", "array v -1i; thread t { r = load v[0]; }", "thread t { lock m; a = 1; } thread t { b = a; }", many(9, "thread t%d { spawn t0; r = load t1[r]; }"), "budget 0; budget 1; thread t { if a { t = 1; } else { t = 2; } while t { } }"} {
		p := parsed(t, s)
		tab, _, e := names.Check(p)
		if e == api.OK {
			t.Fatalf("%q is well", s)
		}
		code.Make(p, tab)
	}
	if p, e := code.Make(tree.Program{}, names.Table{}); e != api.OK || !isZero(p) || p.Objects() != 0 {
		t.Errorf("P7.1: of nothing: %s, error %d", programText(p), e)
	}
	for _, at := range []int{0, 1, -1, 6, math.MaxInt, math.MinInt} {
		code.Program{}.Status(at)
		read(t, everything).Status(at)
	}
}

const everything = `cell x -1+2i; array v 3; mutex m; sem s 1; budget 20;
thread t {
	a = 1; b = load x; b = load v[a]; store x, b; store v[a + 1], -b; c = add x, 2i; c = swap v[0], c; d = cas x, a, b; d = cas v[2], 1, d;
	lock m; e = try m; unlock m; wait s; post s; spawn u; join u; assert a == b; assume (a < ~b) * #c;
	if a { f = 1; while f { f = f - 1; } } else { g = !f; lock m; }
}
thread u { z = y; if z { w = z; } }
`

// TestPlacesAreAnyNumbers: Make doesn't hang on them.
func TestPlacesAreAnyNumbers(t *testing.T) {
	want := programText(read(t, everything))
	for _, place := range []int{0, -1, 7, math.MaxInt, math.MinInt} {
		p, tab := checked(t, everything)
		setPlaces(reflect.ValueOf(&p).Elem(), place)
		if got, e := code.Make(p, tab); e != api.OK || programText(got) != want {
			t.Errorf("R7: At %d: %s, error %d", place, programText(got), e)
		}
	}
}

func setPlaces(v reflect.Value, place int) {
	switch v.Kind() {
	case reflect.Struct:
		for i := range v.NumField() {
			if v.Type().Field(i).Name == "At" {
				v.Field(i).SetInt(int64(place))
			}
			setPlaces(v.Field(i), place)
		}
	case reflect.Slice:
		for i := range v.Len() {
			setPlaces(v.Index(i), place)
		}
	}
}

// withRoom: a copy in which lists are as long as their room.
func withRoom(v reflect.Value) reflect.Value {
	out := reflect.New(v.Type()).Elem()
	switch v.Kind() {
	case reflect.Struct:
		for i := range v.NumField() {
			out.Field(i).Set(withRoom(v.Field(i)))
		}
	case reflect.Slice:
		if v.IsNil() {
			return out
		}
		v = v.Slice(0, v.Cap())
		out.Set(reflect.MakeSlice(v.Type(), v.Len(), v.Len()))
		for i := range v.Len() {
			out.Index(i).Set(withRoom(v.Index(i)))
		}
	case reflect.Map:
		out.Set(reflect.MakeMap(v.Type()))
		for _, k := range v.MapKeys() {
			out.SetMapIndex(k, v.MapIndex(k))
		}
	default:
		out.Set(v)
	}
	return out
}

// whole: all that there is in something, its lists' spare room included.
func whole(x any) string {
	return fmt.Sprintf("%#v", withRoom(reflect.ValueOf(x)).Interface())
}

// giveRoom: each list gets spare room in which something stands.
func giveRoom(v reflect.Value) {
	switch v.Kind() {
	case reflect.Struct:
		for i := range v.NumField() {
			giveRoom(v.Field(i))
		}
	case reflect.Slice:
		for i := range v.Len() {
			giveRoom(v.Index(i))
		}
		l := reflect.MakeSlice(v.Type(), v.Len()+3, v.Len()+3)
		reflect.Copy(l, v)
		for i := v.Len(); i < l.Len(); i++ {
			fill(l.Index(i))
		}
		v.Set(l.Slice(0, v.Len()))
	}
}

func fill(v reflect.Value) {
	switch v.Kind() {
	case reflect.Struct:
		fill(v.FieldByName("Name"))
	case reflect.String:
		v.SetString("spare")
	case reflect.Complex128:
		v.SetComplex(77)
	}
}

func TestWhatIsHandedInIsNotChanged(t *testing.T) {
	for _, s := range []string{everything, "thread t { }", "cell x 0; array v 2; thread t { if a { } else { b = 1; } }", "thread t {" + strings.Repeat("r=1;", 201) + "}"} {
		p, tab := checked(t, s)
		want, wantE := code.Make(p, tab)
		giveRoom(reflect.ValueOf(&p).Elem())
		giveRoom(reflect.ValueOf(&tab).Elem())
		tree, table := whole(p), whole(tab)
		for range 2 {
			got, e := code.Make(p, tab)
			if e != wantE || programText(got) != programText(want) {
				t.Errorf("R5: %.100q: spare room is looked at", s)
			}
			got.Objects()
			got.Status(0)
			if whole(p) != tree || whole(tab) != table {
				t.Fatalf("R5: %.100q: the tree or the table was changed", s)
			}
		}
	}
}

// spans: where the memory of each list in something is, its spare room included.
func spans(v reflect.Value) [][2]uintptr {
	var out [][2]uintptr
	switch v.Kind() {
	case reflect.Struct:
		for i := range v.NumField() {
			out = append(out, spans(v.Field(i))...)
		}
	case reflect.Slice:
		if v.Cap() > 0 {
			out = append(out, [2]uintptr{v.Pointer(), v.Pointer() + uintptr(v.Cap())*v.Type().Elem().Size()})
		}
		for i := range v.Len() {
			out = append(out, spans(v.Index(i))...)
		}
	}
	return out
}

// TestListsOfTheirOwn: no list of a program shares memory with another one, nor with one of the tree, the table, or another answer.
func TestListsOfTheirOwn(t *testing.T) {
	p, tab := checked(t, everything)
	a, _ := code.Make(p, tab)
	b, _ := code.Make(p, tab)
	c := read(t, everything)
	var all [][2]uintptr
	for _, x := range []any{p, tab, a, b, c} {
		all = append(all, spans(reflect.ValueOf(x))...)
	}
	slices.SortFunc(all, func(x, y [2]uintptr) int { return int(x[0]) - int(y[0]) })
	for i := 1; i < len(all); i++ {
		if all[i][0] < all[i-1][1] {
			t.Fatal("R5: lists share memory")
		}
	}
	if len(all) < 120 {
		t.Errorf("only %d lists", len(all))
	}
	want := programText(a)
	clear(p.Decls[5].Body[0].Exprs)
	clear(p.Decls)
	clear(tab.Regs[0])
	clear(tab.Things)
	clear(b.Threads[0].Code[0].Exprs)
	clear(b.Threads[0].Code)
	clear(b.Cells)
	if programText(a) != want || programText(c) != want {
		t.Error("R5: what was handed in is kept, or answers share memory")
	}
}

func TestAlikeEachTime(t *testing.T) {
	want := programText(read(t, everything))
	for _, s := range []string{"", "x", "thread t { lock m; }", "cell x 0; cell x 0;", "thread t {" + strings.Repeat("r=1;", 201) + "}", "cell y 7; thread q { if a { } else { b = 1; } }"} {
		first, at, e := code.Read(s)
		if got := programText(read(t, everything)); got != want {
			t.Errorf("R6: another answer behind %.40q", s)
		}
		again, againAt, againE := code.Read(s)
		if programText(first) != programText(again) || at != againAt || e != againE {
			t.Errorf("R6: another answer of %.40q", s)
		}
	}
}

func TestEmptyLists(t *testing.T) {
	yes := []tree.Expr{{Num: 1}}
	a := tree.Program{Decls: []tree.Decl{{Sort: tree.Thread, Name: "t", Body: []tree.Stmt{{Kind: tree.If, Exprs: yes}, {Kind: tree.Lock, Name: "m"}}}, {Sort: tree.Thread, Name: "u"}, {Sort: tree.Mutex, Name: "m"}}}
	b := tree.Program{Decls: []tree.Decl{{Sort: tree.Thread, Name: "t", Body: []tree.Stmt{{Kind: tree.If, Exprs: []tree.Expr{{Num: 1, Parts: []tree.Expr{}}}, Body: []tree.Stmt{}, Else: []tree.Stmt{}}, {Kind: tree.Lock, Name: "m", Exprs: []tree.Expr{}}}}, {Sort: tree.Thread, Name: "u", Body: []tree.Stmt{}}, {Sort: tree.Mutex, Name: "m"}}}
	tab, _, _ := names.Check(a)
	x, e := code.Make(a, tab)
	if e != api.OK || jumps(x.Threads[0].Code) != "if>1 lock" {
		t.Errorf("P7.1: %s", programText(x))
	}
	for i := range tab.Regs {
		tab.Regs[i] = make([]string, 0, 4)
	}
	if y, e := code.Make(b, tab); e != api.OK || programText(x) != programText(y) {
		t.Errorf("R4: %s, not %s", programText(y), programText(x))
	}
}
