package local_test

import (
	"fmt"
	"math"
	"reflect"
	"strings"
	"testing"

	"braidwork/api"
	"braidwork/code"
	"braidwork/local"
	"braidwork/tree"
)

// decls: the objects are x 0, v 1 to 3, y 4, m 5, n 6, s 7, w 8, t 9, u 10.
const decls = "cell x 0; array v 3; cell y 0; mutex m; mutex n; sem s 1; sem w 2; "

// thread: the one of that body, which must be well. Its registers are a 0, b 1, c 2, if it names these in this order.
func thread(t *testing.T, body string) code.Thread {
	t.Helper()
	p, at, e := code.Read(decls + "thread t {" + body + "} thread u { }")
	if e != api.OK {
		t.Fatalf("%s: error %d at %d", body, e, at)
	}
	return p.Threads[0]
}

// regs: the first ones, the others nought.
func regs(l ...complex128) [api.MaxRegs]complex128 {
	var out [api.MaxRegs]complex128
	copy(out[:], l)
	return out
}

// stateText: all that a state holds. Not by ==, as a register may hold what isn't even the same as itself; and a nought has no sign.
func stateText(s local.State) string {
	for i, c := range s.Regs {
		s.Regs[i] = complex(real(c)+0, imag(c)+0)
	}
	return fmt.Sprintf("at %d, left %d, registers %v, status %d", s.PC, s.Left, s.Regs, s.Status)
}

func checkState(t *testing.T, what string, got, want local.State) {
	t.Helper()
	if stateText(got) != stateText(want) {
		t.Errorf("P9.1: %s: %s; not %s", what, stateText(got), stateText(want))
	}
}

func checkOp(t *testing.T, what string, x code.Thread, s local.State, want local.Op) {
	t.Helper()
	if got, ok := local.Next(x, s); !ok || got != want {
		t.Errorf("P9.1: %s: Next %v %v, not %v", what, got, ok, want)
	}
}

func checkNone(t *testing.T, what string, x code.Thread, s local.State) {
	t.Helper()
	got, ok := local.Next(x, s)
	if ok {
		t.Errorf("P9.1: %s: Next tells %v", what, got)
	}
	if !ok && got != (local.Op{}) {
		t.Errorf("R3: %s: Next tells %v beside false", what, got)
	}
}

func TestStatuses(t *testing.T) {
	want := []struct {
		status local.Status
		over   bool
	}{{local.Unborn, false}, {local.Live, false}, {local.Done, true}, {local.Failed, true}, {local.Faulty, true}, {local.Spent, true}, {local.Pruned, true}}
	for i, c := range want {
		if int(c.status) != i {
			t.Errorf("P9.1: the status %d is numbered %d", i, c.status)
		}
		if c.status.Over() != c.over {
			t.Errorf("P9.1: Over of %d: %v", i, !c.over)
		}
	}
	if int(local.Statuses) != len(want) {
		t.Errorf("P9.1: %d statuses", local.Statuses)
	}
	for _, s := range []local.Status{local.Statuses, local.Statuses + 1, 100, math.MaxInt, -1, -100, math.MinInt} {
		if s.Over() != (s > local.Live) {
			t.Errorf("P9.1: Over of %d: %v", s, s.Over())
		}
	}
}

func TestBorn(t *testing.T) {
	for _, c := range []struct {
		body   string
		budget int
		want   local.State
	}{
		// Without instructions it is Done, steps or none.
		{"", 9, local.State{Left: 9, Status: local.Done}},
		{"", 0, local.State{Status: local.Done}},
		{"", -3, local.State{Left: -3, Status: local.Done}},
		// Registers.
		{"a = 3;", 9, local.State{PC: 1, Left: 8, Regs: regs(3), Status: local.Done}},
		{"a = 3; b = a * 2i; a = b + a;", 9, local.State{PC: 3, Left: 6, Regs: regs(3+6i, 6i), Status: local.Done}},
		{"a = a + 1; b = 0; c = a;", 9, local.State{PC: 3, Left: 6, Regs: regs(1, 0, 1), Status: local.Done}},
		{"a=1; b=2; c=3; d=4; e=5; f=6; g=7; h=8;", 9, local.State{PC: 8, Left: 1, Regs: regs(1, 2, 3, 4, 5, 6, 7, 8), Status: local.Done}},
		{"a=1; b=2; c=3; d=4; e=5; f=6; g=7; h=8; a=h+g; b=f+e;", 10, local.State{PC: 10, Regs: regs(15, 11, 3, 4, 5, 6, 7, 8), Status: local.Done}},
		{"a = 1048575 + 1;", 9, local.State{PC: 1, Left: 8, Regs: regs(1048576), Status: local.Done}},
		// Branches.
		{"if 1 { a = 1; } else { a = 2; } b = 3;", 9, local.State{PC: 5, Left: 5, Regs: regs(1, 3), Status: local.Done}},
		{"if 0 { a = 1; } else { a = 2; } b = 3;", 9, local.State{PC: 5, Left: 6, Regs: regs(2, 3), Status: local.Done}},
		{"if 1 { a = 1; } b = 3;", 9, local.State{PC: 3, Left: 6, Regs: regs(1, 3), Status: local.Done}},
		{"if 0 { a = 1; } b = 3;", 9, local.State{PC: 3, Left: 7, Regs: regs(0, 3), Status: local.Done}},
		{"if -2i { a = 1; }", 9, local.State{PC: 2, Left: 7, Regs: regs(1), Status: local.Done}},
		{"if 1 - 1 { a = 1; }", 9, local.State{PC: 2, Left: 8, Status: local.Done}},
		{"if a { } else { b = 1; }", 9, local.State{PC: 3, Left: 7, Regs: regs(0, 1), Status: local.Done}},
		{"if 1 { } else { b = 1; }", 9, local.State{PC: 3, Left: 7, Status: local.Done}},
		// Loops.
		{"while a < 3 { a = a + 1; } b = a;", 20, local.State{PC: 4, Left: 9, Regs: regs(3, 3), Status: local.Done}},
		{"while a { a = a - 1; } b = 1;", 20, local.State{PC: 4, Left: 18, Regs: regs(0, 1), Status: local.Done}},
		{"while a < 2 { b = 0; while b < 2 { b = b + 1; c = c + 1; } a = a + 1; }", 50, local.State{PC: 8, Left: 23, Regs: regs(2, 2, 4), Status: local.Done}},
		{"while 1 { }", 5, local.State{PC: 1, Status: local.Spent}},
		{"while 1 { }", 100, local.State{Status: local.Spent}},
		{"while 1 { a = a + 1; }", 100000, local.State{PC: 1, Regs: regs(33333), Status: local.Spent}},
		// Assert and Assume: where there is 0, at the next instruction.
		{"assert 1; assert 2i; assert 1 == 1; a = 1;", 9, local.State{PC: 4, Left: 5, Regs: regs(1), Status: local.Done}},
		{"assume 1; assume 2i; assume 1 == 1; a = 1;", 9, local.State{PC: 4, Left: 5, Regs: regs(1), Status: local.Done}},
		{"assert 0; a = 1;", 9, local.State{PC: 1, Left: 8, Status: local.Failed}},
		{"assume 0; a = 1;", 9, local.State{PC: 1, Left: 8, Status: local.Pruned}},
		{"a = 5; assert a < 5; a = 1;", 9, local.State{PC: 2, Left: 7, Regs: regs(5), Status: local.Failed}},
		{"a = 5; assume a < 5; a = 1;", 9, local.State{PC: 2, Left: 7, Regs: regs(5), Status: local.Pruned}},
		{"assert 0;", 1, local.State{PC: 1, Status: local.Failed}},
		{"assume 0;", 1, local.State{PC: 1, Status: local.Pruned}},
		{"assert 0; assume 0;", 9, local.State{PC: 1, Left: 8, Status: local.Failed}},
		{"assume 0; assert 0;", 9, local.State{PC: 1, Left: 8, Status: local.Pruned}},
		{"assert 0; lock m;", 9, local.State{PC: 1, Left: 8, Status: local.Failed}},
		{"assume 0; a = a + 1;", 1, local.State{PC: 1, Status: local.Pruned}},
		{"while 1 { assume a < 2; a = a + 1; }", 99, local.State{PC: 2, Left: 89, Regs: regs(2), Status: local.Pruned}},
		{"if 0 { assert 0; } else { assume 1; }", 9, local.State{PC: 4, Left: 7, Status: local.Done}},
		// Up to what is Visible.
		{"a = 1; lock m; a = 2;", 9, local.State{PC: 1, Left: 8, Regs: regs(1), Status: local.Live}},
		{"lock m;", 1, local.State{Left: 1, Status: local.Live}},
		{"while 1 { if a == 3 { lock m; } a = a + 1; }", 99, local.State{PC: 2, Left: 85, Regs: regs(3), Status: local.Live}},
	} {
		x := thread(t, c.body)
		what := fmt.Sprintf("Born of %s, %d", c.body, c.budget)
		checkState(t, what, local.Born(x, c.budget), c.want)
		checkState(t, what+", run", local.Run(x, local.State{Left: c.budget, Status: local.Live}), c.want)
		if c.want.Status != local.Live {
			checkNone(t, what, x, c.want)
		}
	}
}

// TestHowManySteps: from where on it is no longer Spent, but waits, or is over.
func TestHowManySteps(t *testing.T) {
	for _, c := range []struct {
		body   string
		wants  int
		at     int
		status local.Status
	}{
		{"a = 0; a = 0; a = 0;", 3, 3, local.Done},
		{"assert 1; assume 1;", 2, 2, local.Done},
		{"assert 1; assert 0; a = 0;", 2, 2, local.Failed},
		{"assume 1; assume 0; a = 0;", 2, 2, local.Pruned},
		{"if 1 { a = 0; } else { a = 0; a = 0; }", 3, 5, local.Done},
		{"if 0 { a = 0; } else { a = 0; a = 0; }", 3, 5, local.Done},
		{"if 1 { a = 0; }", 2, 2, local.Done},
		{"if 0 { a = 0; }", 1, 2, local.Done},
		{"while 0 { a = 0; }", 1, 3, local.Done},
		{"while b < 2 { b = b + 1; } b = 0;", 8, 4, local.Done},
		{"a = 0; assert 1;", 2, 2, local.Done},
		// What goes wrong is looked at with a step left alone, like what waits.
		{"a = 0; assert 1048576 + 1;", 2, 1, local.Faulty},
		{"a = 0; store v[3], 1;", 2, 1, local.Faulty},
		{"a = 0; a = 0; lock m; a = 0;", 3, 2, local.Live},
		{"lock m;", 1, 0, local.Live},
	} {
		x := thread(t, c.body)
		for budget := -3; budget < c.wants+3; budget++ {
			got := local.Born(x, budget)
			what := fmt.Sprintf("Born of %s, %d", c.body, budget)
			if budget < c.wants {
				if got.Status != local.Spent || got.Left != min(budget, 0) || budget <= 0 && got.PC != 0 {
					t.Errorf("P9.1: %s: %s", what, stateText(got))
				}
				checkNone(t, what, x, got)
				continue
			}
			left := budget - c.wants
			if c.status == local.Live || c.status == local.Faulty {
				left++ // that step isn't taken
			}
			checkState(t, what, got, local.State{PC: c.at, Left: left, Status: c.status})
		}
	}
}

func TestEachKindWaits(t *testing.T) {
	for _, c := range []struct {
		text string
		want local.Op
	}{
		{"a = load x;", local.Op{Kind: tree.Load}},
		{"b = load y;", local.Op{Kind: tree.Load, Object: 4, Reg: 1}},
		{"c = load v[a];", local.Op{Kind: tree.Load, Object: 3, Reg: 2}},
		{"store x, a * 2;", local.Op{Kind: tree.Store, Args: [2]complex128{4}, Reg: -1}},
		{"store v[b - 2], c;", local.Op{Kind: tree.Store, Object: 2, Args: [2]complex128{-5i}, Reg: -1}},
		{"b = add y, b;", local.Op{Kind: tree.Add, Object: 4, Args: [2]complex128{3}, Reg: 1}},
		{"a = add v[0], 7;", local.Op{Kind: tree.Add, Object: 1, Args: [2]complex128{7}}},
		{"c = swap x, ~c;", local.Op{Kind: tree.Swap, Args: [2]complex128{5i}, Reg: 2}},
		{"a = swap v[1], -b;", local.Op{Kind: tree.Swap, Object: 2, Args: [2]complex128{-3}}},
		{"a = cas y, b, c;", local.Op{Kind: tree.Cas, Object: 4, Args: [2]complex128{3, -5i}}},
		{"b = cas v[2], 0, 1;", local.Op{Kind: tree.Cas, Object: 3, Args: [2]complex128{0, 1}, Reg: 1}},
		{"lock m;", local.Op{Kind: tree.Lock, Object: 5, Reg: -1}},
		{"unlock n;", local.Op{Kind: tree.Unlock, Object: 6, Reg: -1}},
		{"c = try n;", local.Op{Kind: tree.Try, Object: 6, Reg: 2}},
		{"wait s;", local.Op{Kind: tree.Wait, Object: 7, Reg: -1}},
		{"post w;", local.Op{Kind: tree.Post, Object: 8, Reg: -1}},
		{"spawn u;", local.Op{Kind: tree.Spawn, Object: 10, Reg: -1}},
		{"join t;", local.Op{Kind: tree.Join, Object: 9, Reg: -1}},
	} {
		x := thread(t, "a = 2; b = 3; c = -5i; "+c.text+" a = 9;")
		want := local.State{PC: 3, Left: 6, Regs: regs(2, 3, -5i), Status: local.Live}
		got := local.Born(x, 9)
		checkState(t, c.text, got, want)
		checkState(t, c.text+" run again", local.Run(x, got), want)
		checkOp(t, c.text, x, got, c.want)
		// From there on it goes once its step was taken.
		got.PC++
		got.Left--
		want = local.State{PC: 5, Left: 4, Regs: regs(9, 3, -5i), Status: local.Done}
		if c.want.Reg > 0 {
			want.Regs[c.want.Reg] = 8 - 1i
		}
		checkState(t, c.text+" done", local.Run(x, got.Give(c.want.Reg, 8-1i)), want)
	}
}

// TestAllRegisters: what is Visible reckons with each of them, and sets each.
func TestAllRegisters(t *testing.T) {
	for i := range api.MaxRegs {
		name := "abcdefgh"[i : i+1]
		x := thread(t, "a=1; b=2; c=3; d=4; e=5; f=6; g=7; h=8; "+name+" = swap x, "+name+";")
		s := local.Born(x, 20)
		checkOp(t, name, x, s, local.Op{Kind: tree.Swap, Args: [2]complex128{complex(float64(i+1), 0)}, Reg: i})
	}
}

// TestGoingOn: a loop about objects, whose registers are given.
func TestGoingOn(t *testing.T) {
	x := thread(t, "while a < 2 { a = load v[a]; b = b + a; store y, b; } c = try m; assert c;")
	s := local.Born(x, 20)
	for i, c := range []struct {
		at, left int
		op       local.Op
		given    complex128
	}{
		{1, 19, local.Op{Kind: tree.Load, Object: 1}, 1},
		{3, 17, local.Op{Kind: tree.Store, Object: 4, Args: [2]complex128{1}, Reg: -1}, 77},
		{1, 14, local.Op{Kind: tree.Load, Object: 2}, 2},
		{3, 12, local.Op{Kind: tree.Store, Object: 4, Args: [2]complex128{3}, Reg: -1}, 77},
		{5, 9, local.Op{Kind: tree.Try, Object: 5, Reg: 2}, 0},
	} {
		if s.PC != c.at || s.Left != c.left || s.Status != local.Live {
			t.Fatalf("P9.1: stop %d: %s", i, stateText(s))
		}
		checkOp(t, fmt.Sprint("stop ", i), x, s, c.op)
		s.PC++
		s.Left--
		s = local.Run(x, s.Give(c.op.Reg, c.given))
	}
	checkState(t, "the end", s, local.State{PC: 7, Left: 7, Regs: regs(2, 3), Status: local.Failed})
}

func TestIndexes(t *testing.T) {
	for _, form := range []string{"a = load v[%s];", "store v[%s], 5;", "a = add v[%s], 5;", "a = swap v[%s], 5;", "a = cas v[%s], 5, 6;"} {
		for index, object := range map[string]int{"0": 1, "1": 2, "2": 3, "1 + 1": 3, "b": 1, "#(1+1i)": 3, "~2": 3, "5i * -1i - 3": 3, "1i - 1i": 1} {
			text := fmt.Sprintf(form, index)
			x := thread(t, text)
			s := local.Born(x, 9)
			checkState(t, text, s, local.State{Left: 9, Status: local.Live})
			if op, ok := local.Next(x, s); !ok || op.Object != object {
				t.Errorf("P9.1: %s: Next %v %v", text, op, ok)
			}
		}
		for _, index := range []string{"3", "4", "-1", "0 - 1", "1i", "-1i", "1 + 1i", "2 - 1i", "0 + 1i", "1048576", "-1048576", "1048576 + 1", "1048576i + 1i"} {
			text := fmt.Sprintf(form, index)
			x := thread(t, text)
			checkState(t, text, local.Born(x, 9), local.State{Left: 9, Status: local.Faulty})
			checkNone(t, text, x, local.State{Left: 9, Status: local.Live})
		}
	}
	for n := 1; n <= api.MaxArray; n++ {
		p, _, e := code.Read(fmt.Sprintf("cell x 0; array v %d; cell y 0; thread t { while 1 { store v[a], a; a = a + 1; } }", n))
		if e != api.OK {
			t.Fatal(e)
		}
		x := p.Threads[0]
		s := local.Born(x, 100)
		for i := range n {
			checkOp(t, fmt.Sprintf("v[%d] of %d", i, n), x, s, local.Op{Kind: tree.Store, Object: 1 + i, Args: [2]complex128{complex(float64(i), 0)}, Reg: -1})
			s.PC++
			s.Left--
			s = local.Run(x, s)
		}
		checkState(t, fmt.Sprint("an array of ", n), s, local.State{PC: 1, Left: 99 - 4*n, Regs: regs(complex(float64(n), 0)), Status: local.Faulty})
	}
}

// TestWhatDoesNotFit: it is Faulty where it stands, and nothing else changes.
func TestWhatDoesNotFit(t *testing.T) {
	for _, form := range []string{
		"a = E;", "b = E;", "assert E;", "assume E;", "if E { b = 2; }", "if E { } else { b = 2; }", "while E { b = 2; }",
		"store x, E;", "a = add x, E;", "a = swap x, E;", "a = cas x, E, 1;", "a = cas x, 1, E;",
		"a = load v[E];", "store v[E], 1;", "store v[1], E;", "a = add v[1], E;", "a = swap v[1], E;", "a = cas v[1], E, 1;", "a = cas v[1], 1, E;", "a = cas v[E], 1, 1;",
	} {
		for _, e := range []string{"1048576 + 1", "(-1048576 - 1)", "1048576i + 1i", "1048576 * a", "#1025", "0 * (1048576 + 1)", "!(1048576 + 1)", "(1048576 + 1) == 1", "(1048576 + 1) < 1"} {
			text := strings.ReplaceAll(form, "E", e)
			x := thread(t, "a = 7; b = 8; "+text+" lock m;")
			want := local.State{PC: 2, Left: 7, Regs: regs(7, 8), Status: local.Faulty}
			checkState(t, text, local.Born(x, 9), want)
			want.Status = local.Live
			checkNone(t, text, x, want)
		}
	}
	// Behind what goes wrong nothing is done; what stands where nobody comes by isn't looked at.
	checkState(t, "in a loop", local.Born(thread(t, "a = 1; while a { a = a * 4; }"), 99), local.State{PC: 2, Left: 67, Regs: regs(1048576), Status: local.Faulty})
	checkState(t, "nobody comes by", local.Born(thread(t, "if 0 { assert 1048576 + 1; } a = 1;"), 99), local.State{PC: 3, Left: 97, Regs: regs(1), Status: local.Done})
}

// TestRegistersThatDoNotFit: they may stand in a state, and go wrong where they are reckoned with.
func TestRegistersThatDoNotFit(t *testing.T) {
	for _, c := range []complex128{0.5, 0.5i, 1048577, -1048577i, 1e300, complex(math.Inf(1), 0), complex(0, math.Inf(-1)), complex(math.NaN(), 0), complex(1, math.NaN())} {
		for _, text := range []string{"b = a + 0;", "assert a == a;", "assume !a;", "if a - 1 { }", "while a * 0 { }", "b = load v[a + 0];", "store x, a * 1;", "b = cas v[0], 1, a + 1;"} {
			x := thread(t, text+" a = 1;")
			s := local.State{Left: 3, Status: local.Live}
			r := 0
			if x.Regs[0] != "a" {
				r = 1
			}
			s = s.Give(r, c)
			checkNone(t, fmt.Sprintf("%s of %v", text, c), x, s)
			want := s
			want.Status = local.Faulty
			checkState(t, fmt.Sprintf("%s of %v", text, c), local.Run(x, s), want)
		}
		// Those that nobody reckons with stay as they are.
		s := local.State{Left: 3, Status: local.Live}.Give(5, c)
		want := s
		want.PC, want.Left, want.Regs[0], want.Status = 1, 2, 1, local.Done
		checkState(t, fmt.Sprintf("nobody asks for %v", c), local.Run(thread(t, "a = 1;"), s), want)
		want.Regs[0] = 0
		want.PC, want.Left, want.Status = 0, 3, local.Live
		checkState(t, fmt.Sprintf("nobody asks for %v", c), local.Run(thread(t, "a = load x;"), s), want)
	}
}

// TestNotAtWork: who isn't Live goes nowhere, wherever it stands.
func TestNotAtWork(t *testing.T) {
	for _, body := range []string{"", "a = 1;", "lock m;", "store v[9], 1;", "assert 0; while 1 { }", "a = 1; lock m; a = 2;"} {
		x := thread(t, body)
		for _, status := range []local.Status{local.Unborn, local.Done, local.Failed, local.Faulty, local.Spent, local.Pruned, local.Statuses, -1, 99, math.MaxInt, math.MinInt} {
			for _, pc := range []int{0, 1, 2, 3, 4, 200, -1, -7, math.MaxInt, math.MinInt} {
				for _, left := range []int{5, 1, 0, -1, math.MaxInt, math.MinInt} {
					s := local.State{PC: pc, Left: left, Regs: regs(4, 0.5, 6i), Status: status}
					what := fmt.Sprintf("%q, %s", body, stateText(s))
					checkState(t, what, local.Run(x, s), s)
					checkNone(t, what, x, s)
				}
			}
		}
	}
}

// TestNextOfOthers: who is Live, but stands at nothing that is Visible.
func TestNextOfOthers(t *testing.T) {
	x := thread(t, "a = 1; assert 1; assume 1; if 1 { } while 0 { } lock m;")
	for pc, i := range x.Code {
		s := local.State{PC: pc, Left: 9, Status: local.Live}
		if i.Visible() {
			checkOp(t, "lock", x, s, local.Op{Kind: tree.Lock, Object: 5, Reg: -1})
			continue
		}
		checkNone(t, fmt.Sprint("instruction ", pc), x, s)
	}
	checkNone(t, "at the end", x, local.State{PC: len(x.Code), Left: 9, Status: local.Live})
	checkNone(t, "without instructions", code.Thread{}, local.State{Left: 9, Status: local.Live})
}

// TestRunFromAnywhere: a state needn't be one that Born told.
func TestRunFromAnywhere(t *testing.T) {
	x := thread(t, "a = 1; if b { a = 2; } else { c = 3; } lock m; c = a;")
	for _, c := range []struct{ s, want local.State }{
		{local.State{Left: 9, Status: local.Live}, local.State{PC: 5, Left: 6, Regs: regs(1, 0, 3), Status: local.Live}},
		{local.State{Left: 9, Regs: regs(0, 4), Status: local.Live}, local.State{PC: 5, Left: 5, Regs: regs(2, 4), Status: local.Live}},
		{local.State{PC: 1, Left: 9, Regs: regs(5), Status: local.Live}, local.State{PC: 5, Left: 7, Regs: regs(5, 0, 3), Status: local.Live}},
		{local.State{PC: 2, Left: 2, Status: local.Live}, local.State{PC: 5, Left: 0, Regs: regs(2), Status: local.Spent}},
		{local.State{PC: 3, Left: 2, Status: local.Live}, local.State{PC: 5, Left: 1, Status: local.Live}},
		{local.State{PC: 6, Left: 1, Regs: regs(7), Status: local.Live}, local.State{PC: 7, Left: 0, Regs: regs(7, 0, 7), Status: local.Done}},
		{local.State{PC: 6, Left: math.MaxInt, Regs: regs(7), Status: local.Live}, local.State{PC: 7, Left: math.MaxInt - 1, Regs: regs(7, 0, 7), Status: local.Done}},
		{local.State{PC: 6, Left: 0, Regs: regs(7), Status: local.Live}, local.State{PC: 6, Left: 0, Regs: regs(7), Status: local.Spent}},
		{local.State{PC: 6, Left: math.MinInt, Status: local.Live}, local.State{PC: 6, Left: math.MinInt, Status: local.Spent}},
		{local.State{PC: 5, Left: -1, Status: local.Live}, local.State{PC: 5, Left: -1, Status: local.Spent}},
		{local.State{PC: 7, Left: 3, Regs: regs(1), Status: local.Live}, local.State{PC: 7, Left: 3, Regs: regs(1), Status: local.Done}},
		{local.State{PC: 7, Left: 0, Status: local.Live}, local.State{PC: 7, Status: local.Done}},
		{local.State{PC: 7, Left: -9, Status: local.Live}, local.State{PC: 7, Left: -9, Status: local.Done}},
	} {
		checkState(t, stateText(c.s), local.Run(x, c.s), c.want)
	}
}

func TestGive(t *testing.T) {
	odd := []complex128{0, 5, -3 + 4i, 0.5, 1048577, complex(math.Inf(1), math.NaN())}
	for _, status := range []local.Status{local.Unborn, local.Live, local.Done, local.Pruned, -4, 50} {
		s := local.State{PC: -4, Left: -6, Regs: regs(1, 2, 3, 4, 5, 6, 7, 8), Status: status}
		before := s
		for _, c := range odd {
			for reg := range api.MaxRegs {
				want := s
				want.Regs[reg] = c
				checkState(t, fmt.Sprintf("Give %d, %v", reg, c), s.Give(reg, c), want)
			}
			for _, reg := range []int{-1, -2, api.MaxRegs, api.MaxRegs + 1, 1 << 40, math.MaxInt, math.MinInt} {
				checkState(t, fmt.Sprintf("Give %d, %v", reg, c), s.Give(reg, c), s)
			}
		}
		if s != before {
			t.Errorf("R5: Give changes the state that it is asked of: %s", stateText(s))
		}
	}
}

func threadText(x code.Thread) string {
	out := fmt.Sprintf("%q of %d", x.Regs, cap(x.Regs))
	for _, i := range x.Code {
		out += fmt.Sprintf("\n%+v", i)
	}
	return out
}

// TestNothingChanges: neither the thread nor the state, and what is answered hangs on nothing but these.
func TestNothingChanges(t *testing.T) {
	const body = "a = 5; while b < 2 { b = b + 1; c = cas v[b], a, c; } assert c; store v[a], -a;"
	x := thread(t, body)
	roomy := x
	roomy.Code = append(make([]code.Instr, 0, 20), x.Code...)
	roomy.Regs = append(make([]string, 0, 20), x.Regs...)
	room := fmt.Sprint(roomy.Code[:20], roomy.Regs[:20])
	before := threadText(roomy)
	var first []string
	for round := range 3 {
		for pc := range len(x.Code) + 1 {
			s := local.State{PC: pc, Left: 7, Regs: regs(1, 1, 1), Status: local.Live}
			kept := s
			run := local.Run(roomy, s)
			op, ok := local.Next(roomy, s)
			told := fmt.Sprint(stateText(run), op, ok, stateText(local.Born(roomy, pc)), stateText(s.Give(pc, 5)))
			if round == 0 {
				first = append(first, told)
			} else if told != first[pc] {
				t.Errorf("R6: %q at %d: %s, not %s", body, pc, told, first[pc])
			}
			if s != kept {
				t.Errorf("R5: %q at %d: the state is changed: %s", body, pc, stateText(s))
			}
			if threadText(roomy) != before || fmt.Sprint(roomy.Code[:20], roomy.Regs[:20]) != room {
				t.Errorf("R5: %q at %d: the thread is changed", body, pc)
			}
		}
		if !reflect.DeepEqual(roomy.Code, x.Code) {
			t.Errorf("R5: %q: the instructions are changed", body)
		}
		local.Born(thread(t, "a = 9; lock m;"), 5) // another thread in between
	}
	// A thread isn't kept: what it tells is what it is told by now.
	s := local.Born(x, 99)
	x.Code[3].Base = 40
	checkOp(t, "R5: another base", x, s, local.Op{Kind: tree.Cas, Object: 41, Args: [2]complex128{5, 0}, Reg: 2})
}

// TestNoPanic: whatever is handed in, also what no chapter answers.
func TestNoPanic(t *testing.T) {
	ints := []int{0, 1, -1, 2, 200, math.MaxInt, math.MinInt}
	var kinds []tree.Kind
	for k := tree.Kind(-1); k <= tree.Kinds; k++ {
		kinds = append(kinds, k)
	}
	odd := []tree.Expr{{Op: "?"}, {Op: "reg", Name: "z"}, {Op: "+"}, {Num: 0.5}, {Num: complex(math.NaN(), 0)}, {Op: "reg", Name: "a"}, {Num: 1}}
	for _, kind := range kinds {
		for _, indexed := range []bool{false, true} {
			for n := range 4 {
				for _, e := range odd {
					for _, reg := range ints {
						x := code.Instr{Kind: kind, Reg: reg, Base: reg, Len: reg, Indexed: indexed, To: reg}
						for range n {
							x.Exprs = append(x.Exprs, e)
						}
						noPanic(t, code.Thread{Code: []code.Instr{x}, Regs: []string{"a"}}, reg)
						noPanic(t, code.Thread{Code: []code.Instr{x, x}}, reg)
					}
				}
			}
		}
	}
}

func noPanic(t *testing.T, x code.Thread, pc int) {
	t.Helper()
	defer func() {
		if r := recover(); r != nil {
			t.Errorf("P1: %+v at %d: panic: %v", x, pc, r)
		}
	}()
	for _, status := range []local.Status{local.Live, local.Unborn, local.Done, -1, 99} {
		for _, left := range []int{0, 3, -1} {
			s := local.State{PC: pc, Left: left, Regs: regs(complex(math.NaN(), math.Inf(1))), Status: status}
			local.Run(x, s)
			local.Next(x, s)
			local.Run(x, s.Give(pc, 1))
		}
	}
	local.Born(x, min(pc, 9))
}
