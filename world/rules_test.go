package world_test

import (
	"fmt"
	"math"
	"reflect"
	"strings"
	"testing"

	"braidwork/api"
	"braidwork/code"
	"braidwork/event"
	"braidwork/local"
	"braidwork/names"
	"braidwork/parse"
	"braidwork/tree"
	"braidwork/world"
)

// everything: each kind of step, in three threads.
const everything = `cell x 3; array v 2; mutex m; mutex n; sem s 1; sem z 0; budget 60;
thread t { a = 1; spawn u; spawn w; lock m; b = add v[a], 2i; unlock m; wait z; c = swap x, b; join u; store v[0], c + #b; if c == 0 { assert 0; } unlock n; }
thread u { a = try m; while a < 2 { a = a + 1; post z; b = cas v[a - 1], 0, 5; } wait s; assume b; }
thread w { a = load x; lock n; post s; store x, a * a - ~a; spawn t; }`

// copied: a copy in which each list is as long as sizeOf tells.
func copied(v reflect.Value, sizeOf func(reflect.Value) int) reflect.Value {
	out := reflect.New(v.Type()).Elem()
	switch v.Kind() {
	case reflect.Struct:
		for i := range v.NumField() {
			out.Field(i).Set(copied(v.Field(i), sizeOf))
		}
	case reflect.Slice:
		if v.IsNil() {
			return out
		}
		v = v.Slice(0, sizeOf(v))
		out.Set(reflect.MakeSlice(v.Type(), v.Len(), v.Len()))
		for i := range v.Len() {
			out.Index(i).Set(copied(v.Index(i), sizeOf))
		}
	default:
		out.Set(v)
	}
	return out
}

// copyOf: a world that shares nothing with it.
func copyOf(w world.World) world.World {
	return copied(reflect.ValueOf(w), reflect.Value.Len).Interface().(world.World)
}

// inFull: all that there is in something, its lists' spare room included.
func inFull(x any) string {
	return fmt.Sprintf("%#v", copied(reflect.ValueOf(x), reflect.Value.Cap).Interface())
}

// wreck: writes over all that there is in something, and in its lists' room.
func wreck(v reflect.Value) {
	switch v.Kind() {
	case reflect.Struct:
		for i := range v.NumField() {
			wreck(v.Field(i))
		}
	case reflect.Array:
		for i := range v.Len() {
			wreck(v.Index(i))
		}
	case reflect.Slice:
		v = v.Slice(0, v.Cap())
		for i := range v.Len() {
			wreck(v.Index(i))
		}
	case reflect.Int:
		v.SetInt(77)
	case reflect.Bool:
		v.SetBool(!v.Bool())
	case reflect.String:
		v.SetString("other")
	case reflect.Complex128:
		v.SetComplex(77)
	}
}

// giveRoom: each list gets spare room in which something stands.
func giveRoom(v reflect.Value) {
	switch v.Kind() {
	case reflect.Struct:
		for i := range v.NumField() {
			giveRoom(v.Field(i))
		}
	case reflect.Slice:
		for i := range v.Len() {
			giveRoom(v.Index(i))
		}
		l := reflect.MakeSlice(v.Type(), v.Len()+3, v.Len()+3)
		reflect.Copy(l, v)
		for i := v.Len(); i < l.Len(); i++ {
			wreck(l.Index(i))
		}
		v.Set(l.Slice(0, v.Len()))
	}
}

// roomy: a world all of whose lists have spare room, its program's, too.
func roomy(w world.World) world.World {
	w = copyOf(w)
	giveRoom(reflect.ValueOf(&w).Elem())
	return w
}

// wreckWorld: all that is a world's own, but for the program, which it may share.
func wreckWorld(w *world.World) {
	for _, l := range []any{&w.Cells, &w.Holders, &w.Sems, &w.Threads} {
		wreck(reflect.ValueOf(l).Elem())
	}
}

// asked: all that a world tells.
func asked(w world.World) string {
	var out strings.Builder
	fmt.Fprintln(&out, all(w), w.All(), world.Same(w, w))
	for i := -1; i <= len(w.Threads); i++ {
		op, ok := w.Next(i)
		fmt.Fprintln(&out, op, ok, world.Mark(op), w.Enabled(i))
		next, e, ok := w.Pick(i)
		fmt.Fprintln(&out, all(next), e, ok)
	}
	return out.String()
}

// walk: worlds one behind the other, by picks that are always the same ones, till nobody can go on.
func walk(w world.World) []world.World {
	s := source(5)
	out := []world.World{w}
	for range 1000 {
		next, _, ok := w.Pick(s.below(len(w.Threads)))
		if ok {
			w = next
			out = append(out, w)
		}
	}
	return out
}

func told(l []world.World) string {
	var out strings.Builder
	for _, w := range l {
		out.WriteString(asked(w))
	}
	return out.String()
}

func TestProgramIsNeitherChangedNorKept(t *testing.T) {
	run := walk(world.New(read(t, everything)))
	if len(run) < 15 {
		t.Errorf("a run of only %d worlds", len(run))
	}
	want := told(run)
	p := read(t, everything)
	giveRoom(reflect.ValueOf(&p).Elem())
	before := inFull(p)
	w := world.New(p)
	got := told(walk(w))
	if got != want {
		t.Error("R5: spare room of a program is looked at")
	}
	if inFull(p) != before {
		t.Error("R5: a program is changed")
	}
	// What comes of it stays, whatever is done with it, and the other way.
	wreck(reflect.ValueOf(&p).Elem())
	if told(walk(w)) != want {
		t.Error("R5: a program is kept")
	}
	p = read(t, everything)
	before = inFull(p)
	w = world.New(p)
	program := inFull(w.Program)
	wreckWorld(&w)
	if inFull(w.Program) != program {
		t.Error("R5: two lists of one world share memory")
	}
	wreck(reflect.ValueOf(&w).Elem())
	if inFull(p) != before || told(walk(world.New(p))) != want {
		t.Error("R5: a world shares memory with the program that was handed in")
	}
}

// TestWorldStaysAsItIs: whatever is asked of it, and done with worlds that come of it.
func TestWorldStaysAsItIs(t *testing.T) {
	for i, w := range walk(world.New(read(t, everything))) {
		want := asked(w)
		w = roomy(w)
		before := inFull(w)
		if asked(w) != want {
			t.Errorf("R5: step %d: spare room is looked at", i)
		}
		world.Same(w, w)
		if inFull(w) != before {
			t.Fatalf("R5: step %d: a world is changed", i)
		}
		for who := range w.Threads {
			checkApart(t, w, who)
		}
		if inFull(w) != before || asked(w) != want {
			t.Fatalf("R5: step %d: a world is changed by way of one that came of it", i)
		}
	}
}

// checkApart: two worlds that come of one by the same step, and that one, share nothing that is theirs.
func checkApart(t *testing.T, w world.World, who int) {
	t.Helper()
	a, e, ok := w.Pick(who)
	if !ok {
		return
	}
	want, marks := asked(a), marksText(e)
	b, f, _ := w.Pick(who)
	wreckWorld(&b)
	wreck(reflect.ValueOf(&f).Elem())
	if asked(a) != want || marksText(e) != marks {
		t.Errorf("R5: %s: two answers share memory", all(w))
	}
	mine := copyOf(w)
	c, _, _ := mine.Pick(who)
	wreckWorld(&mine)
	if asked(c) != want {
		t.Errorf("R5: %s: what came of it changes with it", all(w))
	}
	for _, next := range walk(a) {
		wreckWorld(&next)
	}
}

func TestAlikeEachTime(t *testing.T) {
	var first []string
	for range 3 {
		for i, text := range []string{everything, "thread t { }", decls + "thread t { a = add x, 1; post q; } thread u { }"} {
			got := told(walk(world.New(read(t, text))))
			if len(first) <= i {
				first = append(first, got)
			}
			if got != first[i] {
				t.Errorf("R6: %s: another answer", text)
			}
		}
	}
	// A world behind others tells what it told ahead of them.
	l := walk(world.New(read(t, everything)))
	want := told(l)
	for _, w := range l {
		walk(w)
	}
	if told(l) != want {
		t.Error("R6: worlds tell other things behind other calls")
	}
}

// TestEmptyLists: a program of which lists are empty, and not nil, is the same.
func TestEmptyLists(t *testing.T) {
	none := code.Program{Threads: []code.Thread{{}}, Budget: 9}
	empty := code.Program{Threads: []code.Thread{{Code: []code.Instr{}, Regs: []string{}}}, Cells: []complex128{}, Sems: []int{}, Budget: 9}
	a, b := world.New(none), world.New(empty)
	if !world.Same(a, b) || a.Text() != "| done" || b.Text() != "| done" {
		t.Errorf("R4: %s, and %s", all(a), all(b))
	}
}

// TestNoThreads: what the chapters answer beside an error, or false.
func TestNoThreads(t *testing.T) {
	p, _, _ := code.Read("thread t { lock m; }")
	for _, w := range []world.World{{}, world.New(p), world.New(code.Program{})} {
		if w.Text() != "|" || w.All() != 0 || !world.Same(w, world.World{}) {
			t.Errorf("P10.1: a world without threads: %s", all(w))
		}
		for _, n := range append([]int{0, 1}, noThreads...) {
			checkStuck(t, w, n)
		}
	}
}

// TestProgramsOfTreesThatCheckRefuses: Make answers something of them, too.
func TestProgramsOfTreesThatCheckRefuses(t *testing.T) {
	for _, text := range []string{
		"thread t { lock m; }", "thread t { a = load x; store x, a; }", "cell x 0; cell x 1; thread t { spawn u; join u; }",
		"sem s 1i; thread t { wait s; }", "array v 9; thread t { store v[a], 1; } thread u { post v; }", "cell x 0;", "",
	} {
		parsed, _, _ := parse.Parse(text)
		table, _, e := names.Check(parsed)
		p, _ := code.Make(parsed, table)
		if e == api.OK {
			t.Errorf("%s is well", text)
		}
		noPanic(t, world.New(p), text)
	}
}

func noPanic(t *testing.T, w world.World, what any) {
	t.Helper()
	defer func() {
		if r := recover(); r != nil {
			t.Errorf("P1: %+v: panic: %v", what, r)
		}
	}()
	w.Text()
	w.All()
	world.Same(w, world.World{})
	for _, n := range append([]int{0, 1}, noThreads...) {
		w.Next(n)
		w.Enabled(n)
		next, _, _ := w.Pick(n)
		next.Text()
		next.All()
		next.Pick(0)
	}
}

// TestNoPanic: whatever is handed in, also what no chapter answers.
func TestNoPanic(t *testing.T) {
	ints := []int{0, 1, 2, 3, 4, 5, -1, 200, math.MaxInt, math.MinInt}
	number := []tree.Expr{{Num: 1}, {Num: 1}, {Num: 1}}
	for kind := tree.Kind(-1); kind <= tree.Kinds; kind++ {
		for _, n := range ints {
			x := code.Instr{Kind: kind, Reg: n, Base: n, Len: n, To: n, Exprs: number, Indexed: n%2 == 0}
			p := code.Program{Threads: []code.Thread{{Code: []code.Instr{x, x, {}}}}, Cells: []complex128{1}, Mutexes: 1, Sems: []int{1}, Budget: 3}
			noPanic(t, world.New(p), p)
			live := local.State{PC: min(max(n, 0), 3), Left: n, Status: local.Live}
			if kind == tree.If || kind == tree.While {
				live.Left = min(n, 9)
			}
			for _, w := range []world.World{
				{Program: p},
				{Program: p, Threads: []local.State{live, live, {Status: local.Status(n)}}},
				{Threads: []local.State{live}},
				{Program: p, Cells: []complex128{complex(math.NaN(), 0.5)}, Threads: []local.State{live}},
				{Program: p, Cells: []complex128{1}, Holders: []int{n}, Sems: []int{n}, Threads: []local.State{live}},
			} {
				noPanic(t, w, w)
			}
			if got := world.Mark(local.Op{Kind: kind, Object: n}); got != (event.Mark{Object: n, Write: kind != tree.Load && kind != tree.Join}) {
				t.Errorf("P10.1: Mark of the kind %d: %v", kind, got)
			}
		}
	}
	for _, n := range []int{-1, math.MinInt} {
		noPanic(t, world.New(code.Program{Mutexes: n, Budget: n}), n)
	}
}
