package foot_test

import (
	"fmt"
	"math"
	"reflect"
	"strings"
	"testing"
	"unsafe"

	"braidwork/api"
	"braidwork/code"
	"braidwork/event"
	"braidwork/foot"
	"braidwork/names"
	"braidwork/parse"
	"braidwork/tree"
)

// everything: each kind of statement, in four threads, of which one has none.
const everything = `cell x 3; array v 2; mutex m; mutex n; sem s 1; sem z 0; budget 60;
thread t { a = 1; spawn u; spawn w; lock m; b = add v[a], 2i; unlock m; wait z; c = swap x, b; join u; store v[0], c + #b; if c == 0 { assert 0; } unlock n; }
thread u { a = try m; while a < 2 { a = a + 1; post z; if a { b = cas v[a - 1], 0, 5; } else { spawn e; } } wait s; assume b; }
thread w { a = load x; lock n; post s; store x, a * a - ~a; spawn t; }
thread e { }`

// copied: a copy in which each list is as long as sizeOf tells.
func copied(v reflect.Value, sizeOf func(reflect.Value) int) reflect.Value {
	out := reflect.New(v.Type()).Elem()
	switch v.Kind() {
	case reflect.Struct:
		for i := range v.NumField() {
			out.Field(i).Set(copied(v.Field(i), sizeOf))
		}
	case reflect.Slice:
		if v.IsNil() {
			return out
		}
		v = v.Slice(0, sizeOf(v))
		out.Set(reflect.MakeSlice(v.Type(), v.Len(), v.Len()))
		for i := range v.Len() {
			out.Index(i).Set(copied(v.Index(i), sizeOf))
		}
	default:
		out.Set(v)
	}
	return out
}

// inFull: all that there is in something, its lists' spare room included.
func inFull(x any) string {
	return fmt.Sprintf("%#v", copied(reflect.ValueOf(x), reflect.Value.Cap).Interface())
}

// wreck: writes over all that there is in something, and in its lists' room.
func wreck(v reflect.Value) {
	switch v.Kind() {
	case reflect.Struct:
		for i := range v.NumField() {
			wreck(v.Field(i))
		}
	case reflect.Slice:
		v = v.Slice(0, v.Cap())
		for i := range v.Len() {
			wreck(v.Index(i))
		}
	case reflect.Int:
		v.SetInt(int64(tree.Store))
	case reflect.Bool:
		v.SetBool(!v.Bool())
	case reflect.String:
		v.SetString("other")
	case reflect.Complex128:
		v.SetComplex(77)
	}
}

// giveRoom: each list gets spare room in which something stands.
func giveRoom(v reflect.Value) {
	switch v.Kind() {
	case reflect.Struct:
		for i := range v.NumField() {
			giveRoom(v.Field(i))
		}
	case reflect.Slice:
		for i := range v.Len() {
			giveRoom(v.Index(i))
		}
		l := reflect.MakeSlice(v.Type(), v.Len()+3, v.Len()+3)
		reflect.Copy(l, v)
		for i := v.Len(); i < l.Len(); i++ {
			wreck(l.Index(i))
		}
		v.Set(l.Slice(0, v.Len()))
	}
}

// programs: each in memory of its own; with spare room.
func programs(t *testing.T) []code.Program {
	t.Helper()
	out := []code.Program{{}}
	for _, text := range []string{everything, "thread t { }", three("spawn u; while a { spawn w; a = load v[a]; }"), three("if a { lock m; } else { join u; }")} {
		p := read(t, text)
		giveRoom(reflect.ValueOf(&p).Elem())
		out = append(out, p)
	}
	return out
}

// answers: all lists that are answered of a program.
func answers(p code.Program) (reaches [][]int, marks [][]event.Mark) {
	for n := -1; n <= len(p.Threads); n++ {
		long := 0
		if n >= 0 && n < len(p.Threads) {
			long = len(p.Threads[n].Code)
		}
		for pc := -1; pc <= long; pc++ {
			if n >= 0 && n < len(p.Threads) {
				reaches = append(reaches, foot.Reach(p.Threads[n], pc))
			}
			marks = append(marks, foot.Of(p, n, pc))
		}
	}
	return reaches, marks
}

// all that is told of a program.
func all(p code.Program) string {
	var out strings.Builder
	reaches, marks := answers(p)
	for _, l := range reaches {
		fmt.Fprintln(&out, numbers(l))
	}
	for _, l := range marks {
		fmt.Fprintln(&out, marked(l))
	}
	for n := -1; n <= len(p.Threads); n++ {
		for pc := -1; pc < 40; pc++ {
			fmt.Fprintln(&out, foot.Spawns(p, n, pc))
		}
	}
	return out.String()
}

func TestProgramsAreNotChanged(t *testing.T) {
	for i, p := range programs(t) {
		before := inFull(p)
		all(p)
		foot.Of(p, math.MinInt, math.MaxInt)
		foot.Of(p, 0, math.MaxInt)
		foot.Spawns(p, math.MaxInt, math.MinInt)
		foot.Spawns(p, 0, math.MinInt)
		if inFull(p) != before {
			t.Errorf("R5: program %d is changed", i)
		}
	}
}

// TestProgramsAreNotKept: answers stay, whatever becomes of the program.
func TestProgramsAreNotKept(t *testing.T) {
	for i, p := range programs(t) {
		reaches, marks := answers(p)
		before := fmt.Sprint(reaches, marks)
		wreck(reflect.ValueOf(&p).Elem())
		if fmt.Sprint(reaches, marks) != before {
			t.Errorf("R5: answers of program %d share memory with it", i)
		}
		all(p)
	}
	l := programs(t)
	for i, p := range programs(t) {
		want := all(l[i])
		wreck(reflect.ValueOf(&p).Elem())
		all(p)
		if all(l[i]) != want {
			t.Errorf("R5: program %d is kept", i)
		}
	}
}

// overlap: do lists share any memory, spare room included?
func overlap[T any](a, b []T) bool {
	if cap(a) == 0 || cap(b) == 0 {
		return false
	}
	a, b = a[:cap(a)], b[:cap(b)]
	p, q := uintptr(unsafe.Pointer(&a[0])), uintptr(unsafe.Pointer(&b[0]))
	size := unsafe.Sizeof(a[0])
	return p < q+uintptr(len(b))*size && q < p+uintptr(len(a))*size
}

// anyOverlap: of all lists, each against each other one.
func anyOverlap[T any](l [][]T) bool {
	for i := range l {
		for k := range i {
			if overlap(l[i], l[k]) {
				return true
			}
		}
	}
	return false
}

func TestAnswersAreNewMemory(t *testing.T) {
	for i, p := range programs(t) {
		reaches, marks := answers(p)
		again, marksAgain := answers(p)
		if anyOverlap(append(reaches, again...)) || anyOverlap(append(marks, marksAgain...)) {
			t.Errorf("R5: answers of program %d share memory", i)
		}
	}
}

// TestAnswersWrittenOver: what is answered later doesn't hang on them.
func TestAnswersWrittenOver(t *testing.T) {
	for i, p := range programs(t) {
		before, want := inFull(p), all(p)
		reaches, marks := answers(p)
		wreck(reflect.ValueOf(&reaches).Elem())
		wreck(reflect.ValueOf(&marks).Elem())
		if inFull(p) != before || all(p) != want {
			t.Errorf("R5: of program %d what was answered is kept", i)
		}
	}
}

func TestAlikeEachTime(t *testing.T) {
	l := programs(t)
	for i, p := range l {
		first := all(p)
		for _, other := range l {
			all(other)
		}
		if all(p) != first {
			t.Errorf("R6: program %d: another answer the second time", i)
		}
	}
}

// TestSpareRoomIsNotLookedAt: nor do nil and empty lists differ (R4).
func TestSpareRoomIsNotLookedAt(t *testing.T) {
	for i, p := range programs(t) {
		plain := copied(reflect.ValueOf(p), reflect.Value.Len).Interface().(code.Program)
		if all(p) != all(plain) {
			t.Errorf("R5: program %d: spare room is looked at", i)
		}
	}
	none := code.Program{Threads: []code.Thread{{}}}
	empty := code.Program{Threads: []code.Thread{{Code: []code.Instr{}, Regs: []string{}}}, Cells: []complex128{}, Sems: []int{}}
	if all(none) != all(empty) || marked(foot.Of(none, 0, 0)) != "0!" {
		t.Errorf("R4: %s, and %s", all(none), all(empty))
	}
}

// TestOtherFieldsAreNotLookedAt: registers, expressions, whether there is an index, the budget, what cells and semaphores are at first.
func TestOtherFieldsAreNotLookedAt(t *testing.T) {
	p, q := read(t, everything), read(t, everything)
	q.Budget = 0
	for i := range q.Cells {
		q.Cells[i] = 5
	}
	for i := range q.Sems {
		q.Sems[i] = 5
	}
	for n := range q.Threads {
		q.Threads[n].Regs = nil
		for i := range q.Threads[n].Code {
			x := &q.Threads[n].Code[i]
			x.Reg, x.Exprs, x.Indexed = 99, nil, !x.Indexed
			if x.Kind != tree.If && x.Kind != tree.While {
				x.To = i / 2
			}
		}
	}
	if all(p) != all(q) {
		t.Error("R6: something else is looked at")
	}
}

// TestProgramsOfTreesThatCheckRefuses: Make answers something of them, too.
func TestProgramsOfTreesThatCheckRefuses(t *testing.T) {
	for _, text := range []string{
		"thread t { lock m; }", "thread t { a = load x; store x, a; }", "cell x 0; cell x 1; thread t { spawn u; join u; }",
		"sem s 1i; thread t { wait s; }", "array v 9; thread t { store v[a], 1; } thread u { post v; }", "cell x 0;", "", "thread t { spawn x; } thread t { spawn t; } cell x 0;",
	} {
		parsed, _, _ := parse.Parse(text)
		table, _, e := names.Check(parsed)
		p, _ := code.Make(parsed, table)
		if e == api.OK {
			t.Errorf("%s is well", text)
		}
		all(p)
	}
}

// TestNoPanic: whatever is handed in, also what no chapter answers.
func TestNoPanic(t *testing.T) {
	ints := []int{0, 1, 2, 3, 63, 64, 65, 200, -1, -64, math.MaxInt, math.MaxInt - 1, math.MinInt, math.MinInt + 1}
	for kind := tree.Kind(-1); kind <= tree.Kinds; kind++ {
		for _, base := range ints {
			for _, length := range ints {
				x := code.Instr{Kind: kind, Reg: base, Base: base, Len: length, To: base, Indexed: length%2 == 0}
				y := code.Instr{Kind: kind, Base: length, Len: base, To: length}
				l := code.Thread{Code: []code.Instr{x, y, {}}}
				for _, p := range []code.Program{
					{Threads: []code.Thread{l}},
					{Threads: []code.Thread{l, l}, Cells: []complex128{1}, Mutexes: 1, Sems: []int{1}, Budget: base},
					{Threads: []code.Thread{l}, Mutexes: min(length, 3)},
				} {
					for _, n := range []int{-1, 0, 1, 2} {
						for _, pc := range append(ints, 1, 2) {
							foot.Of(p, n, pc)
							foot.Spawns(p, n, pc)
						}
					}
				}
				for _, pc := range ints {
					foot.Reach(l, pc)
				}
			}
		}
	}
}

// TestManyThreads: more than a set holds; of those that it holds all are told.
func TestManyThreads(t *testing.T) {
	p := code.Program{Threads: make([]code.Thread, 70)}
	for n := range p.Threads {
		p.Threads[0].Code = append(p.Threads[0].Code, code.Instr{Kind: tree.Spawn, Base: n, Len: 1})
	}
	checkSpawns(t, "many threads", p, 0, 0, math.MaxUint64)
	checkSpawns(t, "many threads", p, 0, 60, 15<<60)
	checkSpawns(t, "many threads", p, 0, 64, 0)
	if got := foot.Of(p, 0, 0); len(got) != 70 {
		t.Errorf("P14.1: of many threads: %s", marked(got))
	}
}
