package names_test

import (
	"fmt"
	"maps"
	"math"
	"reflect"
	"slices"
	"strings"
	"testing"
	"unsafe"

	"braidwork/api"
	"braidwork/names"
	"braidwork/parse"
	"braidwork/tree"
)

func read(t *testing.T, s string) tree.Program {
	t.Helper()
	p, at, e := parse.Parse(s)
	if e != api.OK {
		t.Fatalf("%.300q isn't parsed: error %d at %d", s, e, at)
	}
	return p
}

// tableText: all that a table holds; empty lists as nil ones, as these mean the same.
func tableText(x names.Table) string {
	var out strings.Builder
	for _, name := range slices.Sorted(maps.Keys(x.Things)) {
		fmt.Fprintf(&out, "%q %#v\n", name, x.Things[name])
	}
	fmt.Fprintf(&out, "objects %d, first %d, budget %d, threads %q", x.Objects, x.First, x.Budget, x.Threads)
	for _, l := range x.Regs {
		fmt.Fprintf(&out, "\nregisters %q", l)
	}
	return out.String()
}

func isZero(x names.Table) bool {
	return len(x.Things) == 0 && x.Objects == 0 && x.First == 0 && len(x.Threads) == 0 && len(x.Regs) == 0 && x.Budget == 0
}

// checkAnswer: holds an answer against the one that must be.
func checkAnswer(t *testing.T, p tree.Program, want names.Table, at int, e api.Errno) {
	t.Helper()
	got, gotAt, gotE := names.Check(p)
	if gotE != e || gotAt != at {
		t.Errorf("P6.1: %.600q: error %d at %d, not %d at %d", tree.Print(p), gotE, gotAt, e, at)
		return
	}
	if e != api.OK && !isZero(got) {
		t.Errorf("R3: %.600q: a table beside an error: %s", tree.Print(p), tableText(got))
	}
	if e == api.OK && tableText(got) != tableText(want) {
		t.Errorf("P6.1: %.600q: %s\nnot %s", tree.Print(p), tableText(got), tableText(want))
	}
}

func checkTable(t *testing.T, s string, want names.Table) {
	t.Helper()
	checkAnswer(t, read(t, s), want, 0, api.OK)
}

func checkWell(t *testing.T, s string) names.Table {
	t.Helper()
	out, at, e := names.Check(read(t, s))
	if e != api.OK || at != 0 {
		t.Errorf("P6.1: %.300q: error %d at %d", s, e, at)
	}
	return out
}

// checkMarked: the place of the error is marked by a $ ahead of it.
func checkMarked(t *testing.T, s string, e api.Errno) {
	t.Helper()
	at := strings.Index(s, "$")
	if at < 0 || strings.Count(s, "$") != 1 {
		t.Fatalf("no mark: %q", s)
	}
	checkAnswer(t, read(t, strings.Replace(s, "$", "", 1)), names.Table{}, at, e)
}

func checkRegs(t *testing.T, s string, want ...[]string) {
	t.Helper()
	if x := checkWell(t, s); !slices.EqualFunc(x.Regs, want, slices.Equal) {
		t.Errorf("P6.1: %.300q: registers %q, not %q", s, x.Regs, want)
	}
}

// things: names, with what they are about.
type things = map[string]names.Thing

func TestExample(t *testing.T) {
	checkTable(t, "cell a 0; array b 2; mutex m; thread t { }", names.Table{
		Things: things{
			"a": {Sort: tree.Cell, Len: 1},
			"b": {Sort: tree.Array, Base: 1, Len: 2, Num: 2},
			"m": {Sort: tree.Mutex, Base: 3, Len: 1},
			"t": {Sort: tree.Thread, Base: 4, Len: 1},
		},
		Objects: 5, First: 4, Threads: []string{"t"}, Regs: [][]string{nil}, Budget: api.MaxBudget,
	})
}

func TestEachSort(t *testing.T) {
	thread := names.Thing{Sort: tree.Thread, Len: 1}
	behind := names.Thing{Sort: tree.Thread, Base: 1, Len: 1}
	one := func(name string, x names.Thing, objects, first, budget int) names.Table {
		return names.Table{Things: things{name: x, "t": behind}, Objects: objects, First: first, Threads: []string{"t"}, Regs: [][]string{nil}, Budget: budget}
	}
	checkTable(t, "thread t {}", names.Table{Things: things{"t": thread}, Objects: 1, Threads: []string{"t"}, Regs: [][]string{nil}, Budget: api.MaxBudget})
	for s, n := range map[string]complex128{"0": 0, "1": 1, "-1": -1, "3+4i": 3 + 4i, "-2i": -2i, "1048576": 1048576, "-1048576-1048576i": -1048576 - 1048576i, "1048576i": 1048576i} {
		for _, form := range []string{"cell x %s; thread t {}", "thread t {} cell x %s;"} {
			checkTable(t, fmt.Sprintf(form, s), one("x", names.Thing{Sort: tree.Cell, Len: 1, Num: n}, 2, 1, api.MaxBudget))
		}
	}
	for n := 1; n <= api.MaxArray; n++ {
		want := one("v", names.Thing{Sort: tree.Array, Len: n, Num: complex(float64(n), 0)}, n+1, n, api.MaxBudget)
		want.Things["t"] = names.Thing{Sort: tree.Thread, Base: n, Len: 1}
		checkTable(t, fmt.Sprintf("array v %d; thread t {}", n), want)
		checkTable(t, fmt.Sprintf("thread t {} array v %d;", n), want)
	}
	for _, n := range []int{0, 1, 2, 1000, api.MaxPart - 1, api.MaxPart} {
		want := one("s", names.Thing{Sort: tree.Sem, Len: 1, Num: complex(float64(n), 0)}, 2, 1, api.MaxBudget)
		checkTable(t, fmt.Sprintf("sem s %d; thread t {}", n), want)
		checkTable(t, fmt.Sprintf("thread t {} sem s %d;", n), want)
	}
	checkTable(t, "mutex m; thread t {}", one("m", names.Thing{Sort: tree.Mutex, Len: 1}, 2, 1, api.MaxBudget))
	checkTable(t, "thread t {} mutex m;", one("m", names.Thing{Sort: tree.Mutex, Len: 1}, 2, 1, api.MaxBudget))
	for n := 1; n <= api.MaxBudget; n++ {
		want := one("budget", names.Thing{Sort: tree.Budget, Num: complex(float64(n), 0)}, 1, 0, n)
		want.Things["t"] = thread
		checkTable(t, fmt.Sprintf("budget %d; thread t {}", n), want)
		checkTable(t, fmt.Sprintf("thread t {} budget %d;", n), want)
	}
}

// TestBudgetBehindObjects: it has no object, and its Base is 0, wherever it stands.
func TestBudgetBehindObjects(t *testing.T) {
	decls := []string{"cell x 0;", "array v 3;", "mutex m;", "sem s 1;", "thread t {}"}
	for i := range len(decls) + 1 {
		x := checkWell(t, strings.Join(slices.Insert(slices.Clone(decls), i, "budget 5;"), " "))
		if x.Things["budget"] != (names.Thing{Sort: tree.Budget, Num: 5}) || x.Budget != 5 || x.Objects != 7 || x.First != 6 || len(x.Things) != 6 {
			t.Errorf("P6.1: a budget at %d: %s", i, tableText(x))
		}
	}
}

// orders: all orders of a list.
func orders(l []string) [][]string {
	if len(l) == 0 {
		return [][]string{nil}
	}
	var out [][]string
	for i := range l {
		for _, rest := range orders(slices.Delete(slices.Clone(l), i, i+1)) {
			out = append(out, append([]string{l[i]}, rest...))
		}
	}
	return out
}

// TestObjectsInAnyOrder: sort by sort, whatever the order of the declarations; within one as they are declared, cells and arrays together.
func TestObjectsInAnyOrder(t *testing.T) {
	decls := map[string]string{"a": "cell a 7;", "v": "array v 3;", "m": "mutex m;", "s": "sem s 2;", "t": "thread t {}", "u": "thread u {}", "budget": "budget 9;"}
	lens := map[string]int{"a": 1, "v": 3, "m": 1, "s": 1, "t": 1, "u": 1}
	for _, order := range orders([]string{"a", "v", "m", "s", "t", "u", "budget"}) {
		var texts []string
		bases := map[string]int{}
		for _, name := range order {
			texts = append(texts, decls[name])
		}
		next := 0
		for _, group := range []string{"av", "m", "s", "tu"} {
			for _, name := range order {
				if strings.Contains(group, name) {
					bases[name] = next
					next += lens[name]
				}
			}
		}
		x := checkWell(t, strings.Join(texts, "\n"))
		for name := range decls {
			if y := x.Things[name]; y.Base != bases[name] || y.Len != lens[name] {
				t.Errorf("P6.1: %v: %s has %d objects from %d on, not %d from %d on", order, name, y.Len, y.Base, lens[name], bases[name])
			}
		}
		threads := slices.DeleteFunc(slices.Clone(order), func(name string) bool { return name != "t" && name != "u" })
		if x.First != 6 || x.Objects != 8 || !slices.Equal(x.Threads, threads) || len(x.Regs) != 2 {
			t.Errorf("P6.1: %v: %s", order, tableText(x))
		}
	}
}

func TestManyOfEachSort(t *testing.T) {
	x := checkWell(t, "thread c {p=1;} sem s2 1; array v2 2; mutex m2; cell x2 0; thread a {q=1;} sem s1 4; mutex m1; array v1 3; cell x1 5; budget 3; thread b {r=1;}")
	bases := map[string]int{"v2": 0, "x2": 2, "v1": 3, "x1": 6, "m2": 7, "m1": 8, "s2": 9, "s1": 10, "c": 11, "a": 12, "b": 13, "budget": 0}
	for name, base := range bases {
		if y, ok := x.Things[name]; !ok || y.Base != base {
			t.Errorf("P6.1: %s begins at %d, not at %d", name, y.Base, base)
		}
	}
	if len(x.Things) != len(bases) || x.Objects != 14 || x.First != 11 || !slices.Equal(x.Threads, []string{"c", "a", "b"}) || !slices.EqualFunc(x.Regs, [][]string{{"p"}, {"q"}, {"r"}}, slices.Equal) {
		t.Errorf("P6.1: %s", tableText(x))
	}
}

func TestTwice(t *testing.T) {
	decls := []string{"cell x 0;", "array x 1;", "mutex x;", "sem x 0;", "thread x {}"}
	for _, a := range decls {
		for _, b := range decls {
			checkMarked(t, a+"$"+b, api.ErrTwice)
			checkMarked(t, a+" $"+b+" thread t {}", api.ErrTwice)
			checkMarked(t, "thread t {}\n"+a+" mutex m; budget 2; $"+b+" sem s 1;", api.ErrTwice)
			checkMarked(t, a+" $"+b+" "+a, api.ErrTwice)
		}
	}
	for _, s := range []string{"budget 1;$budget 1;", "thread t {} budget 1; cell x 0; $budget 2;", "budget 5; $budget 5; thread t {}", "budget 1; $budget 2; budget 3;"} {
		checkMarked(t, s, api.ErrTwice)
	}
	// Names that are nearly alike are different ones; a budget has no name that another one could have.
	x := checkWell(t, "cell x 0; cell X 1; cell x1 2; cell _x 3; cell Budget 4; cell budgets 5; budget 6; thread t {}")
	if len(x.Things) != 8 || x.Objects != 7 || x.Budget != 6 {
		t.Errorf("P6.1: %s", tableText(x))
	}
}

func TestNumbersOutOfRange(t *testing.T) {
	for _, c := range []struct{ ahead, wrong, right string }{
		{"array v ", "0|-1|9|10|100|1048576|-8|1i|8i|-1i|1+1i|8+1i|8-1i|0+1i|2+2i|1-1048576i|-0", "1|2|3|7|8"},
		{"sem s ", "-1|-2|-1048576|1i|-1i|1+1i|0+1i|0-1i|1048576i|1048576+1i|1048576-1i|7-1i", "0|-0|1|7|100|101|1048575|1048576"},
		{"budget ", "0|-0|-1|101|102|1000|1048576|-100|1i|100i|1+1i|1-1i|100+1i|100-1i|50+50i", "1|2|9|50|99|100"},
	} {
		for _, n := range strings.Split(c.wrong, "|") {
			checkMarked(t, "$"+c.ahead+n+";", api.ErrRange)
			checkMarked(t, "thread t {} cell x 1i; $"+c.ahead+n+"; cell x 0;", api.ErrRange)
		}
		for _, n := range strings.Split(c.right, "|") {
			checkWell(t, c.ahead+n+"; thread t {}")
			checkMarked(t, c.ahead+n+"; thread t {} $"+c.ahead+n+";", api.ErrTwice)
		}
	}
}

// TestNumbersThatAreNone: no text makes them, but they are numbers that aren't whole.
func TestNumbersThatAreNone(t *testing.T) {
	nan, inf := math.NaN(), math.Inf(1)
	for _, sort := range []tree.Sort{tree.Array, tree.Sem, tree.Budget} {
		for _, n := range []complex128{1.5, 0.5, 7.9999, complex(nan, 0), complex(1, nan), complex(inf, 0), complex(-inf, 0), complex(1, inf), complex(2, 0.25), complex(nan, nan), 1e300, -1e300} {
			p := tree.Program{Decls: []tree.Decl{{Sort: sort, Name: "x", Num: n, At: 3}, {Sort: tree.Thread, Name: "t"}}}
			if sort == tree.Budget {
				p.Decls[0].Name = ""
			}
			checkAnswer(t, p, names.Table{}, 3, api.ErrRange)
		}
	}
}

// many: n pieces, each with its number in it.
func many(n int, form string) string {
	var out strings.Builder
	for i := range n {
		fmt.Fprintf(&out, form, i)
	}
	return out.String()
}

func TestAsManyAsMayBe(t *testing.T) {
	for _, c := range []struct{ well, more string }{
		{many(api.MaxThreads, "thread t%d {}"), "thread u {}"},
		{"cell x 0;" + many(api.MaxThreads, "thread t%d {}") + "budget 1; mutex m;", "thread u { lock q; }"},
		{"thread t {}" + many(api.MaxNames-1, "cell x%d 0;"), "cell y 0;"},
		{"thread t {}" + many(api.MaxNames-1, "mutex x%d;"), "sem y 0;"},
		{"thread t {}" + many(api.MaxNames-1, "sem x%d 3;"), "mutex y;"},
		{"thread t {}" + many(api.MaxNames-1, "cell x%d 0;"), "array y 1;"},
		{"thread t {}" + many(api.MaxNames-1, "array x%d 1;"), "thread y {}"},
		{"thread t {}" + many(api.MaxNames-1, "array x%d 1;"), "budget 7;"},
		{"budget 7; thread t {}" + many(api.MaxNames-2, "array x%d 1;"), "cell y 0;"},
		{"thread t {}" + many(api.MaxNames-2, "array x%d 1;") + "budget 7;", "mutex y;"},
		{"thread t {}" + many(7, "array x%d 8;") + "array y 3;", "array z 1;"},
		{"thread t {}" + many(7, "array x%d 8;") + "array y 3; budget 4;", "cell z 0;"},
		{"thread t {}" + many(7, "array x%d 8;") + "array y 2; mutex m;", "mutex z;"},
		{many(7, "array x%d 8;") + "cell y 2; sem s 1; cell w 0; thread t {}", "sem z 0;"},
		{many(7, "array x%d 8;") + many(4, "thread t%d {}"), "thread z {}"},
		{"thread t {}" + many(7, "array x%d 8;"), "array z 4;"},
		{"thread t {}" + many(6, "array x%d 8;") + "array y 4;", "array z 8;"},
		{many(6, "array x%d 8;") + many(6, "thread t%d {}") + many(6, "sem s%d 1;"), "mutex z;"},
	} {
		checkWell(t, c.well)
		checkMarked(t, c.well+"$"+c.more, api.ErrSize)
		checkMarked(t, c.well+" $"+c.more+"cell t 0; array k 0;", api.ErrSize)
	}
	if x := checkWell(t, "thread t {}"+many(7, "array x%d 8;")+"array y 3;"); x.Objects != api.MaxObjects || x.First != api.MaxObjects-1 {
		t.Errorf("P6.1: %d objects, the first thread's is %d", x.Objects, x.First)
	}
	// A budget has no object: as many as may be are none too many with it.
	checkWell(t, "thread t {}"+many(7, "array x%d 8;")+"array y 3; budget 4;")
}

func TestNoThread(t *testing.T) {
	for _, s := range []string{"", "cell x 0;", " \n mutex m;", "budget 3;", "array v 8; sem s 1; cell thread1 0;", many(api.MaxNames, "cell x%d 0;")} {
		checkAnswer(t, read(t, s), names.Table{}, 0, api.ErrNone)
	}
	checkMarked(t, "cell x 0; $array x 1;", api.ErrTwice)
	checkMarked(t, "cell x 0; $array y 9;", api.ErrRange)
	checkMarked(t, many(api.MaxNames, "cell x%d 0;")+"$mutex m;", api.ErrSize)
}

// about: each kind of statement that has a name; the sort that it must be of.
var about = []struct {
	text string
	sort string
}{
	{"r = load %s;", "cell"}, {"store %s, 1;", "cell"}, {"r = add %s, 1;", "cell"}, {"r = swap %s, 1;", "cell"}, {"r = cas %s, 1, 2;", "cell"},
	{"r = load %s[0];", "array"}, {"store %s[0], 1;", "array"}, {"r = add %s[0], 1;", "array"}, {"r = swap %s[0], 1;", "array"}, {"r = cas %s[0], 1, 2;", "array"},
	{"lock %s;", "mutex"}, {"unlock %s;", "mutex"}, {"r = try %s;", "mutex"}, {"wait %s;", "sem"}, {"post %s;", "sem"}, {"spawn %s;", "thread"}, {"join %s;", "thread"},
}

func TestWhatStatementsAreAbout(t *testing.T) {
	decls := map[string]string{"cell": "cell n 0;", "array": "array n 3;", "mutex": "mutex n;", "sem": "sem n 1;", "thread": "thread n {}"}
	for _, a := range about {
		stmt := fmt.Sprintf(a.text, "n")
		places := []string{"thread t {%s}", "thread t { q = 1; %s}", "thread t { if 1 {%s} }", "thread t { if 1 {} else { q = 2; %s } }", "thread t { while 1 { while 0 {} %s } }", "thread u { q = 1; } thread t { if q { q = 1; } %s }"}
		for _, place := range places {
			ahead, behind, _ := strings.Cut(place, "%s")
			checkMarked(t, "cell m 0; "+ahead+"$"+stmt+behind, api.ErrNone)
			for sort, decl := range decls {
				if sort == a.sort {
					checkWell(t, decl+ahead+stmt+behind)
					checkWell(t, ahead+stmt+behind+decl)
					continue
				}
				checkMarked(t, decl+ahead+"$"+stmt+behind, api.ErrKind)
				checkMarked(t, ahead+"$"+stmt+behind+decl, api.ErrKind)
			}
		}
	}
}

// TestThreadsAboutThreads: they may be declared ahead, behind, or be the one itself.
func TestThreadsAboutThreads(t *testing.T) {
	checkWell(t, "thread a { spawn a; spawn b; join b; join a; } thread b { spawn a; join b; }")
	checkMarked(t, "thread a { spawn b; $spawn c; } thread b {}", api.ErrNone)
	checkMarked(t, "thread a { $spawn budget1; } thread b {} budget 1;", api.ErrNone)
	// A register is no thing, nor is another thread's.
	checkMarked(t, "thread a { r = 1; $spawn r; }", api.ErrNone)
	checkMarked(t, "thread a { r = 1; $store r, 1; }", api.ErrNone)
	checkMarked(t, "thread a { r = 1; } thread b { $lock r; }", api.ErrNone)
}

func TestRegistersInOrder(t *testing.T) {
	const decls = "cell x 0; array v 2; mutex m; sem s 1; "
	for _, c := range []struct {
		body string
		want string
	}{
		{"", ""}, {"lock m; wait s; post s; unlock m; spawn t; join t; store x, 1; assert 1; assume 2i; if 0 {} while 0 {}", ""},
		{"a = 1;", "a"}, {"a = b;", "b a"}, {"a = a;", "a"}, {"a = b + c;", "b c a"}, {"a = c * b - a;", "c b a"}, {"a = -b;", "b a"}, {"a = ~(!b == #c) < d;", "b c d a"}, {"a = b + b * b;", "b a"},
		{"a = (p * (q - r)) + ((s1 < t1) * u1);", "p q r s1 t1 u1 a"},
		{"a = load x;", "a"}, {"a = load v[b];", "b a"}, {"a = load v[c + b];", "c b a"},
		{"store x, a;", "a"}, {"store v[a], b;", "a b"}, {"store v[b], a;", "b a"}, {"store v[a + b], c + b;", "a b c"},
		{"a = add x, b;", "b a"}, {"a = add v[b], c;", "b c a"}, {"a = swap x, b;", "b a"}, {"a = swap v[c], b;", "c b a"},
		{"a = cas x, b, c;", "b c a"}, {"a = cas x, c, b;", "c b a"}, {"a = cas v[d], c, b;", "d c b a"}, {"a = cas v[a], b, c;", "a b c"},
		{"a = try m;", "a"}, {"assert a < b;", "a b"}, {"assume b - a;", "b a"},
		{"a = 1; b = 2; c = 3;", "a b c"}, {"c = 1; b = 2; a = 3; b = c;", "c b a"}, {"a = b; c = a;", "b a c"},
		{"if a { b = 1; } else { c = 1; }", "a b c"}, {"if a { c = 1; } else { b = 1; } d = 1;", "a c b d"}, {"if a {} else { b = c; }", "a c b"},
		{"d = 1; if a + d { b = 1; if c { e = 1; } else { f = 1; } g = 1; } h = 1;", "d a b c e f g h"},
		{"while a { b = c; while d { e = 1; } } f = 1;", "a c b d e f"}, {"while 1 { if 1 { a = 1; } } b = 1;", "a b"},
	} {
		checkRegs(t, decls+"thread t {"+c.body+"}", strings.Fields(c.want))
		checkRegs(t, "thread u { z = y; } "+decls+"thread t {"+c.body+"} thread w { if q { a = 1; } p = a; }", []string{"y", "z"}, strings.Fields(c.want), []string{"q", "a", "p"})
	}
	// Names that trees' operations have, and those of kinds with other letters, are registers' names, too.
	checkRegs(t, "thread t { reg = neg; conj = not + norm; Load = Set; }", []string{"neg", "reg", "not", "norm", "conj", "Set", "Load"})
}

// TestEachThreadItsOwn: threads' registers are counted anew.
func TestEachThreadItsOwn(t *testing.T) {
	var want [][]string
	for i := range api.MaxThreads {
		l := strings.Fields(many(api.MaxRegs, fmt.Sprintf("r%d_%%d ", i)))
		want = append(want, l)
	}
	var out strings.Builder
	for i, l := range want {
		fmt.Fprintf(&out, "thread t%d { %s = 1; }", i, strings.Join(l, " = 1; "))
	}
	checkRegs(t, out.String(), want...)
	checkRegs(t, "thread a { p = 1; } thread b {} thread c { p = q; }", []string{"p"}, nil, []string{"q", "p"})
}

func TestRegistersThatAreDeclared(t *testing.T) {
	stmts := []string{"n = 1;", "a = n;", "a = b - n;", "a = -(n + b);", "n = n;", "n = load x;", "a = load v[n];", "store x, n;", "store v[n], 1;", "store v[0], n;", "n = add x, 1;", "a = add v[n], 1;", "a = swap x, n;", "n = swap x, 1;", "a = cas x, n, 1;", "a = cas x, 1, n;", "a = cas v[n], 1, 2;", "n = cas x, 1, 2;", "n = try m;", "assert n;", "assume !n;", "if n {}", "if a < n { a = 1; } else {}", "while n {}"}
	decls := []string{"cell n 0;", "array n 2;", "mutex n;", "sem n 1;", "thread n {}"}
	const all = "cell x 0; array v 2; mutex m;"
	for _, s := range stmts {
		checkWell(t, all+"thread t {"+s+"}")
		for _, d := range decls {
			checkMarked(t, all+d+"thread t {$"+s+"}", api.ErrKind)
			checkMarked(t, all+"thread u { q = 1; } thread t { a = 2; $"+s+" spawn q; }"+d, api.ErrKind)
			checkMarked(t, all+"thread t { if a { while b { a = 2; $"+s+"} } }"+d, api.ErrKind)
			checkMarked(t, all+"thread t { if a {} else {$"+s+"} }"+d, api.ErrKind)
		}
	}
	checkMarked(t, "thread t {$t = 1;}", api.ErrKind)
	checkMarked(t, "thread t {a = 1; $a = t;}", api.ErrKind)
	checkWell(t, "cell n 0; thread t { N = n1; }")
}

func TestAsManyRegistersAsMayBe(t *testing.T) {
	const all = "cell x 0; array v 2; mutex m; sem s 1;"
	full := many(api.MaxRegs, "r%d = 1;")
	for _, s := range []string{"q = 1;", "r0 = q;", "r0 = r1 + q;", "r0 = load v[q];", "q = load x;", "store x, q;", "store v[q], r1;", "store v[r1], q;", "q = add x, r0;", "q = swap x, 1;", "r1 = cas x, r0, q;", "q = cas x, 1, 2;", "q = try m;", "assert q;", "assume r1 == q;", "if q {}", "while q {}", "if r0 - q { r1 = 1; }", "q = p;"} {
		checkMarked(t, all+"thread t {"+full+"$"+s+"}", api.ErrSize)
		checkMarked(t, all+"thread t {"+full+"if r0 {$"+s+"} }", api.ErrSize)
		checkMarked(t, all+"thread t { if r0 {"+full+"} else { r1 = r2; $"+s+"} lock q; }", api.ErrSize)
		checkMarked(t, all+"thread u {"+full+" } thread t { while 1 {"+full+"} $"+s+" } thread w { q = 1; }", api.ErrSize)
		checkWell(t, all+"thread t {"+many(api.MaxRegs-2, "r%d = 1;")+s+"}")
	}
	for _, s := range []string{"r7 = r0;", "r0 = r1 * r2 + r3;", "if r7 { r6 = r5; } else { r4 = 1; }", "r1 = cas v[r2], r3, r4;", "store x, 1;", "wait s; post s;", "spawn t;"} {
		checkWell(t, all+"thread t {"+full+s+full+"}")
	}
	// One statement with all, and with one more.
	checkWell(t, "thread t { a = b + c + d + e + f + g + h; }")
	checkMarked(t, "thread t { $a = b + c + d + e + f + g + h + i; }", api.ErrSize)
	checkMarked(t, "thread t { $assert b + c + d + e + f + g + h + i + a; }", api.ErrSize)
	checkMarked(t, "thread t { while b + c + d + e + f + g + h + i { $a = 1; } }", api.ErrSize)
}

func TestWhichErrorIsFirst(t *testing.T) {
	sixty := many(7, "array x%d 8;") + "cell y0 0; cell y1 0; cell y2 0; thread y3 {}"
	forty := "thread a {}" + many(api.MaxNames-1, "cell x%d 0;")
	full := many(api.MaxRegs, "r%d = 1;")
	for _, c := range []struct {
		s string
		e api.Errno
	}{
		// Of one declaration: twice, then its number, then how many there are.
		{"cell x 0; $array x 9;", api.ErrTwice}, {"budget 1; $budget 0;", api.ErrTwice}, {"budget 1; $budget 101;", api.ErrTwice}, {"mutex s; $sem s -1;", api.ErrTwice},
		{sixty + "$array x0 9;", api.ErrTwice}, {sixty + "$cell y0 9;", api.ErrTwice}, {forty + "$mutex a;", api.ErrTwice}, {many(6, "thread t%d {}") + "$thread t0 {}", api.ErrTwice}, {"budget 3;" + many(api.MaxNames-1, "cell x%d 0;") + "$budget 3;", api.ErrTwice},
		{sixty + "$array z 9;", api.ErrRange}, {sixty + "$array z 0;", api.ErrRange}, {forty + "$sem z -1;", api.ErrRange}, {forty + "$budget 0;", api.ErrRange}, {sixty + "$sem z 1i;", api.ErrRange},
		{sixty + "$array z 8;", api.ErrSize}, {sixty + "$sem z 1;", api.ErrSize}, {forty + "$budget 1;", api.ErrSize},
		// Declaration by declaration.
		{"$array v 0; cell v 1; cell v 2;", api.ErrRange}, {"cell v 1; $cell v 2; array w 0;", api.ErrTwice}, {"sem v 1; $budget 0; cell v 2;", api.ErrRange},
		{many(6, "thread t%d {}") + "$thread t6 {} thread t6 {}", api.ErrSize}, {many(6, "thread t%d {}") + "$cell t5 0; thread t6 {}", api.ErrTwice}, {sixty + "budget 7; $cell z 0; budget 8;", api.ErrSize},
		// All declarations ahead of that there is no thread, and of all statements.
		{"mutex a; $mutex a;", api.ErrTwice}, {"$sem a -1;", api.ErrRange},
		{"thread t { lock q; t = 1; } $array v 9;", api.ErrRange}, {"thread t { spawn q; } cell x 0; $thread t {}", api.ErrTwice}, {"thread t { lock q; }" + many(5, "thread t%d {}") + "$thread u {}", api.ErrSize}, {"thread t {" + full + "q = 1; } budget 1; $budget 1;", api.ErrTwice},
		// Of one statement: its name, then what it is about, then its registers, from the left, the one that it sets last.
		{"cell x 0; thread t { $x = load q; }", api.ErrNone}, {"cell x 0; thread t { $store q, x; }", api.ErrNone}, {"thread t {" + full + "$q = load p; }", api.ErrNone}, {"cell x 0; thread t { $store q[x], 1; }", api.ErrNone},
		{"mutex x; thread t {" + full + "$q = load x; }", api.ErrKind}, {"mutex x; thread t {" + full + "$store x, q; }", api.ErrKind}, {"cell x 0; thread t {" + full + "$store x[q], 1; }", api.ErrKind},
		{"cell x 0; thread t {" + full + "$q = x; }", api.ErrKind}, {"cell x 0; thread t {" + full + "$x = q; }", api.ErrSize}, {"cell x 0; thread t {" + full + "$r0 = x + q; }", api.ErrKind}, {"cell x 0; thread t {" + full + "$r0 = q + x; }", api.ErrSize}, {"cell x 0; thread t {" + full + "$x = 1; q = 2; }", api.ErrKind},
		{"cell x 0; array v 1; thread t {" + full + "$x = load v[q]; }", api.ErrSize}, {"cell x 0; array v 1; thread t {" + full + "$q = load v[x]; }", api.ErrKind}, {"cell x 0; thread t {" + full + "$x = cas x, r0, q; }", api.ErrSize}, {"cell x 0; thread t {" + full + "$r0 = cas x, x, q; }", api.ErrKind}, {"cell x 0; array v 1; thread t {" + full + "$r0 = cas v[q], x, r0; }", api.ErrSize},
		// A statement ahead of its bodies, the first body ahead of the second, both ahead of the next statement.
		{"cell x 0; thread t { $if x { lock q; } }", api.ErrKind}, {"cell x 0; thread t { $while 1 + x { spawn q; } }", api.ErrKind}, {"thread t {" + full + "$if q { lock m; } }", api.ErrSize},
		{"cell x 0; thread t { if 1 { $lock q; } else { x = 1; } x = 1; }", api.ErrNone}, {"cell x 0; thread t { if 1 { } else { $x = 1; } lock q; }", api.ErrKind}, {"cell x 0; thread t { if 1 { $x = 1; } else { lock q; } }", api.ErrKind}, {"cell x 0; thread t { while 1 { if 1 { r = 1; } else { $x = 1; } lock q; } }", api.ErrKind}, {"cell x 0; thread t { while 1 { } $lock q; x = 1; }", api.ErrNone}, {"cell x 0; thread t { while 1 { r = 1; $lock q; } x = 1; }", api.ErrNone},
		// Thread by thread.
		{"thread t { $lock q; } thread u { t = 1; }", api.ErrNone}, {"thread t { } thread u { $t = 1; } thread v { lock q; }", api.ErrKind}, {"thread v { $t = 1; } cell x 0; thread t { x = 1; lock q; }", api.ErrKind}, {"thread u {" + full + "} thread t { $lock q; } thread v {" + full + "q = 1; }", api.ErrNone},
	} {
		checkMarked(t, c.s, c.e)
	}
}

// placed: the program, with all that it holds at one place.
func placed(p tree.Program, place int) tree.Program {
	for i := range p.Decls {
		p.Decls[i].At = place
		setPlaces(p.Decls[i].Body, place)
	}
	return p
}

func setPlaces(body []tree.Stmt, place int) {
	for i := range body {
		body[i].At = place
		setPlaces(body[i].Body, place)
		setPlaces(body[i].Else, place)
	}
}

// TestPlacesAreAnyNumbers: they are told as they stand in the tree, and nothing else hangs on them.
func TestPlacesAreAnyNumbers(t *testing.T) {
	for _, place := range []int{0, -1, 7, math.MaxInt, math.MinInt} {
		for s, e := range map[string]api.Errno{"cell x 0; mutex x;": api.ErrTwice, "array v 9;": api.ErrRange, many(7, "thread t%d {}"): api.ErrSize, "thread t { if 1 { while 1 { lock q; } } }": api.ErrNone, "thread t { t = 1; }": api.ErrKind, "thread t {" + many(9, "r%d=1;") + "}": api.ErrSize} {
			checkAnswer(t, placed(read(t, s), place), names.Table{}, place, e)
		}
		checkAnswer(t, placed(read(t, everything), place), checkWell(t, everything), 0, api.OK)
		checkAnswer(t, placed(read(t, "cell x 0; mutex m;"), place), names.Table{}, 0, api.ErrNone)
	}
}

const everything = `cell x -1+2i; array v 3; mutex m; sem s 1; budget 20;
thread t {
	a = 1; b = load x; b = load v[a]; store x, b; store v[a + 1], -b; c = add x, 2i; c = swap v[0], c; d = cas x, a, b; d = cas v[2], 1, d;
	lock m; e = try m; unlock m; wait s; post s; spawn u; join u; assert a == b; assume (a < ~b) * #c;
	if a { f = 1; while f { f = f - 1; } } else { g = !f; lock m; }
}
thread u { z = y; if z { w = z; } }
`

// deepTree: as deep as a text may be, in blocks and in expressions.
func deepTree() string {
	sum := "a" + strings.Repeat(" - b", api.MaxDeep-1)
	return "thread t {" + strings.Repeat("if "+sum+" {} else {", api.MaxDeep-1) + "r = " + sum + ";" + strings.Repeat("}", api.MaxDeep)
}

func TestDeepTrees(t *testing.T) {
	checkRegs(t, deepTree(), []string{"a", "b", "r"})
	checkMarked(t, strings.Replace(deepTree(), "r =", "$t =", 1), api.ErrKind)
	p := read(t, strings.Replace(deepTree(), "a - b", "t - b", 1))
	checkAnswer(t, p, names.Table{}, 10, api.ErrKind)
}

// TestLongTrees: as much as a text may hold.
func TestLongTrees(t *testing.T) {
	n := (api.MaxText - 20) / len("r=1;")
	x := checkWell(t, "thread t {"+strings.Repeat("r=1;", n)+"}")
	if !slices.EqualFunc(x.Regs, [][]string{{"r"}}, slices.Equal) {
		t.Errorf("P6.1: registers %q", x.Regs)
	}
	checkMarked(t, "thread t {"+strings.Repeat("r=1;", n)+"$t=1;}", api.ErrKind)
	long := strings.Repeat("n", api.MaxText/3)
	x = checkWell(t, "thread "+long+" {"+long+"x=1;}")
	if x.Threads[0] != long || x.Regs[0][0] != long+"x" || x.Things[long].Len != 1 {
		t.Error("P6.1: a long name")
	}
	checkMarked(t, "cell x 0;"+strings.Repeat(" ", 100)+"$cell x 0;"+strings.Repeat("cell x 0;", 1000), api.ErrTwice)
}

// treeText: all that a tree holds, its lists' spare room included.
func treeText(p tree.Program) string {
	return fmt.Sprintf("%#v", withRoom(reflect.ValueOf(p)).Interface())
}

// withRoom: a copy in which lists are as long as their room.
func withRoom(v reflect.Value) reflect.Value {
	out := reflect.New(v.Type()).Elem()
	switch v.Kind() {
	case reflect.Struct:
		for i := range v.NumField() {
			out.Field(i).Set(withRoom(v.Field(i)))
		}
	case reflect.Slice:
		if v.IsNil() {
			return out
		}
		v = v.Slice(0, v.Cap())
		out.Set(reflect.MakeSlice(v.Type(), v.Len(), v.Len()))
		for i := range v.Len() {
			out.Index(i).Set(withRoom(v.Index(i)))
		}
	default:
		out.Set(v)
	}
	return out
}

func TestTreeIsNotChanged(t *testing.T) {
	for _, s := range []string{everything, deepTree(), "cell x 0;", "", "cell x 0; mutex x;", "array v 9;", "thread t { t = 1; }", "thread t { lock q; }", "thread t {" + many(9, "r%d=1;") + "}"} {
		p := read(t, s)
		p.Decls = append(p.Decls, tree.Decl{Name: "spare"}, tree.Decl{Name: "room"})[:len(p.Decls)]
		ahead := treeText(p)
		for range 2 {
			names.Check(p)
			if treeText(p) != ahead {
				t.Fatalf("R5: %.200q: the tree was changed", s)
			}
		}
	}
}

// room is a text's memory.
type room struct{ from, to uintptr }

func roomOf(s string) room {
	from := uintptr(unsafe.Pointer(unsafe.StringData(s)))
	return room{from, from + uintptr(len(s))}
}

func textsOf(x names.Table) []string {
	out := slices.Collect(maps.Keys(x.Things))
	out = append(out, x.Threads...)
	return append(out, slices.Concat(x.Regs...)...)
}

// texts: each one that stands in a tree.
func texts(v reflect.Value, found func(string)) {
	switch v.Kind() {
	case reflect.Struct:
		for i := range v.NumField() {
			texts(v.Field(i), found)
		}
	case reflect.Slice:
		for i := range v.Len() {
			texts(v.Index(i), found)
		}
	case reflect.String:
		found(v.String())
	}
}

// TestTreeIsNotKept: not its lists, and not its texts.
func TestTreeIsNotKept(t *testing.T) {
	p := read(t, everything)
	x, _, _ := names.Check(p)
	ahead := tableText(x)
	texts(reflect.ValueOf(p), func(s string) {
		for _, name := range textsOf(x) {
			if a, b := roomOf(s), roomOf(name); name != "budget" && a.from < b.to && b.from < a.to {
				t.Errorf("R5: %q of the table is a text of the tree", name)
			}
		}
	})
	wipe(p.Decls)
	if tableText(x) != ahead {
		t.Error("R5: the tree was kept")
	}
}

func wipe(decls []tree.Decl) {
	for i := range decls {
		wipeBody(decls[i].Body)
		decls[i] = tree.Decl{Name: "gone"}
	}
}

func wipeBody(body []tree.Stmt) {
	for i := range body {
		for j := range body[i].Exprs {
			body[i].Exprs[j] = tree.Expr{Op: "reg", Name: "gone"}
		}
		wipeBody(body[i].Body)
		wipeBody(body[i].Else)
		body[i] = tree.Stmt{Reg: "gone", Name: "gone"}
	}
}

// TestAnswersAreTheCallers: what is done with one answer is seen in no other, nor in a list beside it.
func TestAnswersAreTheCallers(t *testing.T) {
	p := read(t, "thread a { p = 1; q = 2; r = 3; } thread b { s = 1; } thread c { t = 1; u = 2; } cell x 0;")
	first, _, _ := names.Check(p)
	want := tableText(first)
	second, _, _ := names.Check(p)
	for i := range second.Regs {
		l := append(second.Regs[i], "new")
		for j := range cap(l) {
			l[:cap(l)][j] = fmt.Sprint("changed", i)
		}
	}
	for i := range second.Regs {
		for _, name := range second.Regs[i] {
			if name != fmt.Sprint("changed", i) && strings.HasPrefix(name, "changed") {
				t.Errorf("R5: a list of registers shares memory with another one")
			}
		}
	}
	clear(second.Things)
	clear(second.Threads)
	clear(second.Regs)
	third, _, _ := names.Check(p)
	if tableText(first) != want || tableText(third) != want {
		t.Error("R5: answers share memory")
	}
}

func TestAlikeEachTime(t *testing.T) {
	p := read(t, everything)
	x, _, _ := names.Check(p)
	want := tableText(x)
	wrongs := []string{"", "cell x 0; cell x 0;", "array v 0;", many(7, "thread t%d {}"), "thread t { lock m; }", "thread t { a = 1; b = t; }", "thread t {" + many(9, "r%d=1;") + "}", many(41, "mutex x%d;")}
	for range 3 {
		for _, s := range wrongs {
			q := read(t, s)
			_, at, e := names.Check(q)
			if e == api.OK {
				t.Errorf("P6.1: no error of %.40q", s)
			}
			checkAnswer(t, q, names.Table{}, at, e)
			got, gotAt, gotE := names.Check(p)
			if gotE != api.OK || gotAt != 0 || tableText(got) != want {
				t.Errorf("R6: another answer behind %.40q", s)
			}
		}
	}
	if tableText(x) != want {
		t.Error("R5: an answer was changed by later calls")
	}
}

// TestEmptyLists: nil ones, and such as have no items, mean the same.
func TestEmptyLists(t *testing.T) {
	a := tree.Program{Decls: []tree.Decl{{Sort: tree.Thread, Name: "t", Body: []tree.Stmt{{Kind: tree.If, Exprs: []tree.Expr{{Num: 1}}}}}, {Sort: tree.Thread, Name: "u"}}}
	b := tree.Program{Decls: []tree.Decl{{Sort: tree.Thread, Name: "t", Body: []tree.Stmt{{Kind: tree.If, Exprs: []tree.Expr{{Num: 1, Parts: []tree.Expr{}}}, Body: []tree.Stmt{}, Else: []tree.Stmt{}}}}, {Sort: tree.Thread, Name: "u", Body: []tree.Stmt{}}}}
	x, _, e := names.Check(a)
	if e != api.OK || len(x.Regs) != 2 {
		t.Errorf("P6.1: %s", tableText(x))
	}
	checkAnswer(t, b, x, 0, api.OK)
	checkAnswer(t, tree.Program{Decls: []tree.Decl{}}, names.Table{}, 0, api.ErrNone)
}
