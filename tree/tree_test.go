package tree_test

import (
	"fmt"
	"math"
	"reflect"
	"runtime"
	"runtime/debug"
	"strings"
	"testing"
	"unsafe"

	"braidwork/api"
	"braidwork/tree"
)

var (
	noKinds = []tree.Kind{tree.Kinds, tree.Kinds + 1, 100, 256, 1 << 32, 1<<32 + tree.Cas, math.MaxInt, -1, -2, -17, -256, -1 << 32, math.MinInt, math.MinInt + 5}
	noSorts = []tree.Sort{tree.Sorts, tree.Sorts + 1, 100, 256, 1 << 32, 1<<32 + tree.Sem, math.MaxInt, -1, -2, -6, -256, -1 << 32, math.MinInt, math.MinInt + 3}
	oneOps  = map[string]string{"neg": "-", "conj": "~", "not": "!", "norm": "#"}
	twoOps  = []string{"+", "-", "*", "==", "!=", "<"}
)

func num(c complex128) tree.Expr {
	return tree.Expr{Num: c}
}

func reg(name string) tree.Expr {
	return tree.Expr{Op: "reg", Name: name}
}

func op(op string, parts ...tree.Expr) tree.Expr {
	return tree.Expr{Op: op, Parts: parts}
}

func thread(body ...tree.Stmt) tree.Program {
	return tree.Program{Decls: []tree.Decl{{Sort: tree.Thread, Name: "t", Body: body}}}
}

func TestNumbersOfKindsAndSorts(t *testing.T) {
	kinds := []tree.Kind{tree.Set, tree.Load, tree.Store, tree.Add, tree.Swap, tree.Cas, tree.Lock, tree.Unlock, tree.Try, tree.Wait, tree.Post, tree.Spawn, tree.Join, tree.Assert, tree.Assume, tree.If, tree.While, tree.Kinds}
	for i, k := range kinds {
		if int(k) != i {
			t.Errorf("types: kind %d is %d", i, k)
		}
	}
	sorts := []tree.Sort{tree.Cell, tree.Array, tree.Mutex, tree.Sem, tree.Budget, tree.Thread, tree.Sorts}
	for i, s := range sorts {
		if int(s) != i {
			t.Errorf("types: sort %d is %d", i, s)
		}
	}
}

func checkKind(t *testing.T, k tree.Kind, word string, gives bool, takes int, named, celled bool) {
	t.Helper()
	if k.Word() != word || k.Gives() != gives || k.Takes() != takes || k.Named() != named || k.Celled() != celled {
		t.Errorf("P4.1: kind %d: %q %v %d %v %v, not %q %v %d %v %v", k, k.Word(), k.Gives(), k.Takes(), k.Named(), k.Celled(), word, gives, takes, named, celled)
	}
}

func TestKinds(t *testing.T) {
	const yes, no = true, false
	checkKind(t, tree.Set, "", yes, 1, no, no)
	checkKind(t, tree.Load, "load", yes, 0, yes, yes)
	checkKind(t, tree.Store, "store", no, 1, yes, yes)
	checkKind(t, tree.Add, "add", yes, 1, yes, yes)
	checkKind(t, tree.Swap, "swap", yes, 1, yes, yes)
	checkKind(t, tree.Cas, "cas", yes, 2, yes, yes)
	checkKind(t, tree.Lock, "lock", no, 0, yes, no)
	checkKind(t, tree.Unlock, "unlock", no, 0, yes, no)
	checkKind(t, tree.Try, "try", yes, 0, yes, no)
	checkKind(t, tree.Wait, "wait", no, 0, yes, no)
	checkKind(t, tree.Post, "post", no, 0, yes, no)
	checkKind(t, tree.Spawn, "spawn", no, 0, yes, no)
	checkKind(t, tree.Join, "join", no, 0, yes, no)
	checkKind(t, tree.Assert, "assert", no, 1, no, no)
	checkKind(t, tree.Assume, "assume", no, 1, no, no)
	checkKind(t, tree.If, "if", no, 1, no, no)
	checkKind(t, tree.While, "while", no, 1, no, no)
	for _, k := range noKinds {
		checkKind(t, k, "", no, 0, no, no)
	}
}

func TestSorts(t *testing.T) {
	for i, word := range []string{"cell", "array", "mutex", "sem", "budget", "thread"} {
		if tree.Sort(i).Word() != word {
			t.Errorf("P4.1: sort %d: %q, not %q", i, tree.Sort(i).Word(), word)
		}
	}
	for _, s := range noSorts {
		if s.Word() != "" {
			t.Errorf("P4.1: no sort, %d: %q", s, s.Word())
		}
	}
}

func checkExpr(t *testing.T, e tree.Expr, depth int, text string) {
	t.Helper()
	if e.Depth() != depth {
		t.Errorf("P4.2: Depth of %s: %d, not %d", text, e.Depth(), depth)
	}
	if e.Text() != text {
		t.Errorf("P4.2: Text: %q, not %q", e.Text(), text)
	}
}

func TestExample(t *testing.T) {
	checkExpr(t, op("+", reg("a"), op("*", reg("b"), num(2))), 3, "(a + (b * 2))")
}

func TestExpressions(t *testing.T) {
	checkExpr(t, tree.Expr{}, 1, "0")
	checkExpr(t, num(7), 1, "7")
	checkExpr(t, reg("a"), 1, "a")
	checkExpr(t, reg("A_long_name9"), 1, "A_long_name9")
	checkExpr(t, reg("reg"), 1, "reg")
	for o, sign := range oneOps {
		checkExpr(t, op(o, num(3)), 2, "("+sign+"3)")
		checkExpr(t, op(o, reg(o)), 2, "("+sign+o+")")
		checkExpr(t, op(o, op(o, num(3i))), 3, "("+sign+"("+sign+"3i))")
		checkExpr(t, op(o, op("-", num(1), reg("b"))), 3, "("+sign+"(1 - b))")
		checkExpr(t, op("-", op(o, num(1)), op(o, reg("b"))), 3, "(("+sign+"1) - ("+sign+"b))")
	}
	for _, o := range twoOps {
		checkExpr(t, op(o, num(1), num(2)), 2, "(1 "+o+" 2)")
		checkExpr(t, op(o, reg("b"), reg("a")), 2, "(b "+o+" a)")
		checkExpr(t, op(o, op(o, reg("a"), reg("b")), reg("c")), 3, "((a "+o+" b) "+o+" c)")
		checkExpr(t, op(o, reg("a"), op(o, reg("b"), reg("c"))), 3, "(a "+o+" (b "+o+" c))")
	}
}

func TestPartsUnlikeDeep(t *testing.T) {
	deep := op("not", op("norm", op("conj", reg("a"))))
	flat := op("neg", num(1))
	checkExpr(t, op("+", deep, flat), 5, "((!(#(~a))) + (-1))")
	checkExpr(t, op("+", flat, deep), 5, "((-1) + (!(#(~a))))")
	checkExpr(t, op("+", flat, num(2)), 3, "((-1) + 2)")
	checkExpr(t, op("+", num(2), flat), 3, "(2 + (-1))")
	checkExpr(t, op("<", op("+", flat, deep), op("*", num(2), flat)), 6, "(((-1) + (!(#(~a)))) < (2 * (-1)))")
	checkExpr(t, op("<", op("*", num(2), flat), op("+", deep, flat)), 6, "((2 * (-1)) < ((!(#(~a))) + (-1)))")
}

func TestNumbers(t *testing.T) {
	minus := math.Copysign(0, -1)
	for _, c := range []struct {
		num  complex128
		text string
	}{
		{0, "0"}, {complex(minus, 0), "0"}, {complex(0, minus), "0"}, {complex(minus, minus), "0"},
		{1, "1"}, {10, "10"}, {1i, "1i"}, {2i, "2i"}, {10i, "10i"}, {complex(minus, 2), "2i"},
		{api.MaxPart, "1048576"}, {complex(0, api.MaxPart), "1048576i"},
		{-1, "0"}, {-1i, "0"}, {-2i, "0"}, {3 + 4i, "0"}, {3 - 4i, "0"}, {-3 + 4i, "0"}, {-3 - 4i, "0"}, {-api.MaxPart, "0"}, {complex(0, -api.MaxPart), "0"}, {complex(api.MaxPart, 1), "0"},
		{0.5, ""}, {-0.5, ""}, {0.5i, ""}, {api.MaxPart + 1, ""}, {-api.MaxPart - 1, ""}, {complex(math.NaN(), 0), ""}, {complex(0, math.Inf(1)), ""},
	} {
		checkExpr(t, num(c.num), 1, c.text)
		checkExpr(t, op("neg", num(c.num)), 2, "(-"+c.text+")")
		checkExpr(t, op("+", num(c.num), reg("a")), 2, "("+c.text+" + a)")
		checkExpr(t, op("*", reg("a"), num(c.num)), 2, "(a * "+c.text+")")
	}
}

// deepen: an expression, and n more about it, one about the other.
func deepen(e tree.Expr, n int, step func(tree.Expr) tree.Expr) tree.Expr {
	for range n {
		e = step(e)
	}
	return e
}

func checkDeep(t *testing.T, n, depth int, step func(tree.Expr) tree.Expr, ahead, behind string) {
	t.Helper()
	e := deepen(reg("a"), n, step)
	if e.Depth() != depth {
		t.Errorf("P4.2: Depth %d, not %d", e.Depth(), depth)
	}
	if e.Text() != strings.Repeat(ahead, n)+"a"+strings.Repeat(behind, n) {
		t.Errorf("P4.2: Text of an expression %d deep", depth)
	}
}

// TestDeepExpressions: with so little room for calls in one another that these can't go as deep as the expressions do.
func TestDeepExpressions(t *testing.T) {
	defer debug.SetMaxStack(debug.SetMaxStack(1 << 20))
	for _, n := range []int{api.MaxDeep - 1, api.MaxDeep, api.MaxDeep + 1, 100, 500000} {
		checkDeep(t, n, n+1, func(e tree.Expr) tree.Expr { return op("neg", e) }, "(-", ")")
		checkDeep(t, n, n+1, func(e tree.Expr) tree.Expr { return op("-", e, num(1)) }, "(", " - 1)")
		checkDeep(t, n, n+1, func(e tree.Expr) tree.Expr { return op("==", num(1i), e) }, "(1i == ", ")")
		checkDeep(t, n, n+2, func(e tree.Expr) tree.Expr { return op("<", op("not", reg("b")), e) }, "((!b) < ", ")")
	}
}

func TestWideExpression(t *testing.T) {
	e := deepen(num(5), 16, func(e tree.Expr) tree.Expr { return op("*", e, e) })
	if e.Depth() != 17 {
		t.Errorf("P4.2: Depth %d, not 17", e.Depth())
	}
	s := e.Text()
	if strings.Count(s, "5") != 1<<16 || strings.Count(s, " * ") != 1<<16-1 || strings.Count(s, "(") != 1<<16-1 || strings.Count(s, ")") != 1<<16-1 || len(s) != 1<<16+5*(1<<16-1) {
		t.Error("P4.2: Text of a wide expression")
	}
}

func checkPrint(t *testing.T, p tree.Program, want string) {
	t.Helper()
	if s := tree.Print(p); s != want {
		t.Errorf("P4.2: Print: %q, not %q", s, want)
	}
}

func TestPrintDeclarations(t *testing.T) {
	checkPrint(t, tree.Program{}, "")
	checkPrint(t, tree.Program{Decls: []tree.Decl{}}, "")
	for _, c := range []struct {
		decl tree.Decl
		want string
	}{
		{tree.Decl{Sort: tree.Cell, Name: "x"}, "cell x 0;\n"},
		{tree.Decl{Sort: tree.Cell, Name: "x", Num: -3}, "cell x -3;\n"},
		{tree.Decl{Sort: tree.Cell, Name: "x", Num: 3 + 4i}, "cell x 3+4i;\n"},
		{tree.Decl{Sort: tree.Cell, Name: "x", Num: -1 - 1i}, "cell x -1-1i;\n"},
		{tree.Decl{Sort: tree.Cell, Name: "x", Num: -2i}, "cell x -2i;\n"},
		{tree.Decl{Sort: tree.Cell, Name: "x", Num: 2i}, "cell x 2i;\n"},
		{tree.Decl{Sort: tree.Cell, Name: "x", Num: complex(math.Copysign(0, -1), 0)}, "cell x 0;\n"},
		{tree.Decl{Sort: tree.Cell, Name: "Long_name9", Num: complex(-api.MaxPart, api.MaxPart)}, "cell Long_name9 -1048576+1048576i;\n"},
		{tree.Decl{Sort: tree.Array, Name: "v", Num: 8}, "array v 8;\n"},
		{tree.Decl{Sort: tree.Array, Name: "v", Num: 2 - 7i}, "array v 2-7i;\n"},
		{tree.Decl{Sort: tree.Mutex, Name: "m"}, "mutex m;\n"},
		{tree.Decl{Sort: tree.Sem, Name: "s"}, "sem s 0;\n"},
		{tree.Decl{Sort: tree.Sem, Name: "s", Num: 1}, "sem s 1;\n"},
		{tree.Decl{Sort: tree.Budget, Num: 100}, "budget 100;\n"},
		{tree.Decl{Sort: tree.Budget}, "budget 0;\n"},
		{tree.Decl{Sort: tree.Budget, Num: -5 + 1i}, "budget -5+1i;\n"},
		{tree.Decl{Sort: tree.Thread, Name: "t"}, "thread t {\n}\n"},
		{tree.Decl{Sort: tree.Thread, Name: "t", Body: []tree.Stmt{{Kind: tree.Lock, Name: "m"}, {Kind: tree.Unlock, Name: "m"}}}, "thread t {\nlock m;\nunlock m;\n}\n"},
	} {
		checkPrint(t, tree.Program{Decls: []tree.Decl{c.decl}}, c.want)
		checkPrint(t, tree.Program{Decls: []tree.Decl{c.decl, c.decl}}, c.want+c.want)
		for _, at := range []int{1, -1, math.MaxInt, math.MinInt} {
			c.decl.At = at
			checkPrint(t, tree.Program{Decls: []tree.Decl{c.decl}}, c.want)
		}
	}
}

// statements: one of each kind, with and without an index, with and without bodies, and its text.
func statements() ([]tree.Stmt, []string) {
	one, two, sum := num(1), num(2i), op("+", reg("a"), num(3))
	l := []struct {
		stmt tree.Stmt
		text string
	}{
		{tree.Stmt{Kind: tree.Set, Reg: "r", Exprs: []tree.Expr{one}}, "r = 1;\n"},
		{tree.Stmt{Kind: tree.Set, Reg: "r", Exprs: []tree.Expr{sum}}, "r = (a + 3);\n"},
		{tree.Stmt{Kind: tree.Load, Reg: "r", Name: "x"}, "r = load x;\n"},
		{tree.Stmt{Kind: tree.Load, Reg: "r", Name: "v", Indexed: true, Exprs: []tree.Expr{sum}}, "r = load v[(a + 3)];\n"},
		{tree.Stmt{Kind: tree.Store, Name: "x", Exprs: []tree.Expr{one}}, "store x, 1;\n"},
		{tree.Stmt{Kind: tree.Store, Name: "v", Indexed: true, Exprs: []tree.Expr{one, two}}, "store v[1], 2i;\n"},
		{tree.Stmt{Kind: tree.Add, Reg: "r", Name: "x", Exprs: []tree.Expr{sum}}, "r = add x, (a + 3);\n"},
		{tree.Stmt{Kind: tree.Add, Reg: "r", Name: "v", Indexed: true, Exprs: []tree.Expr{one, two}}, "r = add v[1], 2i;\n"},
		{tree.Stmt{Kind: tree.Swap, Reg: "r", Name: "x", Exprs: []tree.Expr{two}}, "r = swap x, 2i;\n"},
		{tree.Stmt{Kind: tree.Swap, Reg: "r", Name: "v", Indexed: true, Exprs: []tree.Expr{two, one}}, "r = swap v[2i], 1;\n"},
		{tree.Stmt{Kind: tree.Cas, Reg: "r", Name: "x", Exprs: []tree.Expr{one, two}}, "r = cas x, 1, 2i;\n"},
		{tree.Stmt{Kind: tree.Cas, Reg: "r", Name: "v", Indexed: true, Exprs: []tree.Expr{one, sum, two}}, "r = cas v[1], (a + 3), 2i;\n"},
		{tree.Stmt{Kind: tree.Lock, Name: "m"}, "lock m;\n"},
		{tree.Stmt{Kind: tree.Unlock, Name: "m"}, "unlock m;\n"},
		{tree.Stmt{Kind: tree.Try, Reg: "r", Name: "m"}, "r = try m;\n"},
		{tree.Stmt{Kind: tree.Wait, Name: "s"}, "wait s;\n"},
		{tree.Stmt{Kind: tree.Post, Name: "s"}, "post s;\n"},
		{tree.Stmt{Kind: tree.Spawn, Name: "u"}, "spawn u;\n"},
		{tree.Stmt{Kind: tree.Join, Name: "u"}, "join u;\n"},
		{tree.Stmt{Kind: tree.Assert, Exprs: []tree.Expr{op("<", reg("a"), one)}}, "assert (a < 1);\n"},
		{tree.Stmt{Kind: tree.Assume, Exprs: []tree.Expr{reg("a")}}, "assume a;\n"},
		{tree.Stmt{Kind: tree.If, Exprs: []tree.Expr{reg("a")}}, "if a {\n}\n"},
		{tree.Stmt{Kind: tree.If, Exprs: []tree.Expr{reg("a")}, Body: []tree.Stmt{{Kind: tree.Lock, Name: "m"}}}, "if a {\nlock m;\n}\n"},
		{tree.Stmt{Kind: tree.If, Exprs: []tree.Expr{reg("a")}, Else: []tree.Stmt{{Kind: tree.Lock, Name: "m"}}}, "if a {\n} else {\nlock m;\n}\n"},
		{tree.Stmt{Kind: tree.If, Exprs: []tree.Expr{sum}, Body: []tree.Stmt{{Kind: tree.Wait, Name: "s"}, {Kind: tree.Post, Name: "s"}}, Else: []tree.Stmt{{Kind: tree.Spawn, Name: "u"}, {Kind: tree.Join, Name: "u"}}},
			"if (a + 3) {\nwait s;\npost s;\n} else {\nspawn u;\njoin u;\n}\n"},
		{tree.Stmt{Kind: tree.While, Exprs: []tree.Expr{one}}, "while 1 {\n}\n"},
		{tree.Stmt{Kind: tree.While, Exprs: []tree.Expr{op("not", reg("a"))}, Body: []tree.Stmt{{Kind: tree.Try, Reg: "a", Name: "m"}}}, "while (!a) {\na = try m;\n}\n"},
	}
	var stmts []tree.Stmt
	var texts []string
	for _, c := range l {
		stmts = append(stmts, c.stmt)
		texts = append(texts, c.text)
	}
	return stmts, texts
}

func TestPrintStatements(t *testing.T) {
	stmts, texts := statements()
	seen := map[tree.Kind]bool{}
	for i, s := range stmts {
		seen[s.Kind] = true
		checkPrint(t, thread(s), "thread t {\n"+texts[i]+"}\n")
		checkPrint(t, thread(s, s), "thread t {\n"+texts[i]+texts[i]+"}\n")
		for _, at := range []int{1, -1, math.MaxInt, math.MinInt} {
			s.At = at
			checkPrint(t, thread(s), "thread t {\n"+texts[i]+"}\n")
		}
	}
	if len(seen) != int(tree.Kinds) {
		t.Errorf("statements of %d kinds, not %d", len(seen), tree.Kinds)
	}
	checkPrint(t, thread(stmts...), "thread t {\n"+strings.Join(texts, "")+"}\n")
}

func TestPrintBlocksInOneAnother(t *testing.T) {
	stmts, texts := statements()
	all := strings.Join(texts, "")
	yes := []tree.Expr{num(1)}
	checkPrint(t, thread(tree.Stmt{Kind: tree.While, Exprs: yes, Body: stmts}), "thread t {\nwhile 1 {\n"+all+"}\n}\n")
	checkPrint(t, thread(tree.Stmt{Kind: tree.If, Exprs: yes, Body: stmts, Else: stmts}), "thread t {\nif 1 {\n"+all+"} else {\n"+all+"}\n}\n")
	inner := tree.Stmt{Kind: tree.If, Exprs: yes}
	checkPrint(t, thread(tree.Stmt{Kind: tree.If, Exprs: yes, Body: []tree.Stmt{inner}, Else: []tree.Stmt{inner}}), "thread t {\nif 1 {\nif 1 {\n}\n} else {\nif 1 {\n}\n}\n}\n")
	s := tree.Stmt{Kind: tree.Join, Name: "u"}
	want := "join u;\n"
	for range api.MaxDeep - 1 {
		s = tree.Stmt{Kind: tree.While, Exprs: yes, Body: []tree.Stmt{s}}
		want = "while 1 {\n" + want + "}\n"
		checkPrint(t, thread(s), "thread t {\n"+want+"}\n")
	}
}

// everything: declarations of every sort, statements of every kind, expressions of every Op; made anew at each call.
func everything() tree.Program {
	stmts, _ := statements()
	ops := reg("z")
	for o := range len(twoOps) {
		ops = op(twoOps[o], ops, num(complex(0, float64(o+1))))
	}
	for _, o := range []string{"neg", "conj", "not", "norm"} {
		ops = op(o, ops)
	}
	stmts = append(stmts, tree.Stmt{Kind: tree.Assert, Exprs: []tree.Expr{ops}})
	last := tree.Stmt{Kind: tree.If, Exprs: []tree.Expr{reg("q")}, Body: []tree.Stmt{{Kind: tree.While, Exprs: []tree.Expr{reg("w")}, Body: stmts[:4:4], At: 5}}, Else: stmts[4:9:9], At: 9}
	return copied(tree.Program{Decls: []tree.Decl{
		{Sort: tree.Cell, Name: "x", Num: 1 - 2i, At: 1},
		{Sort: tree.Array, Name: "v", Num: 3, At: 2},
		{Sort: tree.Mutex, Name: "m", At: 3},
		{Sort: tree.Sem, Name: "s", Num: 4, At: 4},
		{Sort: tree.Budget, Num: 50, At: 5},
		{Sort: tree.Thread, Name: "t", Body: append(stmts, last), At: 6},
		{Sort: tree.Thread, Name: "u", At: 7},
	}})
}

// copied: with no memory of the other, so that a change in one place is one change.
func copied(p tree.Program) tree.Program {
	return copyOf(reflect.ValueOf(p)).Interface().(tree.Program)
}

func copyOf(v reflect.Value) reflect.Value {
	out := reflect.New(v.Type()).Elem()
	switch v.Kind() {
	case reflect.Struct:
		for i := range v.NumField() {
			out.Field(i).Set(copyOf(v.Field(i)))
		}
	case reflect.Slice:
		if v.IsNil() {
			return out
		}
		out.Set(reflect.MakeSlice(v.Type(), v.Len(), v.Len()))
		for i := range v.Len() {
			out.Index(i).Set(copyOf(v.Index(i)))
		}
	default:
		out.Set(v)
	}
	return out
}

// eachChange: looks at a tree with one thing in it changed, for each thing that there is and each change of it; it is back as it was behind each look.
func eachChange(v reflect.Value, path string, look func(path string)) {
	change := func(how string, to any) {
		old := reflect.New(v.Type()).Elem()
		old.Set(v)
		v.Set(reflect.ValueOf(to).Convert(v.Type()))
		look(path + how)
		v.Set(old)
	}
	switch v.Kind() {
	case reflect.Struct:
		for i := range v.NumField() {
			eachChange(v.Field(i), path+"."+v.Type().Field(i).Name, look)
		}
	case reflect.Slice:
		for i := range v.Len() {
			eachChange(v.Index(i), fmt.Sprintf("%s[%d]", path, i), look)
		}
		eachListChange(v, change)
	case reflect.String:
		change(" longer", v.String()+"_")
		if v.String() != "" {
			change(" empty", "")
			change(" shorter", v.String()[1:])
			change(" other", "~"+v.String()[1:])
		}
	case reflect.Bool:
		change(" not", !v.Bool())
	case reflect.Int:
		for _, by := range []int64{1, -1, 1 << 32, math.MinInt64} {
			change(" other", v.Int()+by)
		}
	case reflect.Complex128:
		for _, by := range []complex128{1, -1, 1i, -1i, 1 << 33, 1 << 33 * 1i} {
			change(" other", v.Complex()+by)
		}
	default:
		panic("a field of a kind that isn't known here: " + v.Kind().String())
	}
}

func eachListChange(v reflect.Value, change func(string, any)) {
	n := v.Len()
	zero := reflect.New(v.Type().Elem()).Elem()
	change(" one more", reflect.Append(v.Slice3(0, n, n), zero).Interface())
	change(" one more ahead", reflect.AppendSlice(reflect.Append(reflect.MakeSlice(v.Type(), 0, n+1), zero), v).Interface())
	if n == 0 {
		return
	}
	change(" without the last", v.Slice(0, n-1).Interface())
	change(" without the first", v.Slice(1, n).Interface())
	change(" none", reflect.Zero(v.Type()).Interface())
	for i := range n - 1 {
		if reflect.DeepEqual(v.Index(i).Interface(), v.Index(i+1).Interface()) {
			continue
		}
		turned := copyOf(v)
		turned.Index(i).Set(v.Index(i + 1))
		turned.Index(i + 1).Set(v.Index(i))
		change(fmt.Sprintf(" %d turned", i), turned.Interface())
	}
}

func TestSame(t *testing.T) {
	p, q := everything(), everything()
	if !tree.Same(p, q) || !tree.Same(p, p) || !tree.Same(tree.Program{}, tree.Program{}) {
		t.Error("P4.2: Same of the same")
	}
	if tree.Same(p, tree.Program{}) || tree.Same(tree.Program{}, p) {
		t.Error("P4.2: Same of something and nothing")
	}
	things, places := 0, 0
	eachChange(reflect.ValueOf(&q).Elem(), "", func(path string) {
		same := strings.HasSuffix(path, ".At other")
		things++
		if same {
			places++
		}
		if tree.Same(p, q) != same || tree.Same(q, p) != same {
			t.Errorf("P4.2: Same of programs that differ in %s: %v", path, !same)
		}
		if same && tree.Print(p) != tree.Print(q) {
			t.Errorf("P4.2: Print tells %s", path)
		}
	})
	if !reflect.DeepEqual(p, q) || things < 1000 || places < 100 {
		t.Errorf("%d changes, %d of At", things, places)
	}
}

// TestOtherPrograms: those that Parse may answer, and that aren't the same, have texts that aren't, either.
func TestOtherPrograms(t *testing.T) {
	stmts, texts := statements()
	var all []tree.Program
	for i := range stmts {
		all = append(all, thread(stmts[i]))
		for j := range stmts {
			all = append(all, thread(stmts[i], stmts[j]))
			all = append(all, thread(tree.Stmt{Kind: tree.If, Exprs: []tree.Expr{num(1)}, Body: stmts[i : i+1], Else: stmts[j : j+1]}))
		}
	}
	for i, p := range all {
		for j, q := range all {
			if tree.Same(p, q) != (i == j) {
				t.Fatalf("P4.2: Same of %d and %d", i, j)
			}
		}
	}
	seen := map[string]bool{}
	for _, p := range all {
		seen[tree.Print(p)] = true
	}
	if len(seen) != len(all) || len(texts) != len(stmts) {
		t.Errorf("P4.2: %d texts of %d programs", len(seen), len(all))
	}
}

func TestAtIsAnyNumber(t *testing.T) {
	p := everything()
	want := tree.Print(p)
	for _, at := range []int{0, 1, -1, math.MaxInt, math.MinInt} {
		q := everything()
		setAt(reflect.ValueOf(&q).Elem(), at)
		if !tree.Same(p, q) || !tree.Same(q, p) || !tree.Same(q, q) || tree.Print(q) != want {
			t.Errorf("P4.2, R7: At %d", at)
		}
	}
}

func setAt(v reflect.Value, at int) {
	switch v.Kind() {
	case reflect.Struct:
		for i := range v.NumField() {
			if v.Type().Field(i).Name == "At" {
				v.Field(i).SetInt(int64(at))
			}
			setAt(v.Field(i), at)
		}
	case reflect.Slice:
		for i := range v.Len() {
			setAt(v.Index(i), at)
		}
	}
}

func TestNoughtHasNoSign(t *testing.T) {
	minus := complex(math.Copysign(0, -1), math.Copysign(0, -1))
	a := tree.Program{Decls: []tree.Decl{{Sort: tree.Cell, Name: "x"}}}
	b := tree.Program{Decls: []tree.Decl{{Sort: tree.Cell, Name: "x", Num: minus}}}
	if !tree.Same(a, b) || !tree.Same(b, a) {
		t.Error("P4.2: Same of declarations with 0 and -0")
	}
	a = thread(tree.Stmt{Kind: tree.Assert, Exprs: []tree.Expr{num(0)}})
	b = thread(tree.Stmt{Kind: tree.Assert, Exprs: []tree.Expr{num(minus)}})
	if !tree.Same(a, b) || !tree.Same(b, a) {
		t.Error("P4.2: Same of expressions with 0 and -0")
	}
}

// relist: all empty lists nil, or none.
func relist(v reflect.Value, toNil bool) {
	switch v.Kind() {
	case reflect.Struct:
		for i := range v.NumField() {
			relist(v.Field(i), toNil)
		}
	case reflect.Slice:
		for i := range v.Len() {
			relist(v.Index(i), toNil)
		}
		if v.Len() == 0 && toNil {
			v.SetZero()
		} else if v.Len() == 0 {
			v.Set(reflect.MakeSlice(v.Type(), 0, 3))
		}
	}
}

func TestEmptyAndNil(t *testing.T) {
	p, q := everything(), everything()
	relist(reflect.ValueOf(&p).Elem(), true)
	relist(reflect.ValueOf(&q).Elem(), false)
	if reflect.DeepEqual(p, q) {
		t.Fatal("no list is empty")
	}
	if !tree.Same(p, q) || !tree.Same(q, p) || tree.Print(p) != tree.Print(q) {
		t.Error("R4: an empty list isn't nil")
	}
	if !tree.Same(tree.Program{}, tree.Program{Decls: []tree.Decl{}}) || !tree.Same(tree.Program{Decls: []tree.Decl{}}, tree.Program{}) {
		t.Error("R4: Same of nothing and nothing")
	}
	for _, parts := range [][]tree.Expr{nil, {}, make([]tree.Expr, 0, 5)} {
		checkExpr(t, tree.Expr{Num: 3, Parts: parts}, 1, "3")
		checkExpr(t, tree.Expr{Op: "reg", Name: "a", Parts: parts}, 1, "a")
		checkExpr(t, op("neg", tree.Expr{Num: 3, Parts: parts}), 2, "(-3)")
	}
	checkPrint(t, thread(tree.Stmt{Kind: tree.If, Exprs: []tree.Expr{num(1)}, Body: []tree.Stmt{}, Else: []tree.Stmt{}}), "thread t {\nif 1 {\n}\n}\n")
	checkPrint(t, thread(tree.Stmt{Kind: tree.Lock, Name: "m", Exprs: []tree.Expr{}, Body: []tree.Stmt{}, Else: []tree.Stmt{}}), "thread t {\nlock m;\n}\n")
}

// roomy: each list with spare room in which something stands.
func roomy(v reflect.Value) {
	switch v.Kind() {
	case reflect.Struct:
		for i := range v.NumField() {
			roomy(v.Field(i))
		}
	case reflect.Slice:
		for i := range v.Len() {
			roomy(v.Index(i))
		}
		n := v.Len()
		l := reflect.MakeSlice(v.Type(), n+3, n+3)
		reflect.Copy(l, v)
		for i := n; i < n+3; i++ {
			l.Index(i).FieldByName("Name").SetString("spare")
		}
		v.Set(l.Slice(0, n))
	}
}

// whole: a copy in which the spare room of lists is shown.
func whole(v reflect.Value) reflect.Value {
	out := reflect.New(v.Type()).Elem()
	switch v.Kind() {
	case reflect.Struct:
		for i := range v.NumField() {
			out.Field(i).Set(whole(v.Field(i)))
		}
	case reflect.Slice:
		v = v.Slice(0, v.Cap())
		out.Set(reflect.MakeSlice(v.Type(), v.Len(), v.Len()))
		for i := range v.Len() {
			out.Index(i).Set(whole(v.Index(i)))
		}
	default:
		out.Set(v)
	}
	return out
}

func eachExpr(v reflect.Value, do func(tree.Expr)) {
	if e, ok := v.Interface().(tree.Expr); ok {
		do(e)
	}
	switch v.Kind() {
	case reflect.Struct:
		for i := range v.NumField() {
			eachExpr(v.Field(i), do)
		}
	case reflect.Slice:
		for i := range v.Len() {
			eachExpr(v.Index(i), do)
		}
	}
}

func TestNothingIsChanged(t *testing.T) {
	p, q := everything(), everything()
	roomy(reflect.ValueOf(&p).Elem())
	roomy(reflect.ValueOf(&q).Elem())
	q.Decls[5].Body[0].At = 77
	before, other := whole(reflect.ValueOf(p)).Interface(), whole(reflect.ValueOf(q)).Interface()
	first := tree.Print(p)
	if first != tree.Print(everything()) || !tree.Same(p, q) {
		t.Error("R5: spare room is looked at")
	}
	exprs := 0
	eachExpr(reflect.ValueOf(p), func(e tree.Expr) {
		exprs++
		if d, s := e.Depth(), e.Text(); d != e.Depth() || s != e.Text() {
			t.Errorf("R6: %s", s)
		}
	})
	if !reflect.DeepEqual(whole(reflect.ValueOf(p)).Interface(), before) || !reflect.DeepEqual(whole(reflect.ValueOf(q)).Interface(), other) {
		t.Error("R5: what was handed in is changed")
	}
	if tree.Print(p) != first || exprs < 40 {
		t.Errorf("R6: Print; %d expressions", exprs)
	}
}

// TestNothingIsKept: an answer hangs on what is handed in now, not on what was.
func TestNothingIsKept(t *testing.T) {
	p, q := thread(tree.Stmt{Kind: tree.Assert, Exprs: []tree.Expr{op("neg", num(1))}}), thread(tree.Stmt{Kind: tree.Assert, Exprs: []tree.Expr{op("neg", num(1))}})
	s := tree.Print(p)
	e := p.Decls[0].Body[0].Exprs[0]
	checkExpr(t, e, 2, "(-1)")
	if !tree.Same(p, q) {
		t.Error("P4.2: Same")
	}
	e.Parts[0] = op("conj", reg("b"))
	if tree.Same(p, q) {
		t.Error("R5: Same goes by what was")
	}
	checkExpr(t, e, 3, "(-(~b))")
	checkPrint(t, p, "thread t {\nassert (-(~b));\n}\n")
	if s != "thread t {\nassert (-1);\n}\n" {
		t.Error("R5: an answer changed")
	}
}

func TestTextsAreNewMemory(t *testing.T) {
	name := strings.Repeat("name", 20)
	from := uintptr(unsafe.Pointer(unsafe.StringData(name)))
	p := thread(tree.Stmt{Kind: tree.Set, Reg: name, Exprs: []tree.Expr{reg(name)}})
	for _, s := range []string{reg(name).Text(), op("neg", reg(name)).Text(), tree.Print(p)} {
		if at := uintptr(unsafe.Pointer(unsafe.StringData(s))); at >= from && at < from+uintptr(len(name)) {
			t.Errorf("R5: %q is kept from what was handed in", s)
		}
	}
	runtime.KeepAlive(name)
}

// TestWrongTrees: those that Parse never answers: whatever is told of them, nothing panics.
func TestWrongTrees(t *testing.T) {
	defer func() {
		if r := recover(); r != nil {
			t.Errorf("P1: %v", r)
		}
	}()
	exprs := []tree.Expr{op("+"), op("neg"), op("+", num(1)), op("neg", num(1), num(2)), op("<", num(1), num(2), num(3)), op("other", num(1)), op("other"), {Op: "reg"}, {Op: "reg", Parts: []tree.Expr{{}}}, {Parts: []tree.Expr{{}, {}}}, num(complex(math.NaN(), math.Inf(-1)))}
	for _, e := range exprs {
		e.Depth()
		e.Text()
		op("*", e, e).Text()
	}
	kinds := append([]tree.Kind{}, noKinds...)
	for k := range tree.Kinds {
		kinds = append(kinds, k)
	}
	for _, k := range kinds {
		for n := range len(exprs) {
			p := thread(tree.Stmt{Kind: k, Exprs: exprs[:n], Indexed: n%2 == 0, Body: []tree.Stmt{{Kind: k, Indexed: true}}, Else: []tree.Stmt{{Kind: k}}})
			tree.Print(p)
			tree.Same(p, p)
		}
	}
	for _, s := range noSorts {
		p := tree.Program{Decls: []tree.Decl{{Sort: s, Name: "x", Num: 0.5, Body: []tree.Stmt{{}}}}}
		tree.Print(p)
		tree.Same(p, p)
	}
}
