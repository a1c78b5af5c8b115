package parse_test

import (
	"fmt"
	"math"
	"reflect"
	"slices"
	"strings"
	"testing"
	"unsafe"

	"braidwork/api"
	"braidwork/lex"
	"braidwork/parse"
	"braidwork/tree"
)

// reserved: the words that are no names.
var (
	givers   = []string{"load", "add", "swap", "cas", "try"}
	doers    = []string{"store", "lock", "unlock", "wait", "post", "spawn", "join", "assert", "assume"}
	branches = []string{"if", "while"}
	sorts    = []string{"cell", "array", "mutex", "sem", "budget", "thread"}
	reserved = slices.Concat(givers, doers, branches, sorts, []string{"else"})
	signs    = []string{"==", "!=", "(", ")", "{", "}", "[", "]", ";", ",", "=", "!", "<", "+", "-", "*", "~", "#"}
)

func num(c complex128) tree.Expr {
	return tree.Expr{Num: c}
}

func reg(name string) tree.Expr {
	return tree.Expr{Op: "reg", Name: name}
}

func op(op string, parts ...tree.Expr) tree.Expr {
	return tree.Expr{Op: op, Parts: parts}
}

func exprs(l ...tree.Expr) []tree.Expr {
	return l
}

// plain: empty lists as nil ones, as these mean the same; all else as it is.
func plain(v reflect.Value) reflect.Value {
	out := reflect.New(v.Type()).Elem()
	switch v.Kind() {
	case reflect.Struct:
		for i := range v.NumField() {
			out.Field(i).Set(plain(v.Field(i)))
		}
	case reflect.Slice:
		if v.Len() == 0 {
			return out
		}
		out.Set(reflect.MakeSlice(v.Type(), v.Len(), v.Len()))
		for i := range v.Len() {
			out.Index(i).Set(plain(v.Index(i)))
		}
	default:
		out.Set(v)
	}
	return out
}

// whole: all that a tree holds, as a text: At, too, and 0 told from -0.
func whole(p tree.Program) string {
	return fmt.Sprintf("%#v", plain(reflect.ValueOf(p)).Interface())
}

func checkTree(t *testing.T, s string, want tree.Program) {
	t.Helper()
	got, at, e := parse.Parse(s)
	if e != api.OK || at != 0 {
		t.Errorf("P5.1: %.200q: error %d at %d", s, e, at)
		return
	}
	if whole(got) != whole(want) {
		t.Errorf("P5.1: %.200q: %.2000s, not %.2000s", s, whole(got), whole(want))
	}
}

func checkWrong(t *testing.T, s string, at int, e api.Errno) {
	t.Helper()
	out, gotAt, got := parse.Parse(s)
	if got != e || gotAt != at {
		t.Errorf("P5.1: %.200q: error %d at %d, not %d at %d", s, got, gotAt, e, at)
	}
	if got != api.OK && out.Decls != nil && len(out.Decls) > 0 {
		t.Errorf("R3: %.200q: declarations beside an error", s)
	}
}

// checkMarked: the place that goes wrong is marked by a $ ahead of it.
func checkMarked(t *testing.T, s string, e api.Errno) {
	t.Helper()
	at := strings.Index(s, "$")
	if at < 0 || strings.Count(s, "$") != 1 {
		t.Fatalf("no mark: %q", s)
	}
	checkWrong(t, strings.Replace(s, "$", "", 1), at, e)
}

// checkBody: the statements of a thread's block.
func checkBody(t *testing.T, s string, want ...tree.Stmt) {
	t.Helper()
	const ahead = "thread t {"
	moved := slices.Clone(want)
	for i := range moved {
		move(&moved[i], len(ahead))
	}
	checkTree(t, ahead+s+"}", tree.Program{Decls: []tree.Decl{{Sort: tree.Thread, Name: "t", Body: moved}}})
}

func move(s *tree.Stmt, by int) {
	s.At += by
	for _, l := range []*[]tree.Stmt{&s.Body, &s.Else} {
		*l = slices.Clone(*l)
		for i := range *l {
			move(&(*l)[i], by)
		}
	}
}

// checkExpr: an expression's Text, wherever expressions stand.
func checkExpr(t *testing.T, s, text string) {
	t.Helper()
	p, at, e := parse.Parse("thread t { a = " + s + "; assert " + s + "; store v[" + s + "], " + s + "; if " + s + " {} while " + s + " {} b = cas x, " + s + "," + s + "; }")
	if e != api.OK {
		t.Errorf("P5.1: %.200q: error %d at %d", s, e, at)
		return
	}
	n := 0
	for _, stmt := range p.Decls[0].Body {
		for _, x := range stmt.Exprs {
			n++
			if x.Text() != text {
				t.Errorf("P5.1: %q: %q, not %q", s, x.Text(), text)
			}
		}
	}
	if n != 8 {
		t.Errorf("P5.1: %q: %d expressions, not 8", s, n)
	}
}

func TestExample(t *testing.T) {
	checkWrong(t, "x", 0, api.ErrWord)
}

func TestDeclarations(t *testing.T) {
	for _, c := range []struct {
		s    string
		want []tree.Decl
	}{
		{"", nil},
		{" \t\n// nothing\n", nil},
		{"cell x 0;", []tree.Decl{{Sort: tree.Cell, Name: "x"}}},
		{"cell x 7;", []tree.Decl{{Sort: tree.Cell, Name: "x", Num: 7}}},
		{"array v 3;", []tree.Decl{{Sort: tree.Array, Name: "v", Num: 3}}},
		{"sem s 1;", []tree.Decl{{Sort: tree.Sem, Name: "s", Num: 1}}},
		{"mutex m;", []tree.Decl{{Sort: tree.Mutex, Name: "m"}}},
		{"budget 9;", []tree.Decl{{Sort: tree.Budget, Num: 9}}},
		{"thread t{}", []tree.Decl{{Sort: tree.Thread, Name: "t"}}},
		{"  cell x 0;", []tree.Decl{{Sort: tree.Cell, Name: "x", At: 2}}},
		{"cell x 0;mutex x;cell x 1;", []tree.Decl{{Sort: tree.Cell, Name: "x"}, {Sort: tree.Mutex, Name: "x", At: 9}, {Sort: tree.Cell, Name: "x", Num: 1, At: 17}}},
		{"// a\ncell//b\nx 0 ; array v -1+2i;\n\tsem s 4;mutex m ; budget -3i;thread t { } thread u{}", []tree.Decl{
			{Sort: tree.Cell, Name: "x", At: 5}, {Sort: tree.Array, Name: "v", Num: -1 + 2i, At: 19},
			{Sort: tree.Sem, Name: "s", Num: 4, At: 35}, {Sort: tree.Mutex, Name: "m", At: 43},
			{Sort: tree.Budget, Num: -3i, At: 53}, {Sort: tree.Thread, Name: "t", At: 64}, {Sort: tree.Thread, Name: "u", At: 77}}},
		{"budget 1;budget 1;", []tree.Decl{{Sort: tree.Budget, Num: 1}, {Sort: tree.Budget, Num: 1, At: 9}}},
	} {
		checkTree(t, c.s, tree.Program{Decls: c.want})
	}
}

func TestNumbersOfDeclarations(t *testing.T) {
	for s, want := range map[string]complex128{
		"0": 0, "1": 1, "10": 10, "1048576": 1048576, "1i": 1i, "2i": 2i, "1048576i": 1048576i,
		"-0": 0, "-1": -1, "- 1": -1, "-1048576": -1048576, "-1i": -1i, "-1048576i": -1048576i, "-//\n3i": -3i,
		"3+4i": 3 + 4i, "3-4i": 3 - 4i, "-3+4i": -3 + 4i, "-3-4i": -3 - 4i, " - 3\n+\t4i ": -3 + 4i, "3 - // four\n4i": 3 - 4i,
		"0+4i": 4i, "0-4i": -4i, "-0+4i": 4i, "-0-4i": -4i,
		"1048576+1048576i": 1048576 + 1048576i, "-1048576-1048576i": -1048576 - 1048576i,
	} {
		checkTree(t, "cell x "+s+";", tree.Program{Decls: []tree.Decl{{Sort: tree.Cell, Name: "x", Num: want}}})
		checkTree(t, "array x "+s+";", tree.Program{Decls: []tree.Decl{{Sort: tree.Array, Name: "x", Num: want}}})
		checkTree(t, "sem x "+s+";", tree.Program{Decls: []tree.Decl{{Sort: tree.Sem, Name: "x", Num: want}}})
		checkTree(t, "budget "+s+";", tree.Program{Decls: []tree.Decl{{Sort: tree.Budget, Num: want}}})
		p, _, _ := parse.Parse("cell x " + s + ";")
		if n := p.Decls[0].Num; real(n) == 0 && math.Signbit(real(n)) || imag(n) == 0 && math.Signbit(imag(n)) {
			t.Errorf("P5.1: -0 in the number of %q", s)
		}
	}
}

func TestWrongNumbersOfDeclarations(t *testing.T) {
	for _, s := range []string{
		"$;", "$", "$x;", "$+1;", "$+1i;", "$(1);", "$~1;", "$cell;", "$else;", "$=1;",
		"-$;", "-$", "-$-1;", "-$+1;", "-$x;", "-$(1);",
		"1$", "1 $1;", "1 $1i;", "1 $x;", "1$*1;", "1$,1;", "1$==1;", "1$}", "-1 $1;", "-1$[",
		"3+$4;", "3-$4;", "-3+$4;", "-3-$4;", "3+$0;", "3+$;", "3-$", "3+$+4i;", "3+$-4i;", "3-$-4i;", "3+$x;", "3+$(4i);", "3+$i;", "3+$4 i;",
		"3i$+4i;", "3i$-4i;", "3i$+4;", "-3i$+4i;", "-3i$-4;", "3i$", "3i $", "3i $3;", "3i$+;",
		"3+4i$+5i;", "3+4i$-5i;", "3+4i$+5;", "3+4i$", "3+4i $x;", "3+4i$*1;", "-3-4i$-1;",
	} {
		for _, ahead := range []string{"cell x ", "array x ", "sem x ", "budget ", "cell y 1;thread t{}sem x "} {
			checkMarked(t, ahead+s, api.ErrForm)
		}
	}
}

// kindTexts: each kind of statement, with and without what it may have.
func kindTexts() map[string]tree.Stmt {
	a, b, c := reg("a"), num(2i), op("+", reg("c"), num(1))
	m := map[string]tree.Stmt{
		"r=a;":             {Kind: tree.Set, Reg: "r", Exprs: exprs(a)},
		"r = 2i ;":         {Kind: tree.Set, Reg: "r", Exprs: exprs(b)},
		"r=(c+1);":         {Kind: tree.Set, Reg: "r", Exprs: exprs(c)},
		"r=load x;":        {Kind: tree.Load, Reg: "r", Name: "x"},
		"r=load x[c+1];":   {Kind: tree.Load, Reg: "r", Name: "x", Indexed: true, Exprs: exprs(c)},
		"store x,c+1;":     {Kind: tree.Store, Name: "x", Exprs: exprs(c)},
		"store x[a],2i;":   {Kind: tree.Store, Name: "x", Indexed: true, Exprs: exprs(a, b)},
		"r=add x,a;":       {Kind: tree.Add, Reg: "r", Name: "x", Exprs: exprs(a)},
		"r=add x[2i],a;":   {Kind: tree.Add, Reg: "r", Name: "x", Indexed: true, Exprs: exprs(b, a)},
		"r=swap x,2i;":     {Kind: tree.Swap, Reg: "r", Name: "x", Exprs: exprs(b)},
		"r=swap x[c+1],a;": {Kind: tree.Swap, Reg: "r", Name: "x", Indexed: true, Exprs: exprs(c, a)},
		"r=cas x,a,2i;":    {Kind: tree.Cas, Reg: "r", Name: "x", Exprs: exprs(a, b)},
		"r=cas x[a],c+1,2i;": {Kind: tree.Cas, Reg: "r", Name: "x", Indexed: true,
			Exprs: exprs(a, c, b)},
		"lock m;":      {Kind: tree.Lock, Name: "m"},
		"unlock m;":    {Kind: tree.Unlock, Name: "m"},
		"r=try m;":     {Kind: tree.Try, Reg: "r", Name: "m"},
		"wait s;":      {Kind: tree.Wait, Name: "s"},
		"post s;":      {Kind: tree.Post, Name: "s"},
		"spawn u;":     {Kind: tree.Spawn, Name: "u"},
		"join u;":      {Kind: tree.Join, Name: "u"},
		"assert c+1;":  {Kind: tree.Assert, Exprs: exprs(c)},
		"assume(a);":   {Kind: tree.Assume, Exprs: exprs(a)},
		"if a{}":       {Kind: tree.If, Exprs: exprs(a)},
		"if a{}else{}": {Kind: tree.If, Exprs: exprs(a)},
		"if a{lock m;}": {Kind: tree.If, Exprs: exprs(a),
			Body: []tree.Stmt{{Kind: tree.Lock, Name: "m", At: 5}}},
		"if a{}else{lock m;}": {Kind: tree.If, Exprs: exprs(a),
			Else: []tree.Stmt{{Kind: tree.Lock, Name: "m", At: 11}}},
		"if c+1{ wait s; post s;}else {r=a;join u;}": {Kind: tree.If, Exprs: exprs(c),
			Body: []tree.Stmt{{Kind: tree.Wait, Name: "s", At: 8}, {Kind: tree.Post, Name: "s", At: 16}},
			Else: []tree.Stmt{{Kind: tree.Set, Reg: "r", Exprs: exprs(a), At: 30}, {Kind: tree.Join, Name: "u", At: 34}}},
		"while 2i{}": {Kind: tree.While, Exprs: exprs(b)},
		"while a{if 2i{while a{}}else{wait s;}}": {Kind: tree.While, Exprs: exprs(a), Body: []tree.Stmt{{Kind: tree.If, Exprs: exprs(b), At: 8,
			Body: []tree.Stmt{{Kind: tree.While, Exprs: exprs(a), At: 14}},
			Else: []tree.Stmt{{Kind: tree.Wait, Name: "s", At: 29}}}}},
	}
	return m
}

func TestStatements(t *testing.T) {
	seen := map[tree.Kind]bool{}
	checkBody(t, "")
	for s, want := range kindTexts() {
		seen[want.Kind] = true
		checkBody(t, s, want)
		second, third := want, want
		move(&second, len(s)+1)
		move(&third, 2*len(s)+9)
		checkBody(t, s+"\n"+s+" // a {\n"+s+"\t", want, second, third)
	}
	if len(seen) != int(tree.Kinds) {
		t.Errorf("statements of %d kinds, not %d", len(seen), tree.Kinds)
	}
}

// TestNamesAlike: names that are nearly other words, or words of trees, and one name for all there is.
func TestNamesAlike(t *testing.T) {
	for _, w := range []string{"x", "i", "_", "Load", "LOAD", "loads", "loa", "_load", "load_", "load1", "els", "Else", "elseif", "set", "Set", "reg", "neg", "conj", "not", "norm", "kinds", "sorts", "cells", "threads", "If", "i1", "whil", "end", "A9_", strings.Repeat("n", 300)} {
		p := fmt.Sprintf("cell %[1]s 0; array %[1]s 1; mutex %[1]s; sem %[1]s 1; thread %[1]s {", w)
		stmts := []tree.Stmt{
			{Kind: tree.Load, Reg: w, Name: w, Indexed: true, Exprs: exprs(reg(w)), At: len(p)},
			{Kind: tree.Assert, Exprs: exprs(op("-", reg(w), op("neg", reg(w)))), At: len(p) + 10 + 3*len(w)},
			{Kind: tree.Spawn, Name: w, At: len(p) + 20 + 5*len(w)},
		}
		n := len(w)
		decls := []tree.Decl{{Sort: tree.Cell, Name: w}, {Sort: tree.Array, Name: w, Num: 1, At: 9 + n}, {Sort: tree.Mutex, Name: w, At: 19 + 2*n}, {Sort: tree.Sem, Name: w, Num: 1, At: 27 + 3*n}, {Sort: tree.Thread, Name: w, Body: stmts, At: 35 + 4*n}}
		checkTree(t, p+w+"=load "+w+"["+w+"]; assert "+w+"--"+w+";spawn "+w+";}", tree.Program{Decls: decls})
	}
}

func TestExpressions(t *testing.T) {
	for s, text := range map[string]string{
		"0": "0", "7": "7", "1048576": "1048576", "3i": "3i", "1048576i": "1048576i", "a": "a",
		"-a": "(-a)", "~a": "(~a)", "!a": "(!a)", "#a": "(#a)", "-3i": "(-3i)", "-0": "(-0)",
		"--a": "(-(-a))", "-~!#a": "(-(~(!(#a))))", "#!~-a": "(#(!(~(-a))))", "- - 1": "(-(-1))",
		"a+b": "(a + b)", "a-b": "(a - b)", "a*b": "(a * b)", "a==b": "(a == b)", "a!=b": "(a != b)", "a<b": "(a < b)",
		"3+4i": "(3 + 4i)", "3-4i": "(3 - 4i)", "3i+4": "(3i + 4)", "3+4": "(3 + 4)", "-1-1i": "((-1) - 1i)",
		"a--b": "(a - (-b))", "a+-b": "(a + (-b))", "a*-b": "(a * (-b))", "a<-b": "(a < (-b))", "a==!b": "(a == (!b))", "a!=!b": "(a != (!b))", "a!= ! !b": "(a != (!(!b)))", "!a!=b": "((!a) != b)",
		"(a)": "a", "((7))": "7", "(((((((((((((((((((a)))))))))))))))))))": "a", "-(a)": "(-a)", "(-a)": "(-a)", "(a)+(b)": "(a + b)", "((a)+((b)))": "(a + b)",
		"-(a+b)": "(-(a + b))", "-a+b": "((-a) + b)", "-a*b": "((-a) * b)", "-a<b": "((-a) < b)", "-(a*b)": "(-(a * b))",
		"(a<b)<c": "((a < b) < c)", "a<(b<c)": "(a < (b < c))", "(a==b)!=(c<d)": "((a == b) != (c < d))", "(a==b)+c": "((a == b) + c)", "c*(a!=b)": "(c * (a != b))",
		"a+b*2": "(a + (b * 2))", "a*b+2": "((a * b) + 2)", "a+b*c*d-e": "((a + ((b * c) * d)) - e)", "a*b-c*d+e*f": "(((a * b) - (c * d)) + (e * f))",
		"a+b<c*d": "((a + b) < (c * d))", "a*(b+c)": "(a * (b + c))", "(a+b)*c": "((a + b) * c)", "a-(b-c)": "(a - (b - c))", "a-b-c": "((a - b) - c)", "a*(b*c)": "(a * (b * c))",
		"a // one\n\t+ b": "(a + b)", " a\n": "a",
	} {
		checkExpr(t, s, text)
	}
}

// TestWhichBinds: each two signs, the one ahead of the other.
func TestWhichBinds(t *testing.T) {
	binds := map[string]int{"==": 0, "!=": 0, "<": 0, "+": 1, "-": 1, "*": 2}
	for a, ofA := range binds {
		for b, ofB := range binds {
			switch {
			case ofA == 0 && ofB == 0:
				checkMarked(t, "thread t{x=p"+a+"q$"+b+"r;}", api.ErrForm)
				checkMarked(t, "thread t{x=(p"+a+"q$"+b+"r);}", api.ErrForm)
				checkMarked(t, "thread t{store v[p"+a+"q$"+b+"r],1;}", api.ErrForm)
			case ofA >= ofB:
				checkExpr(t, "p"+a+"q"+b+"r", "((p "+a+" q) "+b+" r)")
			default:
				checkExpr(t, "p"+a+"q"+b+"r", "(p "+a+" (q "+b+" r))")
			}
			checkExpr(t, "p"+a+"(q"+b+"r)", "(p "+a+" (q "+b+" r))")
			checkExpr(t, "(p"+a+"q)"+b+"r", "((p "+a+" q) "+b+" r)")
		}
		for sign := range map[string]string{"-": "neg", "~": "conj", "!": "not", "#": "norm"} {
			checkExpr(t, sign+"p"+a+sign+"q", "(("+sign+"p) "+a+" ("+sign+"q))")
			checkExpr(t, sign+"(p"+a+"q)", "("+sign+"(p "+a+" q))")
		}
	}
}

// TestOps: that Text shows them is chapter 4's; here they are looked at themselves.
func TestOps(t *testing.T) {
	a, b := reg("a"), num(2i)
	for s, want := range map[string]tree.Expr{
		"a": a, "2i": b, "-a": op("neg", a), "~a": op("conj", a), "!a": op("not", a), "#a": op("norm", a), "-2i": op("neg", b),
		"a+2i": op("+", a, b), "a-2i": op("-", a, b), "a*2i": op("*", a, b), "a==2i": op("==", a, b), "a!=2i": op("!=", a, b), "a<2i": op("<", a, b),
		"2i-a-a": op("-", op("-", b, a), a), "(2i)": b, "-(#a)": op("neg", op("norm", a)),
	} {
		checkBody(t, "r="+s+";", tree.Stmt{Kind: tree.Set, Reg: "r", Exprs: exprs(want)})
		checkBody(t, "while "+s+"{}", tree.Stmt{Kind: tree.While, Exprs: exprs(want)})
		checkBody(t, "r=cas x["+s+"],"+s+","+s+";", tree.Stmt{Kind: tree.Cas, Reg: "r", Name: "x", Indexed: true, Exprs: exprs(want, want, want)})
	}
}

func TestErrorsOfSplit(t *testing.T) {
	for _, s := range []string{"$@", "cell x 0; $&", "cell x 0;$\r", "x $/ y", "x = $1x;", "thread t { a = $07x; }", "thread if $\x80", "} } $.", "cell x 0; // a\n$\"", "// \x80 @\n$@ 07", "$\x00"} {
		checkMarked(t, s, api.ErrForm)
	}
	for _, s := range []string{"$07", "cell x $1048577;", "x x $0i", "load $00", "cell x -$01;", "if if $1048577i @"} {
		checkMarked(t, s, api.ErrRange)
	}
	checkWrong(t, strings.Repeat(" ", api.MaxText+1), 0, api.ErrSize)
	checkWrong(t, strings.Repeat("@", api.MaxText+1), 0, api.ErrSize)
	checkWrong(t, "x"+strings.Repeat(" ", api.MaxText), 0, api.ErrSize)
	checkWrong(t, "cell x 0;"+strings.Repeat(" ", api.MaxText), 0, api.ErrSize)
}

func TestNoDeclaration(t *testing.T) {
	var first []string
	first = append(first, "x", "i", "1", "1i", "0", "Cell", "cells")
	first = append(first, signs...)
	for _, w := range reserved {
		if !slices.Contains(sorts, w) {
			first = append(first, w)
		}
	}
	for _, w := range first {
		for _, ahead := range []string{"", " \n// x\n", "cell x 0;", "cell x 0;budget 1;mutex m;", "thread t{}", "thread t{if 1{}else{}} "} {
			for _, behind := range []string{"", " ", " x 0;", " cell x 0;", " }", ";"} {
				checkMarked(t, ahead+"$"+w+behind, api.ErrWord)
			}
		}
	}
}

func TestDeclarationsGoneWrong(t *testing.T) {
	for _, s := range []string{
		"cell$", "cell $", "cell $;", "cell $1;", "cell $-", "cell x$", "cell x $", "cell x // note\n$", "cell x 0$", "cell x 0 $cell y 0;", "cell x 0$}", "cell x 0$,", "cell x$=0;", "cell x $y 0;", "cell x$[0];",
		"array$", "array $3;", "array v$;", "array v 3$", "array v $v;",
		"sem$", "sem $3;", "sem s$;", "sem s 3$", "sem s$, 3;",
		"mutex$", "mutex $1;", "mutex m$", "mutex m $0;", "mutex m $m;", "mutex m$=0;", "mutex m$-0;", "mutex $;",
		"budget$", "budget $;", "budget $x 1;", "budget $x;", "budget 1$", "budget 1 $2;", "budget $mutex m;",
		"thread$", "thread $1 {}", "thread ${}", "thread $;", "thread t$", "thread t$;", "thread t $0;", "thread t $t {}", "thread t$(", "thread t$}", "thread t{$", "thread t {}thread u { $", "thread t {$;}", "thread t {}thread$", "thread t{$cell x 0;}", "thread t{${}}", "thread t{$1;}", "thread t{$(", "thread t{$-1;}", "thread t{r=1;\n$", "thread t{r=1;$thread u{}",
	} {
		checkMarked(t, s, api.ErrForm)
		checkMarked(t, "sem s 1; thread v { } "+s, api.ErrForm)
	}
	checkMarked(t, "thread t {} $}", api.ErrWord)
	checkMarked(t, "thread t {} $;", api.ErrWord)
	checkMarked(t, "cell x 0; $; cell y 0;", api.ErrWord)
	checkMarked(t, "mutex m; $else", api.ErrWord)
}

func TestStatementsGoneWrong(t *testing.T) {
	for _, s := range []string{
		"r$", "r$;", "r $1;", "r$==1;", "r$!=1;", "r$[0]=1;", "r$,", "r $s = 1;", "r $store x, 1;", "r$}",
		"r=$", "r=$;", "r=$,", "r=$*1;", "r=$)", "r=$}", "r$===1;", "r=1$", "r=1$,", "r=1$}", "r=1 $1;", "r=1 $a;", "r=a$[0];", "r=a $b;", "r=a$=b;", "r=a$~b;", "r=a$!b;", "r=a$#b;", "r=a$(b);", "r=1 $s=1;", "r=1$)", "r=a $load x;", "r=1+$", "r=1+$;", "r=1*$*2;", "r=-$", "r=-$;", "r=($", "r=($)", "r=($;", "r=(1$;", "r=(1$", "r=(1 $2);", "r=(1$,2);", "r=((1)$;", "r=(1)$)", "r=a<$;", "r=a<$<b;", "r=a<$==b;", "r=a!=$;",
		"r=load$", "r=load$;", "r=load $1;", "r=load $-x;", "r=load$(x);", "r=load x$", "r=load x$,1;", "r=load x $1;", "r=load x$+1;", "r=load x[$", "r=load x[$];", "r=load x[1$", "r=load x[1$;", "r=load x[1$,2];", "r=load x[1$);", "r=load x[1]$", "r=load x[1]$,1;", "r=load x[1]$[1];", "r=load x$(1);", "r=load x $y;",
		"store$", "store$;", "store $1;", "store $1,x;", "store x$", "store x$;", "store x $1;", "store x$=1;", "store x,$", "store x,$;", "store x,$,1;", "store x,1$", "store x,1$,2;", "store x,1$}", "store x[1]$;", "store x[1] $2;", "store x[1]$=2;", "store x[$],2;", "store x[1],$;", "store x[1],2$,3;", "store$,x,1;", "store$[1],2;", "store x,$load", "store$=1;",
		"r=add$;", "r=add x$;", "r=add x,$;", "r=add x,1$,2;", "r=add x[1]$;", "r=add x[1],2$,3;", "r=add $1,x;",
		"r=swap$;", "r=swap x$;", "r=swap x,$;", "r=swap x,1$,2;", "r=swap x[1]$;", "r=swap x[1],2$,3;",
		"r=cas$;", "r=cas x$;", "r=cas x,$;", "r=cas x,1$;", "r=cas x,1$", "r=cas x,1,$;", "r=cas x,1,2$,3;", "r=cas x[1]$;", "r=cas x[1],2$;", "r=cas x[1],2,3$,4;", "r=cas x,1 $2;", "r=cas x,1,2$",
		"assert$", "assert$;", "assert$,1;", "assert 1$", "assert 1$,2;", "assert 1 $2;", "assert a$[0];", "assert a$=1;", "assert$=1;", "assert$}",
		"assume$", "assume$;", "assume$,1;", "assume 1$", "assume 1$,2;", "assume a$[0];", "assume a$=1;",
		"if$", "if$;", "if${", "if$,", "if 1$", "if 1$;", "if 1 $r=1;", "if 1$,2{}", "if a$=1{}", "if 1{$", "if 1{}else$", "if 1{}else$;", "if 1{}else $if 1{}", "if 1{}else $r=1;", "if 1{}else{$", "if 1{}else{}$else{}", "if 1{}$;", "if 1{$;}", "if$=1;", "if 1{$else{}}", "if 1{}else $else{}", "if 1{${}}",
		"while$", "while$;", "while${", "while 1$", "while 1$;", "while 1{$", "while 1{}$else{}", "while 1{}$;", "while$=1;", "while a$=1{}",
		"$else{}", "$else;", "$;", "$=", "$,", "$(r)=1;", "$1=r;", "$-r=1;", "$thread u{}",
	} {
		checkMarked(t, "thread t{"+s, api.ErrForm)
		checkMarked(t, "mutex m;thread t{wait s;if a{a=1;"+s, api.ErrForm)
	}
	for _, w := range []string{"lock", "unlock", "wait", "post", "spawn", "join", "r=try"} {
		for _, s := range []string{"$", "$;", " $1;", "$,x;", "$(x);", "$-x;", "$[x];", " x$", " x$,1;", " x$[0];", " x $1;", " x$=1;", " x $y;", " x$+1;", " x$}", "$=1;"} {
			checkMarked(t, "thread t{"+w+s, api.ErrForm)
			checkMarked(t, "thread t{while 1{}"+w+s+"}", api.ErrForm)
		}
	}
}

// TestKindsInTheWrongPlace: whatever stands behind the kind's word.
func TestKindsInTheWrongPlace(t *testing.T) {
	behind := []string{"$", " $", "// x\n$", "\t$x;", " $x[0];", " $1;", "$=1;", "$;", "$}", "${}", "$(", " $if", " $load", " $store x,1;", " $else", " $cell", "$,", " $x;}", " $x,1,2;}"}
	for _, ahead := range []string{"thread t{", "thread t { ", "thread t{r=1;", "thread t{if a{", "thread t{if a{}else{while b{", "cell x 0;thread u{}thread t{lock m;wait s;"} {
		for _, b := range behind {
			for _, w := range givers {
				checkMarked(t, ahead+w+b, api.ErrKind)
			}
			for _, w := range slices.Concat(doers, branches) {
				checkMarked(t, ahead+"r="+w+b, api.ErrKind)
				checkMarked(t, ahead+"r = "+w+b, api.ErrKind)
			}
		}
	}
}

// TestWordsInNamesPlaces: words of kinds and sorts, and else, where a name must stand.
func TestWordsInNamesPlaces(t *testing.T) {
	for _, w := range reserved {
		for _, sort := range []string{"cell", "array", "mutex", "sem", "thread"} {
			for _, behind := range []string{"", ";", " 0;", " {}", " x"} {
				checkMarked(t, sort+" $"+w+behind, api.ErrForm)
			}
		}
		for _, ahead := range []string{"r=load", "store", "r=add", "r=swap", "r=cas", "lock", "unlock", "r=try", "wait", "post", "spawn", "join"} {
			checkMarked(t, "thread t{"+ahead+" $"+w+";}", api.ErrForm)
			checkMarked(t, "thread t{"+ahead+" $"+w, api.ErrForm)
		}
		for _, ahead := range []string{"r=-", "r=1+", "r=1*", "r=1<", "r=(", "assert ", "assume ", "if ", "while ", "store x,", "store x[", "r=load x[", "r=cas x,1,", "r=add x,-("} {
			checkMarked(t, "thread t{"+ahead+"$"+w+";}", api.ErrForm)
		}
		for _, ahead := range []string{"r ", "r=1 ", "r=load x ", "r=a ", "lock m ", "store x ", "if 1 ", "while a "} {
			checkMarked(t, "thread t{"+ahead+"$"+w+" x;}", api.ErrForm)
		}
	}
	for _, w := range append([]string{"else"}, sorts...) {
		checkMarked(t, "thread t{$"+w+"=1;}", api.ErrForm)
		checkMarked(t, "thread t{r=$"+w+";}", api.ErrForm)
		checkMarked(t, "thread t{r=1;$"+w+" x;}", api.ErrForm)
		checkMarked(t, "budget $"+w+";", api.ErrForm)
		checkMarked(t, "cell x $"+w+";", api.ErrForm)
	}
}

// deepTexts: expressions of a Depth, in many shapes.
func deepTexts(depth int) []string {
	n := depth - 1
	alternate := "a"
	for i := range n {
		alternate = []string{"-" + alternate, "(" + alternate + ")*b", "(" + alternate + "==0)", "(1+(" + alternate + "))"}[i%4]
	}
	return []string{
		strings.Repeat("-", n) + "1",
		strings.Repeat("!(", n) + "a" + strings.Repeat(")", n),
		"a" + strings.Repeat("+1", n),
		"a" + strings.Repeat("-b", n),
		"2" + strings.Repeat("*a", n),
		strings.Repeat("1-(", n) + "a" + strings.Repeat(")", n),
		strings.Repeat("(", n) + "a" + strings.Repeat("<1)", n),
		strings.Repeat("#(b!=", n/2) + strings.Repeat("~", n%2) + "a" + strings.Repeat(")", n/2),
		"((" + strings.Repeat("~ ", n) + "3i))",
		"b" + strings.Repeat("*a", n-2) + "+-c" + strings.Repeat(" ", 3) + "<0",
		alternate,
	}
}

func TestDeepExpressions(t *testing.T) {
	forms := []string{"r=$E;", "assert $E;", "assume $E;", "store x,$E;", "store x[$E],1;", "store x[1],$E;", "r=load x[$E];", "r=add x,$E;", "r=swap x[$E],1;", "r=swap x[b],$E;", "r=cas x,$E,1;", "r=cas x,1,$E;", "r=cas x[$E],1,2;", "if $E{}", "if\n$E{lock m;}else{}", "while $E{}", "if a{r=$E;}", "if a{}else{assert $E;}", "while a{while $E{}}"}
	for _, form := range forms {
		ahead, behind, _ := strings.Cut("thread t{"+form+"}", "$E")
		for _, e := range deepTexts(api.MaxDeep) {
			if _, at, err := parse.Parse(ahead + e + behind); err != api.OK || at != 0 {
				t.Errorf("P5.1: %.200q: error %d at %d", ahead+e+behind, err, at)
			}
			checkWrong(t, ahead+"-("+e+")"+behind, len(ahead), api.ErrDeep)
		}
		for _, depth := range []int{api.MaxDeep + 1, api.MaxDeep + 2, 30, 100, 500} {
			for _, e := range deepTexts(depth) {
				checkWrong(t, ahead+e+behind, len(ahead), api.ErrDeep)
				checkWrong(t, ahead+"("+e+")"+behind, len(ahead), api.ErrDeep)
				checkWrong(t, ahead+"0*("+e+")"+behind, len(ahead), api.ErrDeep)
			}
		}
	}
}

// TestBracketsAlone: they make nothing deeper, however many they are.
func TestBracketsAlone(t *testing.T) {
	for _, n := range []int{1, api.MaxDeep - 1, api.MaxDeep, api.MaxDeep + 1, 100, 5000} {
		open, shut := strings.Repeat("(", n), strings.Repeat(")", n)
		checkBody(t, "r="+open+"7"+shut+";", tree.Stmt{Kind: tree.Set, Reg: "r", Exprs: exprs(num(7))})
		checkBody(t, "r="+open[n/2:]+"-"+open[n/2:]+"a"+shut[n/2:]+shut[n/2:]+";", tree.Stmt{Kind: tree.Set, Reg: "r", Exprs: exprs(op("neg", reg("a")))})
	}
}

// blocks: n blocks in one another, the thread's among them.
func blocks(n int, head, in string) string {
	return "thread t {" + strings.Repeat(head+" {", n-1) + in + strings.Repeat("}", n)
}

func TestDeepBlocks(t *testing.T) {
	for _, head := range []string{"while 1", "if 1", "if 1 {} else", "while 1 { lock m; } if a {} else"} {
		for n := range api.MaxDeep {
			for _, in := range []string{"", "r=1;", "while 1 {}", "if a { r=1; }", "if a { r=1; } else { r=1; }", "while 1{}while 1{}while 1{}"} {
				if n+1 == api.MaxDeep && strings.Contains(in, "{") {
					continue
				}
				if _, at, e := parse.Parse(blocks(n+1, head, in)); e != api.OK || at != 0 {
					t.Errorf("P5.1: %d blocks %q, %q: error %d at %d", n+1, head, in, e, at)
				}
			}
		}
		for _, in := range []string{"while 1 ${}", "while 1${", "while 1 ${ r = ; }", "if a ${}", "if a ${} else {}", "r=1; lock m; while 1 ${}", "while $" + deepTexts(api.MaxDeep + 1)[0] + "{}"} {
			checkMarked(t, blocks(api.MaxDeep, head, in), api.ErrDeep)
		}
		for _, in := range []string{"while 1 $;", "while 1 $(", "if 1 $", "${}", "while ${}"} {
			checkMarked(t, blocks(api.MaxDeep, head, in), api.ErrForm)
		}
	}
	for _, n := range []int{api.MaxDeep + 1, api.MaxDeep + 2, 50, 1000} {
		s := blocks(n, "while 1", "r=1;")
		checkWrong(t, s, nth(s, "{", api.MaxDeep+1), api.ErrDeep)
		s = blocks(n, "if 1{}else", "")
		checkWrong(t, s, nth(s, "{", 2*api.MaxDeep), api.ErrDeep)
	}
}

// nth: where the nth one stands (1 is the first).
func nth(s, what string, n int) int {
	at := -1
	for range n {
		at += 1 + strings.Index(s[at+1:], what)
	}
	return at
}

// TestBlocksBesideOneAnother: what is shut again counts no more, not of threads ahead, either.
func TestBlocksBesideOneAnother(t *testing.T) {
	one := blocks(api.MaxDeep, "while 1", "r=1;")
	many := strings.Repeat(one+"\n", 20) + "thread u {" + strings.Repeat("if a {} else {} while b {}", 50) + "}"
	p, at, e := parse.Parse(many)
	if e != api.OK || at != 0 || len(p.Decls) != 21 || len(p.Decls[20].Body) != 100 {
		t.Errorf("P5.1: blocks beside one another: error %d at %d", e, at)
	}
}

func TestWhichErrorIsFirst(t *testing.T) {
	deep := strings.Repeat("-", api.MaxDeep) + "1"
	deepShut := blocks(api.MaxDeep, "while 1", "while 1 ${}")
	for _, c := range []struct {
		s string
		e api.Errno
	}{
		// Split's come ahead of all others, wherever they stand.
		{"x x x $@", api.ErrForm}, {"cell if if if $01", api.ErrRange}, {"thread t{load x; r=" + deep + "; $1x", api.ErrForm}, {strings.Replace(deepShut, "$", "", 1) + "$?", api.ErrForm},
		// From the left.
		{"$x cell if", api.ErrWord}, {"cell $if if x", api.ErrForm}, {"cell x 0; $x cell 0;", api.ErrWord}, {"cell $0; x", api.ErrForm},
		{"thread t{load $=; r=" + deep + ";", api.ErrKind}, {"thread t{r=$" + deep + ";load x;", api.ErrDeep},
		{"thread t{r=store $load;}", api.ErrKind}, {"thread t{r=load $store;}", api.ErrForm}, {"thread t{$cell load x;}", api.ErrForm},
		// What goes wrong in an expression comes ahead of how deep it is, what goes wrong behind it doesn't.
		{"thread t{r=" + deep + "+$;}", api.ErrForm}, {"thread t{r=(" + deep + "$;}", api.ErrForm}, {"thread t{r=" + deep + "+$load x;}", api.ErrForm}, {"thread t{r=(" + deep + "$", api.ErrForm}, {"thread t{r=-" + deep[:api.MaxDeep] + "$;}", api.ErrForm}, {"thread t{r=(" + deep + ")<1+$", api.ErrForm},
		{"thread t{r=$" + deep + "}", api.ErrDeep}, {"thread t{r=$" + deep, api.ErrDeep}, {"thread t{r=$" + deep + " 1;}", api.ErrDeep}, {"thread t{r=$" + deep + ")", api.ErrDeep}, {"thread t{r=$" + deep + "<1<2;}", api.ErrDeep}, {"thread t{r=load x[$" + deep + ";", api.ErrDeep}, {"thread t{while $" + deep + ";", api.ErrDeep}, {"thread t{store x,$" + deep + ",1;}", api.ErrDeep}, {"thread t{if $" + deep + "{load x;}}", api.ErrDeep},
		{"thread t{store x[$" + deep + "]," + deep + ";}", api.ErrDeep}, {"thread t{store x[1],$" + deep + ";}", api.ErrDeep}, {"thread t{r=cas x,1,$" + deep + ";}", api.ErrDeep}, {"thread t{r=cas x,$" + deep + "," + deep + ";}", api.ErrDeep},
		{"thread t{store $1," + deep + ";}", api.ErrForm}, {"thread t{lock x$," + deep + ";}", api.ErrForm}, {"thread t{lock x$[" + deep + "];}", api.ErrForm}, {"thread t{r=store $x," + deep + ";}", api.ErrKind}, {"thread t{add $x," + deep + ";}", api.ErrKind},
		// Blocks too deep, ahead of what is in them.
		{strings.Replace(deepShut, "{}", "{load x;}", 1), api.ErrDeep}, {strings.Replace(deepShut, "{}", "{", 1), api.ErrDeep}, {blocks(api.MaxDeep, "while 1", "load $x; while 1 {}"), api.ErrKind}, {blocks(api.MaxDeep, "while 1", "while ${}"), api.ErrForm}, {blocks(api.MaxDeep, "while 1", "while $"+deep+"{}"), api.ErrDeep},
	} {
		checkMarked(t, c.s, c.e)
	}
}

func TestLongTexts(t *testing.T) {
	fill := func(ahead, piece, behind string) string {
		n := (api.MaxText - len(ahead) - len(behind)) / len(piece)
		s := ahead + strings.Repeat(piece, n) + behind
		return s + strings.Repeat(" ", api.MaxText-len(s))
	}
	for _, c := range []struct {
		ahead, piece, behind string
		at                   int
		e                    api.Errno
	}{
		{"", " ", "", 0, api.OK}, {"", "cell x 0;", "", 0, api.OK}, {"", "thread t{}", "", 0, api.OK}, {"thread t{", "r=1;", "}", 0, api.OK}, {"thread t{", "if 1{}else{}", "}", 0, api.OK},
		{"thread t{", "r=1;", "", api.MaxText, api.ErrForm}, {"", "x", "", 0, api.ErrWord}, {"cell ", "x", " 0;", 0, api.OK}, {"cell ", "x", "", api.MaxText, api.ErrForm},
		{"thread t{r=", "-", "1;}", 11, api.ErrDeep}, {"thread t{r=", "-", "", api.MaxText, api.ErrForm}, {"thread t{r=", "(", "", api.MaxText, api.ErrForm}, {"thread t{r=", "-(", "", api.MaxText, api.ErrForm}, {"thread t{r=", "1<(", "", api.MaxText, api.ErrForm},
		{"thread t{r=1", "+1", ";}", 11, api.ErrDeep}, {"thread t{r=1", "*1", ";}", 11, api.ErrDeep}, {"thread t{r=1", "+1", "", 11, api.ErrDeep}, {"thread t{r=1", "+1", "+;}", -3, api.ErrForm}, {"thread t{r=1", "<1", ";}", 14, api.ErrForm}, {"thread t{if ", "~!#-", "a{}}", 12, api.ErrDeep},
		{"thread t{", "while 1{", "", 9 + 8*11 + 7, api.ErrDeep}, {"thread t{", "{", "", 9, api.ErrForm}, {"thread t{", "}", "", 10, api.ErrWord}, {"", "cell ", "", 5, api.ErrForm}, {"thread t{store x[1", "+a*b", "],1;}", 17, api.ErrDeep},
	} {
		s := fill(c.ahead, c.piece, c.behind)
		at := c.at
		if at < 0 {
			at = len(strings.TrimRight(s, " ")) + at + 1
		}
		checkWrong(t, s, at, c.e)
		for _, more := range []string{" ", "@", s} {
			checkWrong(t, s+more, 0, api.ErrSize)
		}
	}
	n := (api.MaxText - len("thread t {r=a;}")) / 2
	checkBody(t, "r="+strings.Repeat("(", n)+"a"+strings.Repeat(")", n)+";", tree.Stmt{Kind: tree.Set, Reg: "r", Exprs: exprs(reg("a"))})
	checkWrong(t, "thread t{r="+strings.Repeat("(", n)+"a"+strings.Repeat(")", n-1)+";}", 11+2*n, api.ErrForm)
}

// spans: the memory of each list, its spare room included.
func spans(v reflect.Value, l [][2]uintptr) [][2]uintptr {
	switch v.Kind() {
	case reflect.Struct:
		for i := range v.NumField() {
			l = spans(v.Field(i), l)
		}
	case reflect.Slice:
		if v.Cap() > 0 {
			l = append(l, [2]uintptr{v.Pointer(), v.Pointer() + uintptr(v.Cap())*v.Type().Elem().Size()})
		}
		for i := range v.Len() {
			l = spans(v.Index(i), l)
		}
	}
	return l
}

func everything() string {
	var out strings.Builder
	out.WriteString("cell x -1+2i; array v 3; mutex m; sem s 1; budget 20;\nthread t {\n")
	m := kindTexts()
	var texts []string
	for s := range m {
		texts = append(texts, s)
	}
	slices.Sort(texts)
	for _, s := range texts {
		out.WriteString("\t" + s + " // one\n")
	}
	out.WriteString("assert (a + -b * ~c - (d < !e)) == #f;\n}\nthread u {}\n")
	return out.String()
}

func TestListsOfTheirOwn(t *testing.T) {
	p, _, e := parse.Parse(everything())
	q, _, f := parse.Parse(everything())
	if e != api.OK || f != api.OK {
		t.Fatal("everything isn't parsed")
	}
	l := spans(reflect.ValueOf(q), spans(reflect.ValueOf(p), nil))
	slices.SortFunc(l, func(a, b [2]uintptr) int { return int(a[0]) - int(b[0]) })
	for i := 1; i < len(l); i++ {
		if l[i][0] < l[i-1][1] {
			t.Fatal("R5: two lists share memory")
		}
	}
}

// TestTextNotKept: the text's memory is others' to change, as soon as Parse has answered.
func TestTextNotKept(t *testing.T) {
	s := everything()
	want, _, _ := parse.Parse(s)
	room := []byte(s + "spare room")
	got, _, e := parse.Parse(unsafe.String(&room[0], len(s)))
	if string(room) != s+"spare room" {
		t.Error("R5: the text was changed")
	}
	for i := range room {
		room[i] = '?'
	}
	if e != api.OK || whole(got) != whole(want) {
		t.Error("R5: the text was kept")
	}
}

func TestAlikeEachTime(t *testing.T) {
	s := everything()
	wrongs := []string{"x", s + "x", "thread t{" + strings.Repeat("while 1{", 20), s + "thread t{load x", s + "cell if"}
	want, _, _ := parse.Parse(s)
	text := whole(want)
	for range 3 {
		for _, w := range wrongs {
			if _, _, e := parse.Parse(w); e == api.OK {
				t.Errorf("P5.1: no error of %.40q", w)
			}
			got, at, e := parse.Parse(s)
			if e != api.OK || at != 0 || whole(got) != text {
				t.Errorf("R6: another answer behind %.40q", w)
			}
		}
	}
	if whole(want) != text {
		t.Error("R5: an answer was changed by later calls")
	}
}

// TestTokensAreAllRead: the tree's names and numbers, in order, are the text's.
func TestTokensAreAllRead(t *testing.T) {
	l, _, _ := lex.Split(everything())
	var names, found []string
	for _, x := range l {
		if x.Kind == lex.Word && !slices.Contains(reserved, x.Text) {
			names = append(names, x.Text)
		}
	}
	p, _, _ := parse.Parse(everything())
	for _, d := range p.Decls {
		if d.Name != "" {
			found = append(found, d.Name)
		}
		found = append(found, namesOf(d.Body)...)
	}
	if !slices.Equal(names, found) {
		t.Errorf("P5.1: names %v, not %v", found, names)
	}
}

func namesOf(body []tree.Stmt) []string {
	var out []string
	for _, s := range body {
		for _, w := range []string{s.Reg, s.Name} {
			if w != "" {
				out = append(out, w)
			}
		}
		for _, e := range s.Exprs {
			out = append(out, registers(e)...)
		}
		out = append(out, namesOf(s.Body)...)
		out = append(out, namesOf(s.Else)...)
	}
	return out
}

func registers(e tree.Expr) []string {
	if e.Op == "reg" {
		return []string{e.Name}
	}
	var out []string
	for _, x := range e.Parts {
		out = append(out, registers(x)...)
	}
	return out
}
