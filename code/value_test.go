package code_test

import (
	"fmt"
	"math"
	"runtime/debug"
	"strings"
	"testing"

	"braidwork/api"
	"braidwork/code"
	"braidwork/tree"
)

func num(c complex128) tree.Expr {
	return tree.Expr{Num: c}
}

func reg(name string) tree.Expr {
	return tree.Expr{Op: "reg", Name: name}
}

func op(op string, parts ...tree.Expr) tree.Expr {
	return tree.Expr{Op: op, Parts: parts}
}

// bits: floats have noughts with a sign, which == doesn't tell.
func bits(c complex128) [2]uint64 {
	return [2]uint64{math.Float64bits(real(c)), math.Float64bits(imag(c))}
}

func checkValue(t *testing.T, e tree.Expr, regNames []string, regs []complex128, want complex128, ok bool) {
	t.Helper()
	got, gotOk := code.Value(e, regNames, regs)
	if gotOk != ok || bits(got) != bits(want) {
		t.Errorf("P7.2: %.200s of %q, %v: %v %v, not %v %v", e.Text(), regNames, regs, got, gotOk, want, ok)
	}
}

// checkText: of a text whose registers are a, b, c, d.
func checkText(t *testing.T, s string, want complex128, ok bool) {
	t.Helper()
	checkValue(t, expr(t, s), []string{"a", "b", "c", "d"}, []complex128{3 + 4i, -2, 5i, 1048576}, want, ok)
}

func TestValues(t *testing.T) {
	for s, want := range map[string]complex128{
		"0": 0, "7": 7, "2i": 2i, "1048576": 1048576, "1048576i": 1048576i,
		"a": 3 + 4i, "b": -2, "c": 5i, "d": 1048576, "q": 0,
		"a + b": 1 + 4i, "a + c": 3 + 9i, "b + 2": 0, "a + q": 3 + 4i,
		"a - b": 5 + 4i, "b - a": -5 - 4i, "c - 5i": 0, "q - c": -5i, "c - a": -3 + 1i,
		"a * b": -6 - 8i, "a * c": -20 + 15i, "c * c": -25, "a * a": -7 + 24i, "a * q": 0, "b * 3i": -6i,
		"a == a": 1, "a == 3": 0, "a == 4i": 0, "b == b": 1, "c == 5": 0, "q == 0": 1, "3 + 4i == a": 1, "a == ~a": 0,
		"a != a": 0, "a != 3": 1, "a != 4i": 1, "q != 0": 0, "c != ~c": 1,
		"b < a": 1, "a < b": 0, "a < a": 0, "3 + 3i < a": 1, "a < 3 + 5i": 1, "3 + 5i < a": 0, "c < 1": 1, "1 < c": 0, "-c < c": 1, "b < q": 1, "4 < a": 0,
		"-a": -3 - 4i, "-b": 2, "-c": -5i, "-d": -1048576, "-0": 0, "-q": 0, "--a": 3 + 4i,
		"~a": 3 - 4i, "~b": -2, "~c": -5i, "~0": 0, "~~a": 3 + 4i,
		"!a": 0, "!b": 0, "!c": 0, "!0": 1, "!q": 1, "!!a": 1, "!!q": 0, "!(1i * q)": 1,
		"#a": 25, "#b": 4, "#c": 25, "#0": 0, "#q": 0, "#(1 + 1i)": 2,
		"a + b * c": 3 - 6i, "(a + b) * c": -20 + 5i, "a - b - c": 5 - 1i, "a - (b - c)": 5 + 9i, "-a * b": 6 + 8i, "#a == 25": 1, "1 - 2 < 0 * 5": 1, "(a < b) + (b < a)": 1, "!(a == b) * 7i": 7i, "~(a * c) + -b": -18 - 15i,
	} {
		checkText(t, s, want, true)
	}
}

// TestWhatFits: what comes out just fits, or doesn't.
func TestWhatFits(t *testing.T) {
	for s, want := range map[string]complex128{
		"1048575 + 1": api.MaxPart, "d + 0": api.MaxPart, "1048575i + 1i": api.MaxPart * 1i, "d - 1 + 1": api.MaxPart, "-d - 0": -api.MaxPart, "1 - d - 1": -api.MaxPart, "-1i - 1048575i": -api.MaxPart * 1i,
		"d + 1048576i": complex(api.MaxPart, api.MaxPart), "-(d + 1048576i)": complex(-api.MaxPart, -api.MaxPart), "~(d + 1048576i)": complex(api.MaxPart, -api.MaxPart),
		"1024 * 1024": api.MaxPart, "1024i * 1024i": -api.MaxPart, "1024 * 1024i": api.MaxPart * 1i, "524288 * 2": api.MaxPart, "(1024 + 1024i) * (512 - 512i)": api.MaxPart, "(724 + 724i) * (724 + 724i)": 1048352i,
		"#1024": api.MaxPart, "#1024i": api.MaxPart, "#(724 + 724i)": 1048352, "d == d": 1, "-d < d": 1, "d * -1": -api.MaxPart, "d * 1i": api.MaxPart * 1i, "!d": 0,
	} {
		checkText(t, s, want, true)
	}
	for _, s := range []string{
		"d + 1", "1 + d", "1048576i + 1i", "d + d", "-d - 1", "-d + -1", "-1i - 1048576i", "d + 1i - -1",
		"1024 * 1025", "1025i * 1024i", "1024 * 1025i", "524289 * 2", "d * d", "(1024 + 1024i) * (513 - 513i)", "(725 + 725i) * (725 + 725i)", "-d * 2", "d * 2i",
		"#1025", "#1025i", "#(725 + 725i)", "#(1024 + 1i)", "#d", "#-d",
	} {
		checkText(t, s, 0, false)
		// In the middle of another one, too: nothing is taken back, or left out.
		for _, form := range []string{"-(%s)", "~(%s)", "!(%s)", "#(%s)", "0 * (%s)", "(%s) * 0", "(%s) - (%s)", "(%s) == (%s)", "1 != (%s)", "(%s) < 1", "a + b * (0 - (%s))", "!!(b == (%s))", "(%s) - d - d", "-1 + (%s)"} {
			checkText(t, strings.ReplaceAll(form, "%s", s), 0, false)
		}
	}
}

func TestRegisters(t *testing.T) {
	for _, c := range []struct {
		names []string
		regs  []complex128
		want  complex128
	}{
		{nil, nil, 0}, {[]string{}, []complex128{}, 0}, {nil, []complex128{7}, 0}, {[]string{"b"}, []complex128{7}, 0}, {[]string{""}, []complex128{7}, 0}, {[]string{"aa", "A"}, []complex128{7, 8}, 0},
		{[]string{"a"}, []complex128{7 - 1i}, 7 - 1i}, {[]string{"b", "a"}, []complex128{7, 8i}, 8i}, {[]string{"a", "b"}, []complex128{7, 8}, 7},
		// Names without a register, registers without a name.
		{[]string{"a"}, nil, 0}, {[]string{"b", "a"}, []complex128{7}, 0}, {[]string{"b", "a"}, []complex128{}, 0}, {[]string{"a", "b"}, []complex128{7}, 7}, {[]string{"a"}, []complex128{7, 8, 9}, 7}, {[]string{"b", "a"}, []complex128{7, 8, 9}, 8},
	} {
		checkValue(t, reg("a"), c.names, c.regs, c.want, true)
		checkValue(t, op("-", reg("a"), num(1)), c.names, c.regs, c.want-1, true)
		checkValue(t, op("==", num(c.want), reg("a")), c.names, c.regs, 1, true)
	}
	eight := []string{"a", "b", "c", "d", "e", "f", "g", "h"}
	regs := []complex128{1, 2i, 3, 4i, 5, 6i, 7, 8i}
	for i, name := range eight {
		checkValue(t, reg(name), eight, regs, regs[i], true)
	}
}

// TestRegistersThatDontFit: a register may hold anything.
func TestRegistersThatDontFit(t *testing.T) {
	names := []string{"a", "b"}
	for _, x := range []float64{0.5, -0.25, api.MaxPart + 1, -api.MaxPart - 1, api.MaxPart + 0.5, 1e300, math.SmallestNonzeroFloat64, math.NaN(), math.Inf(1), math.Inf(-1)} {
		for _, c := range []complex128{complex(x, 0), complex(0, x), complex(x, x), complex(1, x)} {
			regs := []complex128{c, 1}
			for _, e := range []tree.Expr{reg("a"), op("neg", reg("a")), op("conj", reg("a")), op("not", reg("a")), op("norm", reg("a")), op("*", num(0), reg("a")), op("*", reg("a"), reg("q")), op("==", reg("a"), reg("a")), op("!=", reg("b"), reg("a")), op("<", reg("a"), reg("b")), op("+", reg("a"), num(2)), op("-", reg("a"), reg("a")), op("not", op("==", reg("a"), reg("b")))} {
				checkValue(t, e, names, regs, 0, false)
			}
			checkValue(t, reg("b"), names, regs, 1, true)
			checkValue(t, op("+", reg("b"), reg("q")), names, regs, 1, true)
		}
	}
	minus := math.Copysign(0, -1)
	for _, c := range []complex128{complex(minus, 0), complex(0, minus), complex(minus, minus)} {
		regs := []complex128{c}
		for _, o := range []string{"neg", "conj", "norm"} {
			checkValue(t, op(o, reg("a")), names, regs, 0, true)
		}
		checkValue(t, reg("a"), names, regs, 0, true)
		checkValue(t, op("not", reg("a")), names, regs, 1, true)
		checkValue(t, op("==", reg("a"), num(0)), names, regs, 1, true)
		checkValue(t, op("<", reg("a"), num(0)), names, regs, 0, true)
		checkValue(t, op("*", reg("a"), num(-1)), names, regs, 0, true)
	}
}

// TestDeepExpressions: with so little room for calls in one another that these can't go as deep as the expressions do.
func TestDeepExpressions(t *testing.T) {
	defer debug.SetMaxStack(debug.SetMaxStack(1 << 20))
	for _, n := range []int{0, 1, api.MaxDeep, 1001, 500000} {
		odd := float64(n % 2)
		chain := func(about func(tree.Expr) tree.Expr) tree.Expr {
			e := reg("a")
			for range n {
				e = about(e)
			}
			return e
		}
		regs := []complex128{1 + 2i}
		names := []string{"a"}
		sign := complex(1-2*odd, 0)
		checkValue(t, chain(func(e tree.Expr) tree.Expr { return op("neg", e) }), names, regs, sign*(1+2i), true)
		checkValue(t, chain(func(e tree.Expr) tree.Expr { return op("-", num(1), e) }), names, regs, complex(1-odd, 2-4*odd), true)
		checkValue(t, chain(func(e tree.Expr) tree.Expr { return op("+", e, num(1)) }), names, regs, complex(float64(n)+1, 2), true)
		checkValue(t, chain(func(e tree.Expr) tree.Expr { return op("-", op("*", e, num(1)), op("neg", num(2))) }), names, regs, complex(float64(2*n)+1, 2), 2*n+1 <= api.MaxPart)
		too := op("+", num(api.MaxPart), num(1))
		checkValue(t, op("+", too, chain(func(e tree.Expr) tree.Expr { return op("conj", e) })), names, regs, 0, false)
		checkValue(t, op("*", chain(func(e tree.Expr) tree.Expr { return op("neg", e) }), too), names, regs, 0, false)
	}
}

func TestWideExpression(t *testing.T) {
	e := reg("a")
	for range 16 {
		e = op("+", e, e)
	}
	checkValue(t, e, []string{"a"}, []complex128{16 - 15i}, (16-15i)*(1<<16), true)
	checkValue(t, e, []string{"a"}, []complex128{17}, 0, false)
	checkValue(t, op("-", e, e), []string{"a"}, []complex128{16}, 0, true)
}

func TestNothingOfAValueIsChanged(t *testing.T) {
	e := expr(t, "a * (b - 2i) + ~q < -a * #b")
	names := []string{"a", "b", "spare", "q"}[:2]
	regs := []complex128{1 + 1i, -2, 7, 8}[:2]
	ahead := whole(e) + whole(names) + whole(regs)
	first, ok := code.Value(e, names, regs)
	for range 3 {
		if c, again := code.Value(e, names, regs); c != first || again != ok {
			t.Errorf("R6: %v %v, then %v %v", first, ok, c, again)
		}
		if whole(e)+whole(names)+whole(regs) != ahead {
			t.Fatal("R5: what was handed in was changed")
		}
		code.Value(op("+", num(api.MaxPart), num(1)), names, regs)
	}
	// What was isn't kept.
	checkValue(t, op("+", reg("a"), reg("b")), names, regs, -1+1i, true)
	regs[0], names[1] = 5, "c"
	checkValue(t, op("+", reg("a"), reg("b")), names, regs, 5, true)
}

// TestWrongExpressions: those that Parse never answers: whatever is told of them, nothing panics.
func TestWrongExpressions(t *testing.T) {
	wrong := []tree.Expr{{}, op("+"), op("neg"), op("+", num(1)), op("neg", num(1), num(2)), op("<", num(1), num(2), num(3)), op("other", num(1)), op("other", num(1), num(2)), op("other"), {Op: "reg"}, {Op: "reg", Name: "a", Parts: []tree.Expr{{}}}, {Num: 1, Parts: []tree.Expr{{}, {}}}, num(complex(math.NaN(), math.Inf(-1))), num(0.5)}
	for _, a := range wrong {
		code.Value(a, nil, nil)
		code.Value(a, []string{"a"}, []complex128{1})
		for _, b := range wrong {
			code.Value(op("*", a, b), []string{"a", ""}, nil)
			code.Value(op("not", op("-", b, a)), nil, []complex128{1})
		}
	}
	checkValue(t, num(0.5), nil, nil, 0, false)
	checkValue(t, op("not", num(complex(0, math.NaN()))), nil, nil, 0, false)
}

// whole numbers, of which a value is made once more, without floats.
type gaussian struct{ re, im int }

func (g gaussian) fits() bool {
	return max(g.re, -g.re, g.im, -g.im) <= 1<<20
}

func truth(b bool) gaussian {
	if b {
		return gaussian{1, 0}
	}
	return gaussian{}
}

// expected: a second reading of the chapter.
func expected(e tree.Expr, regs map[string]gaussian) (gaussian, bool) {
	parts := []gaussian{}
	for _, x := range e.Parts {
		g, ok := expected(x, regs)
		if !ok {
			return gaussian{}, false
		}
		parts = append(parts, g)
	}
	parts = append(parts, gaussian{}, gaussian{})
	a, b := parts[0], parts[1]
	var out gaussian
	switch e.Op {
	case "":
		out = gaussian{int(real(e.Num)), int(imag(e.Num))}
	case "reg":
		out = regs[e.Name]
	case "+":
		out = gaussian{a.re + b.re, a.im + b.im}
	case "-":
		out = gaussian{a.re - b.re, a.im - b.im}
	case "*":
		out = gaussian{a.re*b.re - a.im*b.im, a.re*b.im + a.im*b.re}
	case "==":
		out = truth(a == b)
	case "!=":
		out = truth(a != b)
	case "<":
		out = truth(a.re < b.re || a.re == b.re && a.im < b.im)
	case "neg":
		out = gaussian{-a.re, -a.im}
	case "conj":
		out = gaussian{a.re, -a.im}
	case "not":
		out = truth(a == gaussian{})
	case "norm":
		out = gaussian{a.re*a.re + a.im*a.im, 0}
	}
	return out, out.fits()
}

// TestMadeExpressions: against a second reading of the chapter.
func TestMadeExpressions(t *testing.T) {
	m := source(7)
	names := []string{"r0", "r1", "r2", "r3", "r4"}
	well, wrong := 0, 0
	for range 40000 {
		var regs []complex128
		known := map[string]gaussian{}
		for _, name := range names[:m.below(6)] {
			g := gaussian{m.part(), m.part()}
			known[name] = g
			regs = append(regs, complex(float64(g.re), float64(g.im)))
		}
		e := m.expr(1 + m.below(6))
		want, ok := expected(e, known)
		if !ok {
			want = gaussian{}
			wrong++
		} else {
			well++
		}
		checkValue(t, e, names, regs, complex(float64(want.re), float64(want.im)), ok)
	}
	if well < 10000 || wrong < 1000 {
		t.Errorf("%d values, %d that don't fit", well, wrong)
	}
}

// source of numbers, always the same ones.
type source uint64

func (s *source) below(n int) int {
	*s = *s*6364136223846793005 + 1442695040888963407
	return int(uint64(*s)>>33) % n
}

// part: of a number, small ones and such as are almost too great.
func (s *source) part() int {
	edges := []int{0, 1, 1, 2, 3, 7, 724, 1024, 1 << 10, 1<<20 - 1, 1 << 20}
	n := edges[s.below(len(edges))]
	if s.below(2) == 0 {
		return -n
	}
	return n
}

func (s *source) expr(depth int) tree.Expr {
	if depth == 1 || s.below(4) == 0 {
		if s.below(2) == 0 {
			return reg(fmt.Sprint("r", s.below(8)))
		}
		n := float64(max(s.part(), 0))
		return num([]complex128{complex(n, 0), complex(0, n)}[s.below(2)])
	}
	o := []string{"+", "-", "*", "==", "!=", "<", "neg", "conj", "not", "norm"}[s.below(10)]
	if len(o) > 2 {
		return op(o, s.expr(depth-1))
	}
	return op(o, s.expr(depth-1), s.expr(depth-1))
}

// TestValuesInAThread: of an instruction's expressions, by its thread's registers.
func TestValuesInAThread(t *testing.T) {
	x := read(t, "array v 3; thread t { a = 2 + 1i; store v[!(a == b)], a * a; }").Threads[0]
	regs := []complex128{2 + 1i, 0}
	checkValue(t, x.Code[0].Exprs[0], x.Regs, nil, 2+1i, true)
	checkValue(t, x.Code[1].Exprs[0], x.Regs, regs, 1, true)
	checkValue(t, x.Code[1].Exprs[1], x.Regs, regs, 3+4i, true)
}
