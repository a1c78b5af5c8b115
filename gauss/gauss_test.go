package gauss_test

import (
	"fmt"
	"math"
	"regexp"
	"strings"
	"testing"

	"braidwork/api"
	"braidwork/gauss"
)

const most = api.MaxPart

var minusNought = math.Copysign(0, -1)

// edgeParts: whole ones at and beyond the limit, at which a product or a square goes over it, and some between.
func edgeParts() []int {
	l := []int{0, 7, 9, 10, 11, 99, 100, 12345}
	for _, n := range []int{1, 2, 512, 724, 725, 1024, 1025, 1 << 19, most, most + 1, 1 << 21} {
		l = append(l, n, -n, n-1, 1-n)
	}
	return l
}

// badParts: those that no number that fits has.
func badParts() []float64 {
	return []float64{
		most + 1, -most - 1, 1 << 21, -1 << 32, 1 << 53, 1 << 63, -1 << 63, 1 << 64, 1e300,
		math.MaxFloat64, -math.MaxFloat64, math.Inf(1), math.Inf(-1), math.NaN(),
		0.5, -0.5, 1.5, -2.25, most - 0.5, 0.5 - most, most + 0.5, -most - 0.5,
		math.Nextafter(most, 0), math.Nextafter(most, 2*most), math.Nextafter(-most, 0), math.Nextafter(-most, -2*most),
		math.Nextafter(1, 0), math.Nextafter(1, 2), math.SmallestNonzeroFloat64, -math.SmallestNonzeroFloat64, 1e-300,
	}
}

func badNumbers() []complex128 {
	var l []complex128
	for _, x := range badParts() {
		l = append(l, complex(x, 0), complex(0, x), complex(x, x), complex(-3, x), complex(x, most), complex(x, minusNought))
	}
	return append(l, complex(math.Inf(1), math.NaN()), complex(math.NaN(), math.Inf(-1)))
}

func number(re, im int) complex128 {
	return complex(float64(re), float64(im))
}

func partIsRight(n int) bool {
	return n >= -most && n <= most
}

func edgeNumbers() [][2]int {
	var l [][2]int
	for _, re := range edgeParts() {
		for _, im := range edgeParts() {
			l = append(l, [2]int{re, im})
		}
	}
	return l
}

// bits: == can't tell -0 from 0.
func bits(c complex128) [2]uint64 {
	return [2]uint64{math.Float64bits(real(c)), math.Float64bits(imag(c))}
}

// check: what a call answers, held against what comes out in ints, if all that was handed in fits.
func check(t *testing.T, call string, got complex128, ok, in bool, re, im int) {
	t.Helper()
	if !in || !partIsRight(re) || !partIsRight(im) {
		if ok || bits(got) != bits(0) {
			t.Fatalf("P2.1: %s: %v %v, not 0 false", call, got, ok)
		}
		return
	}
	if !ok || bits(got) != bits(number(re, im)) {
		t.Fatalf("P2.1: %s: %v %v, not %v true", call, got, ok, number(re, im))
	}
}

func TestFits(t *testing.T) {
	for _, n := range edgeNumbers() {
		if c := number(n[0], n[1]); gauss.Fits(c) != (partIsRight(n[0]) && partIsRight(n[1])) {
			t.Errorf("P2.1: Fits(%v): %v", c, gauss.Fits(c))
		}
	}
	for _, c := range []complex128{most, -most, most * 1i, -most * 1i, complex(most, most), complex(-most, -most), complex(most, -most)} {
		if !gauss.Fits(c) {
			t.Errorf("P2.1: %v doesn't fit", c)
		}
	}
	for _, c := range badNumbers() {
		if gauss.Fits(c) {
			t.Errorf("P2.1: %v fits", c)
		}
	}
}

func TestMinusNoughtFits(t *testing.T) {
	for _, c := range []complex128{complex(minusNought, 0), complex(0, minusNought), complex(minusNought, minusNought), complex(minusNought, most), complex(-most, minusNought)} {
		if !gauss.Fits(c) {
			t.Errorf("P2.1: %v doesn't fit", c)
		}
	}
}

func TestAddSubMul(t *testing.T) {
	l := edgeNumbers()
	for i := 0; i < len(l); i += 7 {
		for j := 0; j < len(l); j += 5 {
			checkPair(t, l[i], l[j])
		}
	}
	for _, n := range l {
		for _, m := range [][2]int{{0, 0}, {1, 0}, {-1, 0}, {0, 1}, {0, -1}, {most, 0}, {0, -most}, {1, -2}, {-724, 725}, {1024, 1024}, {most + 1, 0}, {0, -most - 1}} {
			checkPair(t, n, m)
			checkPair(t, m, n)
		}
	}
}

func checkPair(t *testing.T, a, b [2]int) {
	t.Helper()
	x, y := number(a[0], a[1]), number(b[0], b[1])
	in := partIsRight(a[0]) && partIsRight(a[1]) && partIsRight(b[0]) && partIsRight(b[1])
	c, ok := gauss.Add(x, y)
	check(t, fmt.Sprintf("Add(%v, %v)", x, y), c, ok, in, a[0]+b[0], a[1]+b[1])
	c, ok = gauss.Sub(x, y)
	check(t, fmt.Sprintf("Sub(%v, %v)", x, y), c, ok, in, a[0]-b[0], a[1]-b[1])
	c, ok = gauss.Mul(x, y)
	check(t, fmt.Sprintf("Mul(%v, %v)", x, y), c, ok, in, a[0]*b[0]-a[1]*b[1], a[0]*b[1]+a[1]*b[0])
}

func TestKnownAnswers(t *testing.T) {
	for _, c := range []struct {
		name string
		call func(a, b complex128) (complex128, bool)
		a, b complex128
		want complex128
		ok   bool
	}{
		{"Add", gauss.Add, 3 + 4i, 1 - 2i, 4 + 2i, true},
		{"Add", gauss.Add, most - 1, 1, most, true},
		{"Add", gauss.Add, most, 1, 0, false},
		{"Add", gauss.Add, most * 1i, 1i, 0, false},
		{"Add", gauss.Add, -most, -1, 0, false},
		{"Add", gauss.Add, most + 1, -1, 0, false},
		{"Add", gauss.Add, -1, most + 1, 0, false},
		{"Add", gauss.Add, 0.5, 0.5, 0, false},
		{"Sub", gauss.Sub, 3 + 4i, 1 - 2i, 2 + 6i, true},
		{"Sub", gauss.Sub, 1, 3, -2, true},
		{"Sub", gauss.Sub, 1 - most, 1, -most, true},
		{"Sub", gauss.Sub, -most, 1, 0, false},
		{"Sub", gauss.Sub, most * 1i, -1i, 0, false},
		{"Sub", gauss.Sub, most + 1, 1, 0, false},
		{"Sub", gauss.Sub, 1.5, 0.5, 0, false},
		{"Mul", gauss.Mul, 3 + 4i, 1 - 2i, 11 - 2i, true},
		{"Mul", gauss.Mul, 1i, 1i, -1, true},
		{"Mul", gauss.Mul, 1024, 1024, most, true},
		{"Mul", gauss.Mul, 1024, -1024i, -most * 1i, true},
		{"Mul", gauss.Mul, 1024, 1025, 0, false},
		{"Mul", gauss.Mul, most + most*1i, most + most*1i, 0, false},
		{"Mul", gauss.Mul, most, 0, 0, true},
		{"Mul", gauss.Mul, most + 1, 0, 0, false},
		{"Mul", gauss.Mul, 0, most + 1, 0, false},
		{"Mul", gauss.Mul, 0.5, 2, 0, false},
	} {
		if got, ok := c.call(c.a, c.b); ok != c.ok || bits(got) != bits(c.want) {
			t.Errorf("P2.1: %s(%v, %v): %v %v, not %v %v", c.name, c.a, c.b, got, ok, c.want, c.ok)
		}
	}
}

func TestConjNorm(t *testing.T) {
	for _, n := range edgeNumbers() {
		a := number(n[0], n[1])
		in := partIsRight(n[0]) && partIsRight(n[1])
		c, ok := gauss.Conj(a)
		check(t, fmt.Sprintf("Conj(%v)", a), c, ok, in, n[0], -n[1])
		c, ok = gauss.Norm(a)
		check(t, fmt.Sprintf("Norm(%v)", a), c, ok, in, n[0]*n[0]+n[1]*n[1], 0)
	}
	for _, c := range []struct {
		a, norm complex128
		ok      bool
	}{
		{3 + 4i, 25, true},
		{-3 - 4i, 25, true},
		{1024, most, true},
		{-1024i, most, true},
		{1024 + 1i, 0, false},
		{1025, 0, false},
		{724 + 724i, 1048352, true},
		{724 - 725i, 0, false},
		{most, 0, false},
	} {
		if got, ok := gauss.Norm(c.a); ok != c.ok || bits(got) != bits(c.norm) {
			t.Errorf("P2.1: Norm(%v): %v %v, not %v %v", c.a, got, ok, c.norm, c.ok)
		}
	}
}

func TestWhatDoesntFitHasNoAnswer(t *testing.T) {
	for _, bad := range badNumbers() {
		for _, good := range []complex128{0, 1, -1i, 3 + 4i, most, -most - most*1i, complex(minusNought, minusNought), bad, -bad} {
			for i, call := range []func(a, b complex128) (complex128, bool){gauss.Add, gauss.Sub, gauss.Mul} {
				for _, l := range [][2]complex128{{bad, good}, {good, bad}} {
					if got, ok := call(l[0], l[1]); ok || bits(got) != bits(0) {
						t.Errorf("P2.1, R3: call %d of %v, %v: %v %v", i, l[0], l[1], got, ok)
					}
				}
			}
		}
		if got, ok := gauss.Conj(bad); ok || bits(got) != bits(0) {
			t.Errorf("P2.1, R3: Conj(%v): %v %v", bad, got, ok)
		}
		if got, ok := gauss.Norm(bad); ok || bits(got) != bits(0) {
			t.Errorf("P2.1, R3: Norm(%v): %v %v", bad, got, ok)
		}
	}
}

// TestNoughtsHaveNoSign: every way in which floats make a -0, handed in or coming out.
func TestNoughtsHaveNoSign(t *testing.T) {
	l := []float64{0, minusNought, 1, -1}
	var numbers []complex128
	for _, re := range l {
		for _, im := range l {
			numbers = append(numbers, complex(re, im))
		}
	}
	unsigned := func(call string, a, b, got complex128, ok bool) {
		if !ok || real(got) == 0 && math.Signbit(real(got)) || imag(got) == 0 && math.Signbit(imag(got)) {
			t.Errorf("P2.1: %s of %v, %v: %v %v", call, a, b, got, ok)
		}
	}
	for _, a := range numbers {
		for _, b := range numbers {
			c, ok := gauss.Add(a, b)
			unsigned("Add", a, b, c, ok)
			c, ok = gauss.Sub(a, b)
			unsigned("Sub", a, b, c, ok)
			c, ok = gauss.Mul(a, b)
			unsigned("Mul", a, b, c, ok)
		}
		c, ok := gauss.Conj(a)
		unsigned("Conj", a, 0, c, ok)
		c, ok = gauss.Norm(a)
		unsigned("Norm", a, 0, c, ok)
	}
}

func TestLess(t *testing.T) {
	// From the least to the greatest.
	l := []complex128{
		complex(math.Inf(-1), 0), -most - 1, -most - most*1i, -most, -most + most*1i, -1 + 5i, -0.5,
		-most * 1i, -1i, 0, 1i, 2i, most * 1i, 1 - 5i, 1, 1 + 0.5i, 1 + 1i, 2 - most*1i, 2, most, most + 1i, most + 1,
		complex(math.Inf(1), math.Inf(-1)), complex(math.Inf(1), 0),
	}
	for i, a := range l {
		for j, b := range l {
			if gauss.Less(a, b) != (i < j) {
				t.Errorf("P2.1: Less(%v, %v): %v", a, b, gauss.Less(a, b))
			}
		}
	}
	// A nought without a sign is as great as one with it: the imaginary parts tell.
	for _, c := range [][2]complex128{{complex(minusNought, 1), 2i}, {1i, complex(minusNought, 2)}} {
		if !gauss.Less(c[0], c[1]) || gauss.Less(c[1], c[0]) {
			t.Errorf("P2.1: Less of %v, %v", c[0], c[1])
		}
	}
	for _, c := range []complex128{complex(minusNought, 0), complex(0, minusNought), complex(minusNought, minusNought)} {
		if gauss.Less(c, 0) || gauss.Less(0, c) {
			t.Errorf("P2.1: %v and 0 are told apart", c)
		}
	}
	// What is no number is neither less nor greater.
	no := math.NaN()
	for _, c := range [][2]complex128{{complex(no, 1), 2i}, {0, complex(no, 1)}, {complex(no, 1), complex(no, 2)}, {complex(1, no), 1}, {1, complex(1, no)}} {
		if gauss.Less(c[0], c[1]) || gauss.Less(c[1], c[0]) {
			t.Errorf("P2.1: Less of %v, %v", c[0], c[1])
		}
	}
	if !gauss.Less(complex(1, no), complex(2, no)) {
		t.Error("P2.1: the real parts tell, whatever the imaginary ones are")
	}
}

func TestTruth(t *testing.T) {
	if bits(gauss.Truth(true)) != bits(1) || bits(gauss.Truth(false)) != bits(0) {
		t.Errorf("P2.1: Truth: %v, %v", gauss.Truth(true), gauss.Truth(false))
	}
}

var knownTexts = map[string]complex128{
	"0":                 0,
	"7":                 7,
	"-7":                -7,
	"10":                10,
	"1i":                1i,
	"-1i":               -1i,
	"2i":                2i,
	"-2i":               -2i,
	"30i":               30i,
	"3+4i":              3 + 4i,
	"3-4i":              3 - 4i,
	"-3+4i":             -3 + 4i,
	"-3-4i":             -3 - 4i,
	"-1-1i":             -1 - 1i,
	"1+1i":              1 + 1i,
	"100+200i":          100 + 200i,
	"1048576":           most,
	"-1048576":          -most,
	"1048576i":          most * 1i,
	"-1048576i":         -most * 1i,
	"1048576+1048576i":  most + most*1i,
	"-1048576-1048576i": -most - most*1i,
}

func TestKnownTexts(t *testing.T) {
	for s, c := range knownTexts {
		if got := gauss.Text(c); got != s {
			t.Errorf("P2.2: Text(%v): %q, not %q", c, got, s)
		}
		if got, ok := gauss.Parse(s); !ok || bits(got) != bits(c) {
			t.Errorf("P2.2: Parse(%q): %v %v, not %v", s, got, ok, c)
		}
	}
}

func TestTextOfMinusNought(t *testing.T) {
	for _, c := range []struct {
		re, im float64
		want   string
	}{
		{minusNought, 0, "0"},
		{0, minusNought, "0"},
		{minusNought, minusNought, "0"},
		{minusNought, 2, "2i"},
		{minusNought, -2, "-2i"},
		{5, minusNought, "5"},
		{-5, minusNought, "-5"},
	} {
		if got := gauss.Text(complex(c.re, c.im)); got != c.want {
			t.Errorf("P2.2: Text of %v, %v: %q, not %q", c.re, c.im, got, c.want)
		}
	}
}

// libraryText: of parts that fit, by fmt's signs.
func libraryText(re, im int) string {
	if im == 0 {
		return fmt.Sprint(re)
	}
	if re == 0 {
		return fmt.Sprintf("%di", im)
	}
	return fmt.Sprintf("%d%+di", re, im)
}

func TestTextThereAndBack(t *testing.T) {
	for _, n := range edgeNumbers() {
		c := number(n[0], n[1])
		s := libraryText(n[0], n[1])
		if !partIsRight(n[0]) || !partIsRight(n[1]) {
			if got := gauss.Text(c); got != "" {
				t.Errorf("P2.2: Text(%v): %q", c, got)
			}
			if got, ok := gauss.Parse(s); ok || bits(got) != bits(0) {
				t.Errorf("P2.2: Parse(%q): %v %v", s, got, ok)
			}
			continue
		}
		if got := gauss.Text(c); got != s {
			t.Errorf("P2.2: Text(%v): %q, not %q", c, got, s)
		}
		if got, ok := gauss.Parse(s); !ok || bits(got) != bits(c) {
			t.Errorf("P2.2: Parse(%q): %v %v, not %v", s, got, ok, c)
		}
	}
}

func TestTextOfWhatDoesntFit(t *testing.T) {
	for _, c := range badNumbers() {
		if got := gauss.Text(c); got != "" {
			t.Errorf("P2.2: Text(%v): %q", c, got)
		}
	}
}

func TestParseOfNoText(t *testing.T) {
	for _, s := range []string{
		"", " ", "i", "+", "-", "+i", "-i", "--", "+-", "ii", "1ii", "-0", "+0", "0i", "-0i", "+0i",
		"+3", "+3i", "+3+4i", "++3", "--3", "3+", "3-", "3+i", "3-i", "3+4", "3-4", "3+0i", "3-0i", "0+3i", "0-3i", "-0+3i", "0+0i",
		"007", "00", "01", "-01", "01i", "-01i", "3+04i", "03+4i", "3-04i", "00i",
		" 3", "3 ", "3 +4i", "3+ 4i", "3 + 4i", "3+4 i", "3+4i ", "\t3", "3\n", "- 3", "3\x00", "\x003",
		"4i+3", "4i3", "-4i+3", "4i+3i", "i4", "i3+4", "3i+4i", "3+4i+5", "3+4i5", "3+4+5i", "3+4-5i", "3-4+5i", "3++4i", "3+-4i", "3-+4i", "3--4i",
		"1048577", "-1048577", "1048577i", "-1048577i", "1048577+1i", "1-1048577i", "1+1048577i", "2097152", "9999999", "10485760",
		"9223372036854775807", "9223372036854775808", "-9223372036854775808", "18446744073709551616", "18446744073709551617", "4294967297", "4294967297i", "18446744073709551617i",
		"3.0", "3.", ".5", "0.5", "3e2", "1e0", "0x3", "0b1", "0o7", "3_0", "1_048_576", "inf", "Inf", "NaN", "+Inf", "Infi", "NaNi",
		"3+4I", "3+4j", "(3+4i)", "3,4", "a", "3a", "a3", "3*i", "\u0663", "3\u22124i", "\u22123", "\uff13", "\xff", "3\xff", "\xe2", "3+4\u0131",
		strings.Repeat("0", 1000) + "3", strings.Repeat("9", 1000), strings.Repeat("9", 1000) + "i", strings.Repeat("-", 1000) + "3i", "1+" + strings.Repeat("0", 1000) + "1i",
	} {
		if got, ok := gauss.Parse(s); ok || bits(got) != bits(0) {
			t.Errorf("P2.2, R3: Parse(%q): %v %v", s, got, ok)
		}
	}
}

// TestParseOfAllShortTexts: just those that are some number's Text are taken, and the number is that one.
func TestParseOfAllShortTexts(t *testing.T) {
	form := regexp.MustCompile(`^(0|-?[1-9][0-9]*|-?[1-9][0-9]*i|-?[1-9][0-9]*[+-][1-9][0-9]*i)$`)
	var taken int
	var grow func(s string, more int)
	grow = func(s string, more int) {
		got, ok := gauss.Parse(s)
		if ok != form.MatchString(s) {
			t.Fatalf("P2.2: Parse(%q): %v %v", s, got, ok)
		}
		if ok && gauss.Text(got) != s || !ok && bits(got) != bits(0) {
			t.Fatalf("P2.2: Parse(%q): %v, whose Text is %q", s, got, gauss.Text(got))
		}
		if ok {
			taken++
		}
		if more == 0 {
			return
		}
		for _, c := range "01+-i 9" {
			grow(s+string(c), more-1)
		}
	}
	grow("", 6)
	if taken == 0 {
		t.Error("P2.2: none is taken")
	}
}

// TestAskedAgain: nothing is kept from call to call.
func TestAskedAgain(t *testing.T) {
	a, _ := gauss.Parse("3+4i")
	gauss.Parse("wrong")
	gauss.Add(most, most)
	b, ok := gauss.Parse("3+4i")
	if !ok || a != b || gauss.Text(a) != "3+4i" {
		t.Errorf("R6: Parse: %v, then %v", a, b)
	}
}
