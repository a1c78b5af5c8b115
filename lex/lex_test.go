package lex_test

import (
	"fmt"
	"math"
	"math/big"
	"regexp"
	"runtime"
	"slices"
	"strings"
	"testing"
	"unsafe"

	"braidwork/api"
	"braidwork/lex"
)

var (
	gapForm    = regexp.MustCompile(`^(?:[ \t\n]|//[^\n]*)+`)
	wordForm   = regexp.MustCompile(`^[A-Za-z_][A-Za-z_0-9]*`)
	numberForm = regexp.MustCompile(`^[0-9]+i?`)
	signForm   = regexp.MustCompile(`^(?:==|!=|[][(){};,=!<+*~#-])`)
	behindForm = regexp.MustCompile(`^[A-Za-z_0-9]`)
	textForm   = regexp.MustCompile(`^(?:0|[1-9][0-9]*i?)$`)
)

// expected: what Split must answer, told by the forms of the chapter's words.
func expected(s string) ([]lex.Token, int, api.Errno) {
	if len(s) > api.MaxText {
		return nil, 0, api.ErrSize
	}
	var l []lex.Token
	for at := 0; ; {
		at += len(gapForm.FindString(s[at:]))
		if at == len(s) {
			return append(l, lex.Token{Kind: lex.End, At: at}), 0, api.OK
		}
		t := lex.Token{At: at}
		if w := wordForm.FindString(s[at:]); w != "" {
			t.Kind, t.Text = lex.Word, w
		} else if n := numberForm.FindString(s[at:]); n != "" {
			if behindForm.MatchString(s[at+len(n):]) {
				return nil, at, api.ErrForm
			}
			num, ok := number(n)
			if !ok {
				return nil, at, api.ErrRange
			}
			t.Kind, t.Text, t.Num = lex.Number, n, num
		} else if g := signForm.FindString(s[at:]); g != "" {
			t.Kind, t.Text = lex.Sign, g
		} else {
			return nil, at, api.ErrForm
		}
		l = append(l, t)
		at += len(t.Text)
	}
}

// number: by big numbers, which have no end at which they could wrap round.
func number(text string) (complex128, bool) {
	if !textForm.MatchString(text) {
		return 0, false
	}
	digits, imaginary := strings.CutSuffix(text, "i")
	n, _ := new(big.Int).SetString(digits, 10)
	if n.Cmp(big.NewInt(api.MaxPart)) > 0 {
		return 0, false
	}
	if imaginary {
		return complex(0, float64(n.Int64())), true
	}
	return complex(float64(n.Int64()), 0), true
}

// bits: == can't tell -0 from 0.
func bits(c complex128) [2]uint64 {
	return [2]uint64{math.Float64bits(real(c)), math.Float64bits(imag(c))}
}

func sameToken(a, b lex.Token) bool {
	return a == b && bits(a.Num) == bits(b.Num)
}

// short: of a long text just the beginning.
func short(s string) string {
	if len(s) > 60 {
		return fmt.Sprintf("%q.. (%d bytes)", s[:60], len(s))
	}
	return fmt.Sprintf("%q", s)
}

// checkTokens: a text that is right.
func checkTokens(t *testing.T, s string, want ...lex.Token) {
	t.Helper()
	l, at, err := lex.Split(s)
	if err != api.OK || at != 0 {
		t.Errorf("P3.1: %s: error %d at %d", short(s), err, at)
		return
	}
	if !slices.EqualFunc(l, want, sameToken) {
		t.Errorf("P3.1: %s: %v, not %v", short(s), l, want)
	}
}

// checkError: a text that is wrong.
func checkError(t *testing.T, s string, place int, why api.Errno) {
	t.Helper()
	l, at, err := lex.Split(s)
	if err != why || at != place {
		t.Errorf("P3.1: %s: error %d at %d, not %d at %d", short(s), err, at, why, place)
	}
	if len(l) != 0 {
		t.Errorf("P3.1, R3: %s: tokens beside an error", short(s))
	}
}

// checkExpected: any text.
func checkExpected(t *testing.T, s string) {
	t.Helper()
	l, place, why := expected(s)
	if why != api.OK {
		checkError(t, s, place, why)
		return
	}
	checkTokens(t, s, l...)
}

func word(text string, at int) lex.Token {
	return lex.Token{Kind: lex.Word, Text: text, At: at}
}

func sign(text string, at int) lex.Token {
	return lex.Token{Kind: lex.Sign, Text: text, At: at}
}

func num(text string, c complex128, at int) lex.Token {
	return lex.Token{Kind: lex.Number, Text: text, Num: c, At: at}
}

func end(at int) lex.Token {
	return lex.Token{Kind: lex.End, At: at}
}

func TestKinds(t *testing.T) {
	if lex.End != 0 || lex.Word != 1 || lex.Number != 2 || lex.Sign != 3 {
		t.Errorf("kinds: %d %d %d %d", lex.End, lex.Word, lex.Number, lex.Sign)
	}
}

func TestExample(t *testing.T) {
	checkTokens(t, "a=3i", word("a", 0), sign("=", 1), num("3i", 3i, 2), end(4))
}

func TestProgram(t *testing.T) {
	checkTokens(t, "cell x 0; // first\nthread a1 {\n\tr = load x[2];\n}\n",
		word("cell", 0), word("x", 5), num("0", 0, 7), sign(";", 8),
		word("thread", 19), word("a1", 26), sign("{", 29),
		word("r", 32), sign("=", 34), word("load", 36), word("x", 41), sign("[", 42), num("2", 2, 43), sign("]", 44), sign(";", 45),
		sign("}", 47), end(49))
	checkTokens(t, "if#a*~b<-(3+4i){c=!d,e;}",
		word("if", 0), sign("#", 2), word("a", 3), sign("*", 4), sign("~", 5), word("b", 6), sign("<", 7), sign("-", 8),
		sign("(", 9), num("3", 3, 10), sign("+", 11), num("4i", 4i, 12), sign(")", 14), sign("{", 15),
		word("c", 16), sign("=", 17), sign("!", 18), word("d", 19), sign(",", 20), word("e", 21), sign(";", 22), sign("}", 23), end(24))
}

func TestNothingButTheEnd(t *testing.T) {
	for _, s := range []string{"", " ", "\t", "\n", " \t\n \n\t", "//", "// a", "//\n", "///", "////", "// a // b", "// a\n// b\n", " // ? 07 7x \xff\x00\r /\n ", "//\n//"} {
		checkTokens(t, s, end(len(s)))
	}
}

func TestWords(t *testing.T) {
	for _, s := range []string{
		"a", "z", "A", "Z", "_", "__", "_0", "a0", "a9", "Z_9", "x1y2", "i", "i3", "ii", "_i", "e", "thread", "Thread",
		"abcdefghijklmnopqrstuvwxyz_ABCDEFGHIJKLMNOPQRSTUVWXYZ_0123456789", strings.Repeat("w", api.MaxText),
	} {
		checkTokens(t, s, word(s, 0), end(len(s)))
	}
	checkTokens(t, "a b", word("a", 0), word("b", 2), end(3))
	checkTokens(t, "i 3", word("i", 0), num("3", 3, 2), end(3))
}

func TestNumbers(t *testing.T) {
	for _, c := range []struct {
		text string
		num  complex128
	}{
		{"0", 0}, {"1", 1}, {"7", 7}, {"9", 9}, {"10", 10}, {"90", 90}, {"100", 100}, {"1048575", 1048575}, {"1048576", 1048576},
		{"1i", 1i}, {"3i", 3i}, {"9i", 9i}, {"10i", 10i}, {"1048575i", 1048575i}, {"1048576i", 1048576i},
	} {
		checkTokens(t, c.text, num(c.text, c.num, 0), end(len(c.text)))
		checkTokens(t, " "+c.text+";", num(c.text, c.num, 1), sign(";", len(c.text)+1), end(len(c.text)+2))
		checkTokens(t, "-"+c.text+"// 7", sign("-", 0), num(c.text, c.num, 1), end(len(c.text)+5))
	}
	checkTokens(t, "3 i", num("3", 3, 0), word("i", 2), end(3))
	checkTokens(t, "3+4i", num("3", 3, 0), sign("+", 1), num("4i", 4i, 2), end(4))
}

func TestNumbersOutOfRange(t *testing.T) {
	for _, s := range []string{
		"00", "07", "007", "01", "010", "00i", "07i", "01i", "0i", "000000000000000000000001",
		"1048577", "1048577i", "1048580", "2000000", "9999999", "10485760", "4294967297", "4294967297i",
		"9223372036854775807", "9223372036854775808", "18446744073709551616", "18446744073709551617", "18446744073709551617i",
		strings.Repeat("9", 1000), strings.Repeat("9", api.MaxText), strings.Repeat("9", api.MaxText-1) + "i", strings.Repeat("0", api.MaxText), strings.Repeat("0", 1000) + "7i",
	} {
		checkError(t, s, 0, api.ErrRange)
		if len(s) < api.MaxText-10 {
			checkError(t, "a = "+s+" ;", 4, api.ErrRange)
			checkError(t, "-"+s+"+", 1, api.ErrRange)
		}
	}
}

func TestNumbersThatRunOn(t *testing.T) {
	for _, s := range []string{"7", "7i", "0", "0i", "07", "12", "12i", "1048577", "1048577i", strings.Repeat("9", 300)} {
		for _, behind := range []string{"a", "z", "A", "Z", "_", "I", "x1", "e5", "_0", "ii", "if", "b i"} {
			checkError(t, s+behind, 0, api.ErrForm)
			checkError(t, "(\n"+s+behind, 2, api.ErrForm)
		}
	}
	for _, s := range []string{"7i0", "7i9", "7ii", "7i_", "0i0", "7i7i", "0x10", "1e5", "1_000", "07x", "1048577x", "3if"} {
		checkError(t, s, 0, api.ErrForm)
	}
	// What isn't of words may follow, even if it begins nothing: it goes wrong by itself.
	for _, s := range []string{"7?", "7.", "7\xff", "7/", "7\x00", "7\r", "7é", "7@", "7`", "7:"} {
		checkError(t, s, 1, api.ErrForm)
	}
}

func TestSigns(t *testing.T) {
	signs := []string{"==", "!=", "(", ")", "{", "}", "[", "]", ";", ",", "=", "!", "<", "+", "-", "*", "~", "#"}
	for _, s := range signs {
		checkTokens(t, s, sign(s, 0), end(len(s)))
		checkTokens(t, "a"+s+"b", word("a", 0), sign(s, 1), word("b", len(s)+1), end(len(s)+2))
		checkTokens(t, "1"+s+"2i", num("1", 1, 0), sign(s, 1), num("2i", 2i, len(s)+1), end(len(s)+3))
		for _, other := range signs {
			checkExpected(t, s+other)
			for _, gap := range []string{" ", "\t", "\n", "//\n", " // == \n\t"} {
				n := len(s) + len(gap)
				checkTokens(t, s+gap+other, sign(s, 0), sign(other, n), end(n+len(other)))
			}
		}
	}
}

func TestSignsAsLongAsCanBe(t *testing.T) {
	for text, want := range map[string][]lex.Token{
		"===":    {sign("==", 0), sign("=", 2), end(3)},
		"====":   {sign("==", 0), sign("==", 2), end(4)},
		"!==":    {sign("!=", 0), sign("=", 2), end(3)},
		"!===":   {sign("!=", 0), sign("==", 2), end(4)},
		"!!=":    {sign("!", 0), sign("!=", 1), end(3)},
		"!!":     {sign("!", 0), sign("!", 1), end(2)},
		"=!":     {sign("=", 0), sign("!", 1), end(2)},
		"=!=":    {sign("=", 0), sign("!=", 1), end(3)},
		"==!=":   {sign("==", 0), sign("!=", 2), end(4)},
		"!=!=":   {sign("!=", 0), sign("!=", 2), end(4)},
		"= =":    {sign("=", 0), sign("=", 2), end(3)},
		"! =":    {sign("!", 0), sign("=", 2), end(3)},
		"<=":     {sign("<", 0), sign("=", 1), end(2)},
		"+=":     {sign("+", 0), sign("=", 1), end(2)},
		"-=-":    {sign("-", 0), sign("=", 1), sign("-", 2), end(3)},
		"=\n==":  {sign("=", 0), sign("==", 2), end(4)},
		"=//\n=": {sign("=", 0), sign("=", 4), end(5)},
	} {
		checkTokens(t, text, want...)
	}
}

func TestNotes(t *testing.T) {
	for text, want := range map[string][]lex.Token{
		"a// b":              {word("a", 0), end(5)},
		"a//":                {word("a", 0), end(3)},
		"a//\n":              {word("a", 0), end(4)},
		"a//\nb":             {word("a", 0), word("b", 4), end(5)},
		"a// x\n// y\n\tb":   {word("a", 0), word("b", 12), end(13)},
		"a//b//c\nd":         {word("a", 0), word("d", 8), end(9)},
		"7//8\n":             {num("7", 7, 0), end(5)},
		"7//i":               {num("7", 7, 0), end(4)},
		"7i//\n7":            {num("7i", 7i, 0), num("7", 7, 5), end(6)},
		"///\na":             {word("a", 4), end(5)},
		"//\ra\nb":           {word("b", 5), end(6)},
		"// \xff\x00é 07\na": {word("a", 11), end(12)},
		"*//*\n*":            {sign("*", 0), sign("*", 5), end(6)},
	} {
		checkTokens(t, text, want...)
	}
	for text, place := range map[string]int{
		"/": 0, "a /": 2, "a/b": 1, "/ /": 0, "/a": 0, "/*a*/": 0, "a/\n/": 1, "// a\n/": 5, "//\n/\n/": 3, "=/": 1, "7/2": 1, "/7x": 0, "a/": 1,
	} {
		checkError(t, text, place, api.ErrForm)
	}
}

// TestEveryByte: alone, between words, behind a number, behind a sign, and in a note.
func TestEveryByte(t *testing.T) {
	begins := 0
	for c := range 256 {
		b := string([]byte{byte(c)})
		for _, s := range []string{b, "a" + b + "b", "a " + b, "7" + b, "7i" + b, "7 " + b, "=" + b + "=", "!" + b, b + b, b + "7", "/" + b, b + "/"} {
			checkExpected(t, s)
		}
		if _, _, err := lex.Split(b); err == api.OK {
			begins++
		}
		checkTokens(t, "//"+b+"\nx", word("x", 4), end(5))
	}
	// 52 letters, _, 10 digits, 16 signs, 3 blanks.
	if begins != 82 {
		t.Errorf("P3.1: %d bytes stand alone, not 82", begins)
	}
}

func TestBytesThatBeginNothing(t *testing.T) {
	for _, s := range []string{
		"?", "@", "$", "%", "&", "|", "^", ">", ":", ".", "'", "\"", "\\", "`", "/", "\r", "\v", "\f", "\x00", "\x7f",
		"\x80", "\xff", "\xc3", "é", "ß", "α", "\u00a0", "\u2028", "\ufeff", "３", "\u0663", "−", "＝",
	} {
		checkError(t, s, 0, api.ErrForm)
		checkError(t, "a"+s, 1, api.ErrForm)
		checkError(t, "a1 "+s+" 07", 3, api.ErrForm)
		checkError(t, "x;// "+s+"\n"+s, 6+len(s), api.ErrForm)
	}
}

func TestFirstPlaceThatGoesWrong(t *testing.T) {
	for _, c := range []struct {
		s     string
		place int
		why   api.Errno
	}{
		{"? 07", 0, api.ErrForm},
		{"07 ?", 0, api.ErrRange},
		{"07?", 0, api.ErrRange},
		{"a 07 7x", 2, api.ErrRange},
		{"a 7x 07", 2, api.ErrForm},
		{"1048577 1048577", 0, api.ErrRange},
		{"a ? ?", 2, api.ErrForm},
		{"7x?", 0, api.ErrForm},
		{"07x", 0, api.ErrForm},
		{"0i?", 0, api.ErrRange},
		{"// ?\n7 / 07", 7, api.ErrForm},
		{"7 0i", 2, api.ErrRange},
		{"7;7;7;00", 6, api.ErrRange},
	} {
		checkError(t, c.s, c.place, c.why)
	}
}

func TestSize(t *testing.T) {
	if api.MaxText != 16384 {
		t.Fatalf("MaxText: %d", api.MaxText)
	}
	for _, part := range []string{" ", "\n", "(", "a", "a ", "7 ", "7;", "==", "!", "/", "?", "0", "// x\n", "é", "\x00"} {
		full := strings.Repeat(part, api.MaxText)[:api.MaxText]
		checkExpected(t, full)
		checkExpected(t, full[1:])
		checkError(t, full+" ", 0, api.ErrSize)
		checkError(t, " "+full, 0, api.ErrSize)
		checkError(t, full+full, 0, api.ErrSize)
	}
	checkTokens(t, strings.Repeat(" ", api.MaxText-1)+"a", word("a", api.MaxText-1), end(api.MaxText))
	checkTokens(t, strings.Repeat(" ", api.MaxText-2)+"7i", num("7i", 7i, api.MaxText-2), end(api.MaxText))
	checkError(t, strings.Repeat(" ", api.MaxText-1)+"/", api.MaxText-1, api.ErrForm)
	checkError(t, strings.Repeat(" ", api.MaxText-2)+"07", api.MaxText-2, api.ErrRange)
	checkError(t, "?"+strings.Repeat(" ", api.MaxText), 0, api.ErrSize)
}

// TestAllShortTexts: of bytes of each kind.
func TestAllShortTexts(t *testing.T) {
	var grow func(s string, more int)
	grow = func(s string, more int) {
		checkExpected(t, s)
		if more == 0 || t.Failed() {
			return
		}
		for _, c := range "0i7a_=!/ \n+?" {
			grow(s+string(c), more-1)
		}
	}
	grow("", 5)
}

// TestMixedTexts: longer ones, their parts picked by a plain rule.
func TestMixedTexts(t *testing.T) {
	parts := []string{
		"a", "b1", "_", "thread", "0", "7", "10i", "1048576", "==", "!=", "=", "!", "(", ")", "{", "}", "[", "]", ";", ",", "<", "+", "-", "*", "~", "#",
		" ", " ", "\t", "\n", " ", "// note\n", "//\n", " ", "\n", "// last",
		"?", "07", "1048577", "/", "é",
	}
	pick := uint32(1)
	for range 20000 {
		var b strings.Builder
		for range 2 + (pick>>8)%14 {
			pick = pick*1664525 + 1013904223
			b.WriteString(parts[(pick>>8)%uint32(len(parts))])
		}
		checkExpected(t, b.String())
	}
}

// TestAnswersAreTheCallers: what is done to one answer is not seen in another.
func TestAnswersAreTheCallers(t *testing.T) {
	const s = "a = 3i;"
	first, _, _ := lex.Split(s)
	for i := range first {
		first[i] = lex.Token{Text: "spoilt"}
	}
	lex.Split("wrong ?")
	checkTokens(t, s, word("a", 0), sign("=", 2), num("3i", 3i, 4), sign(";", 6), end(7))
	checkTokens(t, s, word("a", 0), sign("=", 2), num("3i", 3i, 4), sign(";", 6), end(7))
}

func TestTextsAreNewMemory(t *testing.T) {
	s := strings.Repeat("word 10i == ", 20)
	from := uintptr(unsafe.Pointer(unsafe.StringData(s)))
	l, _, _ := lex.Split(s)
	for _, k := range l[:len(l)-1] {
		if p := uintptr(unsafe.Pointer(unsafe.StringData(k.Text))); p >= from && p < from+uintptr(len(s)) {
			t.Fatalf("R5: %v is kept from the text that was handed in", k)
		}
	}
	runtime.KeepAlive(s)
}
