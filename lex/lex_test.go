package lex

import (
	"math/bits"
	"math/rand"
	"slices"
	"strings"
	"testing"

	"scrivener/api"
	"scrivener/decimal"
	texts "scrivener/text"
)

func TestExamples(t *testing.T) {
	tells(t, "Select x.a -- y", []api.Token{aWord("select"), aName("x"), aSign("."), aName("a")}, 0, 7, 8, 9)
	errs(t, "1.", 0)
	errs(t, "'a", 0)
	errs(t, "01", 0)
}

func TestNothing(t *testing.T) {
	tells(t, "", nil)
	tells(t, " ", nil)
	tells(t, " \t\r\n", nil)
	tells(t, "--", nil)
	tells(t, "-- 'x\n--\"", nil)
}

// P17.1: words

func words() []string { return strings.Fields(chapterWords) }

func TestAllWords(t *testing.T) {
	if len(words()) != 29 {
		t.Fatal(len(words()))
	}
	for _, w := range words() {
		tellsOne(t, w, aWord(w))
		tellsOne(t, strings.ToUpper(w), aWord(w))
	}
	tells(t, chapterWords[:17], []api.Token{aWord("select"), aWord("value"), aWord("from")}, 0, 7, 13)
}

// Each letter of each word small or great, in all ways.
func TestSmallAndGreat(t *testing.T) {
	for _, w := range words() {
		for great := range 1 << len(w) {
			b := []byte(w)
			for i := range b {
				b[i] -= byte(great >> i & 1 << 5)
			}
			tells(t, string(b), []api.Token{aWord(w)}, 0)
		}
	}
}

// What is nearly a word is a name.
func TestNearlyWords(t *testing.T) {
	all := words()
	for _, w := range all {
		for i := range w {
			for _, s := range []string{w[:i], w[i+1:], w[:i] + w[i+1:], w[:i] + "x" + w[i:], w[:i] + "_" + w[i:], w[:i] + "Q" + w[i+1:], w + w, w + "0", w + "_", "_" + w} {
				for _, s := range []string{s, strings.ToUpper(s)} {
					if s != "" && !slices.Contains(all, strings.ToLower(s)) {
						tells(t, s, []api.Token{aName(s)}, 0)
					}
				}
			}
		}
	}
	for _, s := range []string{"group", "having", "join", "like", "in", "asc", "offset", "values", "tables", "exists", "between", "count", "size", "undrop", "a", "an", "ands", "nor", "isnull", "notnull"} {
		tellsOne(t, s, aName(s))
	}
}

// Letters of other alphabets are none, also those that have a small or great one among the 26.
func TestOtherAlphabets(t *testing.T) {
	for _, s := range []string{"é", "\u017felect", "\u0131s", "\u0130s", "\u212aind", "\uff41", "\xc3", "\xe9", "\xff"} {
		errsAlone(t, s)
		errs(t, "a"+s, 1)
	}
	errs(t, "de\u017fc", 2)
	errs(t, "l\u0131mit", 1)
	errs(t, "\"k\"\u212a", 3)
}

// Behind a word each byte: a letter, a digit or _ makes a name of it.
func TestBehindWords(t *testing.T) {
	for _, w := range words() {
		for x := range 256 {
			s := w + one(x)
			l, at, e := Lex(s)
			switch {
			case isLetter(x) || isDigit(x) || x == '_':
				if !slices.Contains(words(), strings.ToLower(s)) && !(e == api.OK && slices.Equal(l, []api.Token{aName(s), {Kind: api.TokEnd, At: len(s)}})) {
					t.Error(s, l, at, e)
				}
			case e == api.OK && (l[0] != aWord(w) || len(l) > 3) || e != api.OK && (e != api.ErrSyntax || at != len(w)):
				t.Error(cut(s), l, at, e)
			}
			asTheChapter(t, s)
		}
	}
}

func isLetter(x int) bool { return 'a' <= x && x <= 'z' || 'A' <= x && x <= 'Z' }
func isDigit(x int) bool  { return '0' <= x && x <= '9' }

// P17.1: names

func TestPlainNames(t *testing.T) {
	for _, s := range []string{"x", "X", "_", "__", "_9", "a1", "A_b9", "z0", "Z", "aB", "e1", "x_y_z", "_select", "selectx", "x0123456789"} {
		tellsOne(t, s, aName(s))
	}
	for x := range 256 {
		s := one(x)
		if isLetter(x) || x == '_' {
			tellsOne(t, s, aName(s))
			tellsOne(t, s+"1", aName(s+"1"))
		} else if l, _, _ := Lex(s); len(l) > 0 && l[0].Kind == api.TokName {
			t.Error(cut(s), l)
		}
		if isLetter(x) || isDigit(x) || x == '_' {
			tellsOne(t, "q"+s, aName("q"+s))
			tellsOne(t, "q"+s+"z"+s, aName("q"+s+"z"+s))
		} else if l, _, _ := Lex("q" + s + "z"); len(l) > 0 && l[0] != aName("q") {
			t.Error(cut(s), l)
		}
	}
}

// MaxName counts within marks alone.
func TestLongPlainNames(t *testing.T) {
	for _, n := range []int{39, 40, 41, 100, 2000} {
		tellsOne(t, rep("n", n), aName(rep("n", n)))
		tellsOne(t, rep("_", n), aName(rep("_", n)))
	}
	tells(t, rep("N", api.MaxText), []api.Token{aName(rep("N", api.MaxText))}, 0)
}

func TestMarkedNames(t *testing.T) {
	for _, s := range []string{"x", "X y", " ", "9", "a.b", "it's", "''", "'", "--", "-- x", "a\nb", "\n", "\x00", "\xff", "é", "?", "<>", "[1]", "\\", `\22`, "1.", "01", "#", "!"} {
		tellsOne(t, `"`+s+`"`, aName(s))
	}
	for _, w := range words() {
		tellsOne(t, `"`+w+`"`, aName(w))
		tellsOne(t, `"`+strings.ToUpper(w)+`"`, aName(strings.ToUpper(w)))
	}
	for x := range 256 {
		if s := one(x); s != `"` {
			tellsOne(t, `"`+s+`"`, aName(s))
			tellsOne(t, `"`+s+"a"+s+`"`, aName(s+"a"+s))
		}
	}
}

func TestLengthsOfMarkedNames(t *testing.T) {
	for n := range 101 {
		for _, of := range []string{"n", "\xff", "'", " ", "\n"} {
			s := `"` + rep(of, n) + `"`
			if n < 1 || n > 40 {
				errsAlone(t, s)
			} else {
				tellsOne(t, s, aName(rep(of, n)))
			}
		}
	}
	// They are counted by bytes.
	tellsOne(t, `"`+rep("é", 20)+`"`, aName(rep("é", 20)))
	errsAlone(t, `"`+rep("é", 21)+`"`)
	errsAlone(t, `"`+rep("n", 4000)+`"`)
}

func TestMarksThatDoNotEnd(t *testing.T) {
	for _, s := range []string{`"`, `"a`, `"a b c`, `"'`, `"''`, `"--`, `"` + "\n", `"` + rep("n", 40), `"` + rep("n", 41), `"` + rep("n", 4000), `"\`} {
		errs(t, s, 0)
		errs(t, "x = "+s, 4)
		errs(t, "'a'"+s, 3)
	}
	// Nothing stands for a mark within marks: two of them are an end and a beginning, or a name of nothing.
	errsAlone(t, `""`)
	errsAlone(t, `""""`)
	errsAlone(t, `"""`)
	errsAlone(t, `""a""`)
	errs(t, `"a""`, 3)
	tells(t, `"a""b"`, []api.Token{aName("a"), aName("b")}, 0, 3)
	tells(t, `"a"b"c"`, []api.Token{aName("a"), aName("b"), aName("c")}, 0, 3, 4)
	tells(t, `a"b"'c'"d"1`, []api.Token{aName("a"), aName("b"), aText("'c'"), aName("d"), anInt("1")}, 0, 1, 4, 7, 10)
	tells(t, `select"from"where`, []api.Token{aWord("select"), aName("from"), aWord("where")}, 0, 6, 12)
}

// P17.1: numbers

func TestInts(t *testing.T) {
	for _, s := range []string{"0", "1", "9", "10", "42", "100", "123456789", "1000000000000000000", "9223372036854775806", "9223372036854775807"} {
		tellsOne(t, s, anInt(s))
	}
}

// They are told as they stand, with all their noughts.
func TestDecs(t *testing.T) {
	for _, s := range []string{"0.0", "0.5", "1.5", "1.0", "1.50", "10.01", "0.00", "0.000000000000000000", "0.000000000000000001", "9.223372036854775807", "922337203685477580.7", "922337203685477580.700000000000000000", "9223372036854775807.0", "9223372036854775807.000000000000000000", "123.456", "8.999999999999999999"} {
		tellsOne(t, s, aDec(s))
	}
}

func TestNumbersThatParseRefuses(t *testing.T) {
	for _, s := range []string{"00", "01", "007", "00.5", "01.5", "00.0", "9223372036854775808", "9223372036854775810", "10000000000000000000", "18446744073709551616", "18446744073709551617", "9223372036854775808.0", "922337203685477580.8", "9.223372036854775808", "9223372036854775807.1", "10.000000000000000001", "9.999999999999999999", "0.0000000000000000000", "0.1000000000000000000", "1.0000000000000000000", "0.0000000000000000001", "1." + rep("0", 100), rep("0", 100), rep("9", 100), "1" + rep("0", 100) + ".5"} {
		if _, e := decimal.Parse(s); e == api.OK {
			t.Fatal(s)
		}
		errsAlone(t, s)
	}
	errs(t, rep("9", api.MaxText), 0)
	errs(t, "0."+rep("0", api.MaxText-2), 0)
}

// Behind a number each byte: it may be no letter, no _ and no point; what else is no token errs at its own place.
func TestBehindNumbers(t *testing.T) {
	for _, n := range []string{"0", "1", "42", "9223372036854775807", "0.5", "1.50", "10.000000000000000000"} {
		x := anInt(n)
		if strings.Contains(n, ".") {
			x = aDec(n)
		}
		for _, s := range []string{"a", "z", "A", "Z", "e", "e5", "E+5", "x10", "_", "_1", "select", "m.n", `a"b"`} {
			errsAlone(t, n+s)
		}
		for _, s := range []string{".", "..", ".a", ". 5", ".\"a\"", "._", ".-1", ".'1'", ".--", ".?", ".é"} {
			errsAlone(t, n+s)
		}
		for _, s := range []string{"é", "\x80", "\xff", "#", "@", "!", "|", "\x00", "'", `"`, `""`, "\\"} {
			errs(t, n+s, len(n))
			errs(t, "x "+n+s, 2+len(n))
		}
		for _, s := range []string{"<", ">", "=", "+", "-", "*", "(", ")", "[", "]", "{", "}", ",", ":", ";", "<=", "||"} {
			tells(t, n+s, []api.Token{x, aSign(s)}, 0, len(n))
			tells(t, n+s+n, []api.Token{x, aSign(s), x}, 0, len(n), len(n+s))
		}
		tells(t, n+"?", []api.Token{x, aParam()}, 0, len(n))
		tells(t, n+"'a'", []api.Token{x, aText("'a'")}, 0, len(n))
		tells(t, n+`"a"`, []api.Token{x, aName("a")}, 0, len(n))
		tells(t, n+"--a", []api.Token{x}, 0)
		tells(t, n+" .5", []api.Token{x, aSign("."), anInt("5")}, 0, len(n)+1, len(n)+2)
		tells(t, n+" a", []api.Token{x, aName("a")}, 0, len(n)+1)
		for b := range 256 {
			asTheChapter(t, n+one(b))
			asTheChapter(t, n+one(b)+"1")
			asTheChapter(t, n+"."+one(b))
		}
	}
	for _, s := range []string{"1.5.5", "1.5.", "1..5", "1.2.3.4", "0.a", "1.5a", "1.5_", "0x1f", "1e3", "1_000", "1.5e3", "12z", "01a", "01.", "9223372036854775808x"} {
		errsAlone(t, s)
	}
}

// A number has no sign of its own and begins with a digit.
func TestNoPartOfNumbers(t *testing.T) {
	tells(t, "-1", []api.Token{aSign("-"), anInt("1")}, 0, 1)
	tells(t, "+1.5", []api.Token{aSign("+"), aDec("1.5")}, 0, 1)
	tells(t, "-0", []api.Token{aSign("-"), anInt("0")}, 0, 1)
	tells(t, ".5", []api.Token{aSign("."), anInt("5")}, 0, 1)
	tells(t, ".5.5", []api.Token{aSign("."), aDec("5.5")}, 0, 1)
	tells(t, "a1.5", []api.Token{aName("a1"), aSign("."), anInt("5")}, 0, 2, 3)
	tells(t, "a.1", []api.Token{aName("a"), aSign("."), anInt("1")}, 0, 1, 2)
	errs(t, "a.01", 2)
	tells(t, "-9223372036854775807", []api.Token{aSign("-"), anInt("9223372036854775807")}, 0, 1)
	errs(t, "-9223372036854775808", 1)
	tells(t, "1 2", []api.Token{anInt("1"), anInt("2")}, 0, 2)
	tells(t, "1-2", []api.Token{anInt("1"), aSign("-"), anInt("2")}, 0, 1, 2)
	tells(t, "1--2", []api.Token{anInt("1")}, 0)
}

// P17.1: texts

func TestTexts(t *testing.T) {
	for _, s := range []string{"''", "'a'", "' '", "'it''s'", "''''", "''''''", "'a''''b'", "'''a'", "'a'''", `'"'`, "'--'", "'-- x'", "'?'", "'select'", `'\00'`, `'\5c'`, `'\5c27'`, `'\c3\a9'`, `'\0a\0d'`, `'\7f\80\ff'`, `'''\5c'`, `'\5c'''`, "'!#$%&()*+,-./:;<=>?@[]^_`{|}~'", "'01'", "'1.'"} {
		tellsOne(t, s, aText(s))
	}
	for x := range 256 {
		s := "'" + one(x) + "'"
		if x >= 0x20 && x <= 0x7e && x != '\\' && x != '\'' {
			tellsOne(t, s, aText(s))
			tellsOne(t, "'a"+one(x)+"''"+one(x)+"'", aText("'a"+one(x)+"''"+one(x)+"'"))
		} else if x != '\'' {
			errsAlone(t, s)
			errsAlone(t, "'a"+one(x)+"b'")
		}
	}
}

func TestTextsThatParseRefuses(t *testing.T) {
	for _, s := range []string{"'\n'", "'\t'", "'a\r'", "'\x00'", "'\x7f'", "'é'", "'\xff'", `'\'`, `'a\b'`, `'\0'`, `'\0'''`, `'\0A'`, `'\FF'`, `'\0g'`, `'\n'`, `'\\'`, `'\20'`, `'\27'`, `'\61'`, `'\5b'`, `'\5d'`, `'\7e'`, `'\5C'`, `'\ 0a'`, `'\x0a'`, `'\u000a'`} {
		if _, e := texts.Parse(s); e == api.OK {
			t.Fatal(s)
		}
		errsAlone(t, s)
	}
	for x := range 256 {
		for _, form := range []string{"0123456789abcdef", "0123456789ABCDEF"} {
			s := `'a\` + string([]byte{form[x>>4], form[x&15]}) + `b'`
			asTheChapter(t, s)
			if _, e := texts.Parse(s); e == api.OK {
				tellsOne(t, s, aText(s))
			} else {
				errsAlone(t, s)
			}
		}
	}
}

// Two ' within a text are one: a text goes on behind them, and must end with one that is alone.
func TestTextsThatDoNotEnd(t *testing.T) {
	for _, s := range []string{"'", "'a", "'''", "'a''", "'a''''", "'''''", "'a''b", "' \"", "'--", "'a\n", `'\`, `'\0`, "'" + rep("x", 4000), "'" + rep("''", 2000)} {
		errs(t, s, 0)
		errs(t, "a"+s, 1)
	}
	for n := 1; n <= 60; n++ {
		if s := rep("'", n); n%2 == 0 {
			tells(t, s, []api.Token{aText(s)}, 0)
			tells(t, s+"a", []api.Token{aText(s), aName("a")}, 0, n)
			tells(t, "a"+s, []api.Token{aName("a"), aText(s)}, 0, 1)
		} else {
			errs(t, s, 0)
			errs(t, s+"a", 0)
			errs(t, "a"+s, 1)
		}
	}
	tells(t, "'a' 'b'", []api.Token{aText("'a'"), aText("'b'")}, 0, 4)
	tells(t, "'a''b'", []api.Token{aText("'a''b'")}, 0)
	tells(t, "'a'b'c'", []api.Token{aText("'a'"), aName("b"), aText("'c'")}, 0, 3, 4)
	tells(t, "'a'--b'\n'c'", []api.Token{aText("'a'"), aText("'c'")}, 0, 8)
	tells(t, "'a'?'b'", []api.Token{aText("'a'"), aParam(), aText("'b'")}, 0, 3, 4)
	tells(t, "'a'1'b'", []api.Token{aText("'a'"), anInt("1"), aText("'b'")}, 0, 3, 4)
	errs(t, "'a' '", 4)
	errs(t, "'a' 'b''", 4)
}

// P17.1: signs and parameters

func signsTold() map[string]string {
	out := map[string]string{}
	for _, s := range strings.Fields(chapterSigns) {
		out[s] = s
	}
	out["<>"] = "!="
	return out
}

func TestAllSigns(t *testing.T) {
	if len(signsTold()) != 21 {
		t.Fatal(len(signsTold()))
	}
	for s, told := range signsTold() {
		tells(t, s, []api.Token{aSign(told)}, 0)
		tells(t, " "+s+" ", []api.Token{aSign(told)}, 1)
		tells(t, s+" "+s, []api.Token{aSign(told), aSign(told)}, 0, 1+len(s))
		tells(t, "a"+s+"b", []api.Token{aName("a"), aSign(told), aName("b")}, 0, 1, 1+len(s))
		tells(t, "'a'"+s+"'b'", []api.Token{aText("'a'"), aSign(told), aText("'b'")}, 0, 3, 3+len(s))
		tells(t, s+"7", []api.Token{aSign(told), anInt("7")}, 0, len(s))
		tells(t, s+"?", []api.Token{aSign(told), aParam()}, 0, len(s))
		tells(t, s+"\"a\"", []api.Token{aSign(told), aName("a")}, 0, len(s))
		tells(t, s+"\n--x", []api.Token{aSign(told)}, 0)
		errs(t, s+"#", len(s))
		errs(t, s+"é", len(s))
	}
}

// The longest first, one behind the other.
func TestSignsThatBeginLongerOnes(t *testing.T) {
	tells(t, "<", []api.Token{aSign("<")}, 0)
	tells(t, "< =", []api.Token{aSign("<"), aSign("=")}, 0, 2)
	tells(t, "< >", []api.Token{aSign("<"), aSign(">")}, 0, 2)
	tells(t, "<=>", []api.Token{aSign("<="), aSign(">")}, 0, 2)
	tells(t, "<>=", []api.Token{aSign("!="), aSign("=")}, 0, 2)
	tells(t, "<<=", []api.Token{aSign("<"), aSign("<=")}, 0, 1)
	tells(t, "<<>>", []api.Token{aSign("<"), aSign("!="), aSign(">")}, 0, 1, 3)
	tells(t, ">=<", []api.Token{aSign(">="), aSign("<")}, 0, 2)
	tells(t, "><", []api.Token{aSign(">"), aSign("<")}, 0, 1)
	tells(t, ">>=", []api.Token{aSign(">"), aSign(">=")}, 0, 1)
	tells(t, "=<=>", []api.Token{aSign("="), aSign("<="), aSign(">")}, 0, 1, 3)
	tells(t, "==", []api.Token{aSign("="), aSign("=")}, 0, 1)
	tells(t, "=>", []api.Token{aSign("="), aSign(">")}, 0, 1)
	tells(t, "!==", []api.Token{aSign("!="), aSign("=")}, 0, 2)
	tells(t, "||||", []api.Token{aSign("||"), aSign("||")}, 0, 2)
	tells(t, "!=!=", []api.Token{aSign("!="), aSign("!=")}, 0, 2)
	tells(t, "<-1", []api.Token{aSign("<"), aSign("-"), anInt("1")}, 0, 1, 2)
	tells(t, "<--1", []api.Token{aSign("<")}, 0)
	tells(t, "- -", []api.Token{aSign("-"), aSign("-")}, 0, 2)
	tells(t, "-+-", []api.Token{aSign("-"), aSign("+"), aSign("-")}, 0, 1, 2)
	tells(t, "x.a[1].b", []api.Token{aName("x"), aSign("."), aName("a"), aSign("["), anInt("1"), aSign("]"), aSign("."), aName("b")}, 0, 1, 2, 3, 4, 5, 6, 7)
	tells(t, "([{}])", []api.Token{aSign("("), aSign("["), aSign("{"), aSign("}"), aSign("]"), aSign(")")}, 0, 1, 2, 3, 4, 5)
	tells(t, "..", []api.Token{aSign("."), aSign(".")}, 0, 1)
	tells(t, ",:;*+", []api.Token{aSign(","), aSign(":"), aSign(";"), aSign("*"), aSign("+")}, 0, 1, 2, 3, 4)
}

// Parts of signs that are none by themselves err where they stand.
func TestPartsOfSigns(t *testing.T) {
	errsAlone(t, "!")
	errsAlone(t, "|")
	errsAlone(t, "!!=")
	errsAlone(t, "! =")
	errsAlone(t, "!<")
	errsAlone(t, "| |")
	errsAlone(t, "|=")
	errs(t, "|||", 2)
	errs(t, "<|", 1)
	errs(t, "<!=!", 3)
	errs(t, "a!b", 1)
	errs(t, "<=!", 2)
	errs(t, "=!", 1)
}

func TestParams(t *testing.T) {
	tellsOne(t, "?", aParam())
	tells(t, "???", []api.Token{aParam(), aParam(), aParam()}, 0, 1, 2)
	tells(t, "?a", []api.Token{aParam(), aName("a")}, 0, 1)
	tells(t, "?1", []api.Token{aParam(), anInt("1")}, 0, 1)
	tells(t, "?.a", []api.Token{aParam(), aSign("."), aName("a")}, 0, 1, 2)
	tells(t, "a?'b'", []api.Token{aName("a"), aParam(), aText("'b'")}, 0, 1, 2)
	tells(t, "= ?--?", []api.Token{aSign("="), aParam()}, 0, 2)
	errs(t, "?#", 1)
}

// P17.1: bytes that begin no token

func TestEachByte(t *testing.T) {
	begin := " \t\n\r_?<>=+-*()[]{},.:;"
	for x := range 256 {
		s := one(x)
		asTheChapter(t, s)
		if isLetter(x) || isDigit(x) || strings.Contains(begin, s) {
			if l, at, e := Lex(s); e != api.OK || at != 0 || l[len(l)-1] != (api.Token{Kind: api.TokEnd, At: 1}) {
				t.Error(cut(s), l, at, e)
			}
			continue
		}
		errs(t, s, 0)
		if x != '!' && x != '|' && x != '\'' && x != '"' {
			errsAlone(t, s)
			for y := range 256 {
				errs(t, s+one(y), 0)
			}
		}
	}
}

// P17.1: blanks and remarks

func TestBlanks(t *testing.T) {
	for _, b := range []string{" ", "\t", "\n", "\r", "  ", " \t\r\n ", "--\n", "-- remark\n", "--\n--\n", " -- x\n -- y\n ", "--'\n", "--\"\n", "-- \xff\x00é\n", "---\n", "--\r\n", "--x\ry\n", rep(" ", 600), rep("--\n", 200)} {
		n := len(b)
		tells(t, b, nil)
		tells(t, b+"a", []api.Token{aName("a")}, n)
		tells(t, "a"+b, []api.Token{aName("a")}, 0)
		tells(t, "a"+b+"b"+b+"1"+b+"'c'"+b, []api.Token{aName("a"), aName("b"), anInt("1"), aText("'c'")}, 0, n+1, 2*n+2, 3*n+3)
		tells(t, "<"+b+">", []api.Token{aSign("<"), aSign(">")}, 0, n+1)
		tells(t, "1"+b+".", []api.Token{anInt("1"), aSign(".")}, 0, n+1)
		tells(t, "'a'"+b+"'b'", []api.Token{aText("'a'"), aText("'b'")}, 0, n+3)
		tells(t, "sel"+b+"ect", []api.Token{aName("sel"), aName("ect")}, 0, n+3)
		errs(t, b+"#", n)
		errs(t, "a"+b+"#", n+1)
	}
	for _, s := range []string{"\v", "\f", "\x00", "\x85", "\xa0", "\u00a0", "\u2028", "\ufeff", "\x1c", "\x7f"} {
		errsAlone(t, s)
	}
}

func TestRemarks(t *testing.T) {
	for _, s := range []string{"--", "-- x", "--'", "--\"", "--#", "--1.", "-----", "--\r", "--\r'", "--\x00", "--\xff", "--" + rep("x", 2000)} {
		tells(t, s, nil)
		tells(t, "a"+s, []api.Token{aName("a")}, 0)
		tells(t, "a "+s+"\nb", []api.Token{aName("a"), aName("b")}, 0, 3+len(s))
		tells(t, s+"\n"+s, nil)
		tells(t, s+"\n\n"+s+"\n", nil)
		errs(t, s+"\n#", len(s)+1)
		errs(t, "# "+s, 0)
	}
	tells(t, "a - - b", []api.Token{aName("a"), aSign("-"), aSign("-"), aName("b")}, 0, 2, 4, 6)
	tells(t, "a -\n- b", []api.Token{aName("a"), aSign("-"), aSign("-"), aName("b")}, 0, 2, 4, 6)
	tells(t, "-", []api.Token{aSign("-")}, 0)
	tells(t, "-\n--", []api.Token{aSign("-")}, 0)
	tells(t, "'--' \"--\" --", []api.Token{aText("'--'"), aName("--")}, 0, 5)
	tells(t, "a -- b\nc -- d\n", []api.Token{aName("a"), aName("c")}, 0, 7)
	errs(t, "'a--\n'", 0)
}

// P17.1: places

func TestPlaces(t *testing.T) {
	s := "select x.a as \"b\", ? -- a remark\nfrom t as x\n\twhere x.a <> 1.50 and x.b||'it''s'>=-3;\n"
	want := []api.Token{aWord("select"), aName("x"), aSign("."), aName("a"), aWord("as"), aName("b"), aSign(","), aParam(), aWord("from"), aName("t"), aWord("as"), aName("x"), aWord("where"), aName("x"), aSign("."), aName("a"), aSign("!="), aDec("1.50"), aWord("and"), aName("x"), aSign("."), aName("b"), aSign("||"), aText("'it''s'"), aSign(">="), aSign("-"), anInt("3"), aSign(";")}
	tells(t, s, want, 0, 7, 8, 9, 11, 14, 17, 19, 33, 38, 40, 43, 46, 52, 53, 54, 56, 59, 64, 68, 69, 70, 71, 73, 80, 82, 83, 84)
}

func TestEnd(t *testing.T) {
	for _, s := range []string{"", "a", "a ", "a--", "a --\n", "'a'", "\"a\"", "1", "1.5 ", "<", "<=", "?", "\n\n"} {
		l, at, e := Lex(s)
		if at != 0 || e != api.OK || l[len(l)-1] != (api.Token{Kind: api.TokEnd, At: len(s)}) {
			t.Error(cut(s), l, at, e)
		}
		for _, x := range l[:len(l)-1] {
			if x.Kind == api.TokEnd {
				t.Error(cut(s), l)
			}
		}
	}
}

// Of several things that are none the first is told, whichever they are.
func TestFirstFault(t *testing.T) {
	faults := []string{"#", "!", "|", "é", "\x00", "01", "1.", "1a", "9223372036854775808", "'\n'", "'\\61'", `""`, `"` + rep("n", 41) + `"`}
	last := append([]string{"'", "'a''", `"`, `"a`}, faults...)
	for _, f := range faults {
		for _, g := range last {
			errs(t, f+" "+g, 0)
			errs(t, "a "+f+"\n"+g, 2)
			errs(t, "('x',"+f+" b "+g, 5)
			errs(t, "--"+strings.ReplaceAll(f, "\n", " ")+"\n"+g, 3+len(f))
		}
	}
}

// P17.1: the length of all

func TestLong(t *testing.T) {
	for _, of := range []string{" ", "a", "#", "?", "1", "'", "\n", "\xff", "<"} {
		for _, n := range []int{api.MaxText + 1, api.MaxText + 2, 2 * api.MaxText, 1 << 16, 1 << 20} {
			if l, at, e := Lex(rep(of, n)); len(l) > 0 || at != 0 || e != api.ErrLong {
				t.Error(of, n, len(l), at, e)
			}
		}
		for _, n := range []int{api.MaxText - 1, api.MaxText} {
			asTheChapter(t, rep(of, n))
		}
	}
	// Its end says nothing, be it blanks, a remark or what is none.
	for _, s := range []string{"a" + rep(" ", api.MaxText), "#" + rep("a", api.MaxText), "--" + rep("-", api.MaxText), rep("a ", api.MaxText/2) + "#", "--" + rep("é", api.MaxText/2), rep("é", api.MaxText/2+1)} {
		if l, at, e := Lex(s); len(l) > 0 || at != 0 || e != api.ErrLong {
			t.Error(cut(s), len(l), at, e)
		}
	}
	tells(t, rep(" ", api.MaxText), nil)
	tells(t, "--"+rep("x", api.MaxText-2), nil)
	tells(t, "--"+rep("é", api.MaxText/2-1), nil)
	s := "'" + rep("x", api.MaxText-2) + "'"
	tells(t, s, []api.Token{aText(s)}, 0)
	s = "'" + rep("''", api.MaxText/2-1) + "'"
	tells(t, s, []api.Token{aText(s)}, 0)
	errs(t, rep(" ", api.MaxText-1)+"#", api.MaxText-1)
	tells(t, rep(" ", api.MaxText-1)+";", []api.Token{aSign(";")}, api.MaxText-1)
}

func TestManyTokens(t *testing.T) {
	for _, s := range []string{"?", "(", "a ", "<>", "1,", "''?", "\"a\"", "--\n?"} {
		s = rep(s, api.MaxText/len(s))
		asTheChapter(t, s)
		asTheChapter(t, s[:len(s)-1])
	}
	l, _, e := Lex(rep("?", api.MaxText))
	if len(l) != api.MaxText+1 || e != api.OK || l[api.MaxText-1].At != api.MaxText-1 {
		t.Error(len(l), e)
	}
}

// P17.1, P17.2: texts of all kinds against the chapter

// Each text of two bytes, alone and behind some others.
func TestEachTwoBytes(t *testing.T) {
	for x := range 256 {
		for y := range 256 {
			s := one(x) + one(y)
			asTheChapter(t, s)
			if (x^y)%4 == 0 {
				asTheChapter(t, "'a"+s+"'")
				asTheChapter(t, "1"+s)
			}
		}
	}
}

// all hands on each text of n of these bytes.
func all(of string, n int, yield func(string)) {
	if n == 0 {
		yield("")
		return
	}
	for _, b := range []byte(of) {
		all(of, n-1, func(s string) { yield(string([]byte{b}) + s) })
	}
}

// Each text of some bytes of each class.
func TestEachShortText(t *testing.T) {
	all("aS_01.'\"\\ \n\r-<>=!|?(#\xc3", 4, func(s string) { asTheChapter(t, s) })
	all("a0.'\" \n-<=", 5, func(s string) { asTheChapter(t, s) })
	all("'\"-\na1", 6, func(s string) { asTheChapter(t, s) })
	all("01.a", 8, func(s string) { asTheChapter(t, s) })
	all("'\\0aA", 7, func(s string) { asTheChapter(t, s) })
}

func TestDrawnTexts(t *testing.T) {
	r := rand.New(rand.NewSource(17))
	for range 30000 {
		asTheChapter(t, drawn(r, 12))
	}
	for range 300 {
		asTheChapter(t, drawn(r, 1000))
	}
}

// Of any bytes, few or many of them.
func TestDrawnBytes(t *testing.T) {
	r := rand.New(rand.NewSource(18))
	for i := range 20000 {
		b := make([]byte, r.Intn(20))
		for k := range b {
			b[k] = byte(r.Intn(256))
			if i%2 == 0 {
				b[k] = byte(r.Intn(96) + 32)
			}
		}
		asTheChapter(t, string(b))
	}
}

// written is a token with a way to write it.
type written struct {
	told api.Token
	s    string
}

// ways are tokens, each as it may be written.
func ways(r *rand.Rand) []written {
	w := words()[r.Intn(29)]
	great := []byte(w)
	for i := range great {
		great[i] -= byte(r.Intn(2) << 5)
	}
	n := rep("n", 1+r.Intn(50)) + "_1"
	in := rep(" x", 1+r.Intn(20))
	i := decimalText(r)
	return []written{
		{aWord(w), string(great)}, {aName(w), `"` + w + `"`}, {aName(n), n}, {aName(in), `"` + in + `"`},
		{anInt(i), i}, {aDec(i + ".0"), i + ".0"}, {aText("'it''s'"), "'it''s'"}, {aText(`'\0a'`), `'\0a'`}, {aParam(), "?"},
		{aSign("!="), "<>"}, {aSign("!="), "!="}, {aSign("<"), "<"}, {aSign("<="), "<="}, {aSign("."), "."}, {aSign("-"), "-"}, {aSign("||"), "||"}, {aSign("}"), "}"},
	}
}

// decimalText is some int that is not below nought, of each length.
func decimalText(r *rand.Rand) string {
	s, _ := decimal.Text(api.Value{Kind: api.Int, Int: int(r.Uint64() >> (1 + r.Intn(63)))})
	return s
}

// What is written token by token is told so, with what parts them.
func TestWrittenTokens(t *testing.T) {
	r := rand.New(rand.NewSource(19))
	for range 3000 {
		var want []api.Token
		s := ""
		for range r.Intn(30) {
			s += []string{" ", "\n", "\t\r", " --x'\n", " --\n"}[r.Intn(5)]
			list := ways(r)
			x := list[r.Intn(len(list))]
			x.told.At = len(s)
			want = append(want, x.told)
			s += x.s
		}
		want = append(want, api.Token{Kind: api.TokEnd, At: len(s)})
		if l, at, e := Lex(s); !sameAnswer(l, want, at, 0, e, api.OK) {
			t.Fatalf("Lex(%s) = %v, %d, %v, want %v", cut(s), l, at, e, want)
		}
	}
}

// Numbers around each power of two and ten, and each length of what stands behind the point, as chapter 6 takes them.
func TestNumbersAsDecimalTakesThem(t *testing.T) {
	check := func(s string) {
		x := anInt(s)
		if strings.Contains(s, ".") {
			x = aDec(s)
		}
		if _, e := decimal.Parse(s); e == api.OK {
			tells(t, s, []api.Token{x}, 0)
		} else {
			errs(t, s, 0)
		}
	}
	r := rand.New(rand.NewSource(20))
	for range 20000 {
		high, low := bits.Mul64(r.Uint64()>>r.Intn(64), r.Uint64()>>r.Intn(64))
		digits := strings.TrimLeft(number64(high)+number64(low), "0") + rep("0", r.Intn(3))
		if digits == "" {
			digits = "0"
		}
		check(digits)
		point := r.Intn(len(digits))
		check(digits[:point+1] + "." + digits[point:])
	}
	for n := range 25 {
		for _, of := range []string{"0", "1", "9"} {
			check("1." + rep(of, n+1))
			check("0." + rep("0", n) + of)
			check(rep(of, n+1))
			check(rep(of, n+1) + ".5")
		}
	}
}

func number64(x uint64) string {
	out := ""
	for range 20 {
		out = string(rune('0'+x%10)) + out
		x /= 10
	}
	return out
}

// P17.2: places rise, and between tokens there are blanks and remarks alone.
func TestPlacesRise(t *testing.T) {
	r := rand.New(rand.NewSource(21))
	told := 0
	for range 20000 {
		s := drawn(r, 8)
		l, _, e := Lex(s)
		if e != api.OK {
			continue
		}
		told++
		for i, x := range l[:len(l)-1] {
			next := l[i+1].At
			if x.At >= next || x.At < 0 || next > len(s) {
				t.Fatal(cut(s), l)
			}
			// A token by itself, with what parts it from the next one, is that token.
			k, _, e := Lex(s[x.At:next])
			x.At = 0
			if e != api.OK || len(k) != 2 || k[0] != x {
				t.Fatal(cut(s), l, i, k, e)
			}
		}
	}
	if told < 2000 {
		t.Error("few were told:", told)
	}
}
