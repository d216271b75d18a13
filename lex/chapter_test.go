package lex

import (
	"fmt"
	"math/big"
	"math/rand"
	"regexp"
	"slices"
	"strconv"
	"strings"
	"testing"

	"scrivener/api"
)

// The chapter a second time, by expressions: what the tests hold the answers against.

const chapterWords = "select value from as where order by desc limit insert into update set delete create drop table index on and or not is null missing true false history meta"

const chapterSigns = "<= >= != <> || < > = + - * ( ) [ ] { } , . : ;"

var (
	blankForm  = regexp.MustCompile(`^([\x20\x09\x0a\x0d]|--[^\x0a]*)*`)
	nameForm   = regexp.MustCompile(`^[A-Za-z_][A-Za-z_0-9]*`)
	markedForm = regexp.MustCompile(`^"([^"]*)("?)`)
	numberForm = regexp.MustCompile(`^[0-9]+(\.[0-9]+)?`)
	behindForm = regexp.MustCompile(`^[A-Za-z_.]`)
	textForm   = regexp.MustCompile(`^'([^']|'')*('?)`)

	// What chapters 6 and 9 take, of what the two above find.
	goodNumber = regexp.MustCompile(`^(0|[1-9][0-9]*)(\.[0-9]{1,18})?$`)
	goodText   = regexp.MustCompile(`^'([\x20-\x26\x28-\x5b\x5d-\x7e]|''|\\([01][0-9a-f]|5c|7f|[89a-f][0-9a-f]))*'$`)
)

// fits tells whether a number's least form has 64 digits.
func fits(s string) bool {
	if strings.Contains(s, ".") {
		s = strings.Replace(strings.TrimRight(s, "0"), ".", "", 1)
	}
	n, ok := new(big.Int).SetString("0"+s, 10)
	return ok && n.IsInt64()
}

func chapterNumber(s string) (api.Token, int) {
	found := numberForm.FindString(s)
	if behindForm.MatchString(s[len(found):]) || !goodNumber.MatchString(found) || !fits(found) {
		return api.Token{}, 0
	}
	if strings.Contains(found, ".") {
		return api.Token{Kind: api.TokDec, Text: found}, len(found)
	}
	return api.Token{Kind: api.TokInt, Text: found}, len(found)
}

func chapterToken(s string) (api.Token, int) {
	if name := nameForm.FindString(s); name != "" {
		if small := strings.ToLower(name); slices.Contains(strings.Fields(chapterWords), small) {
			return api.Token{Kind: api.TokWord, Text: small}, len(name)
		}
		return api.Token{Kind: api.TokName, Text: name}, len(name)
	}
	if numberForm.MatchString(s) {
		return chapterNumber(s)
	}
	if m := markedForm.FindStringSubmatch(s); m != nil {
		if m[2] == "" || len(m[1]) < 1 || len(m[1]) > 40 {
			return api.Token{}, 0
		}
		return api.Token{Kind: api.TokName, Text: m[1]}, len(m[0])
	}
	if m := textForm.FindStringSubmatch(s); m != nil {
		if m[2] == "" || !goodText.MatchString(m[0]) {
			return api.Token{}, 0
		}
		return api.Token{Kind: api.TokText, Text: m[0]}, len(m[0])
	}
	if s[0] == '?' {
		return api.Token{Kind: api.TokParam, Text: "?"}, 1
	}
	for _, sign := range strings.Fields(chapterSigns) {
		if strings.HasPrefix(s, sign) {
			return api.Token{Kind: api.TokSign, Text: strings.Replace(sign, "<>", "!=", 1)}, len(sign)
		}
	}
	return api.Token{}, 0
}

func chapterLex(s string) ([]api.Token, int, api.Errno) {
	if len(s) > 4096 {
		return nil, 0, api.ErrLong
	}
	var out []api.Token
	at := len(blankForm.FindString(s))
	for at < len(s) {
		x, size := chapterToken(s[at:])
		if size == 0 {
			return nil, at, api.ErrSyntax
		}
		x.At = at
		out = append(out, x)
		at += size
		at += len(blankForm.FindString(s[at:]))
	}
	return append(out, api.Token{Kind: api.TokEnd, At: len(s)}), 0, api.OK
}

// Short ways to write tokens without their places.

func aWord(s string) api.Token { return api.Token{Kind: api.TokWord, Text: s} }
func aName(s string) api.Token { return api.Token{Kind: api.TokName, Text: s} }
func anInt(s string) api.Token { return api.Token{Kind: api.TokInt, Text: s} }
func aDec(s string) api.Token  { return api.Token{Kind: api.TokDec, Text: s} }
func aText(s string) api.Token { return api.Token{Kind: api.TokText, Text: s} }
func aSign(s string) api.Token { return api.Token{Kind: api.TokSign, Text: s} }
func aParam() api.Token        { return api.Token{Kind: api.TokParam, Text: "?"} }

func rep(s string, n int) string { return strings.Repeat(s, n) }

// one is a text of one byte.
func one(x int) string { return string([]byte{byte(x)}) }

// cut is a text for a message, cut where it is long.
func cut(s string) string {
	if len(s) <= 200 {
		return strconv.Quote(s)
	}
	return fmt.Sprintf("%q .. (%d bytes)", s[:200], len(s))
}

// short is tokens for a message, cut where there are many or they are long.
func short(l []api.Token) string {
	return cut(fmt.Sprint(l))
}

// sameAnswer tells whether two answers are alike; a nil list is like an empty one.
func sameAnswer(l, k []api.Token, at, bt int, e, f api.Errno) bool {
	return slices.Equal(l, k) && at == bt && e == f
}

// tells fails unless these are the tokens of s, at these places, and then the end.
func tells(t *testing.T, s string, want []api.Token, places ...int) {
	t.Helper()
	if len(want) != len(places) {
		t.Fatal("the test is wrong:", cut(s), len(want), len(places))
	}
	want = slices.Clone(want)
	for i, at := range places {
		want[i].At = at
	}
	want = append(want, api.Token{Kind: api.TokEnd, At: len(s)})
	if l, at, e := Lex(s); !sameAnswer(l, want, at, 0, e, api.OK) {
		t.Errorf("Lex(%s) = %s, %d, %v, want %s", cut(s), short(l), at, e, short(want))
	}
}

// tellsOne fails unless s is this token alone, also within others.
func tellsOne(t *testing.T, s string, x api.Token) {
	t.Helper()
	tells(t, s, []api.Token{x}, 0)
	tells(t, " "+s+"\n", []api.Token{x}, 1)
	tells(t, "--x\n"+s+"--x", []api.Token{x}, 4)
	tells(t, "("+s+",", []api.Token{aSign("("), x, aSign(",")}, 0, 1, 1+len(s))
	tells(t, "x "+s+" 7", []api.Token{aName("x"), x, anInt("7")}, 0, 2, 3+len(s))
	tells(t, s+" "+s, []api.Token{x, x}, 0, 1+len(s))
}

// errs fails unless the first thing of s that is no token is at this place.
func errs(t *testing.T, s string, place int) {
	t.Helper()
	if l, at, e := Lex(s); !sameAnswer(l, nil, at, place, e, api.ErrSyntax) {
		t.Errorf("Lex(%s) = %s, %d, %v, want ErrSyntax at %d", cut(s), short(l), at, e, place)
	}
}

// errsAlone is errs of a text that begins with no token, also behind others.
func errsAlone(t *testing.T, s string) {
	t.Helper()
	errs(t, s, 0)
	errs(t, "\t "+s, 2)
	errs(t, "-- 'x\n"+s, 6)
	errs(t, "select "+s, 7)
	errs(t, "'' "+s, 3)
	errs(t, "(1, "+s, 4)
	errs(t, "? "+s+" # ?", 2)
}

// asTheChapter fails unless Lex says of s what the chapter says.
func asTheChapter(t *testing.T, s string) {
	t.Helper()
	l, at, e := Lex(s)
	k, bt, f := chapterLex(s)
	if !sameAnswer(l, k, at, bt, e, f) {
		t.Errorf("Lex(%s) = %s, %d, %v, want %s, %d, %v", cut(s), short(l), at, e, short(k), bt, f)
	}
}

// pieces are what a text may be made of: tokens, what parts them, and what is none.
func pieces() []string {
	out := append(strings.Fields(chapterWords), strings.Fields(chapterSigns)...)
	return append(out, " ", "\t", "\n", "\r", "--", "-- x\n", "--\n", "---", "?", "??", "a", "Z9_", "_", "select_", "SELECT", "Null", "desc1", `"a"`, `"select"`, `"`, `""`, `"a b"`, `"it's"`, `"`+rep("n", 40)+`"`, `"`+rep("n", 41)+`"`, "0", "1", "00", "01", "10", "42", "1.5", "0.0", "1.", ".5", "1.50", "1a", "1_", "9223372036854775807", "9223372036854775808", "922337203685477580.70", "0.000000000000000001", "0.0000000000000000001", "'", "''", "'a'", "'it''s'", `'\0a'`, `'\61'`, `'\`, `'\0A'`, "'\n'", "'--'", `'"'`, "!", "|", "&", "@", "#", "$", "\\", "/", "%", "^", "~", "`", "\x00", "\x7f", "\x80", "\xff", "é", "\u017f", "\u212a")
}

// drawn is a text of up to so many pieces.
func drawn(r *rand.Rand, most int) string {
	list := pieces()
	var b strings.Builder
	for range r.Intn(most + 1) {
		b.WriteString(list[r.Intn(len(list))])
	}
	return b.String()
}
