package lex

import (
	"math/rand"
	"slices"
	"strings"
	"sync"
	"testing"
	"unsafe"

	"scrivener/api"
)

// What holds everywhere: W1 to W9, P0.7 and P0.8.

// lent is a text over bytes that can be changed behind its back, as no text can that is kept.
func lent(s string) (string, []byte) {
	b := []byte(s)
	return unsafe.String(unsafe.SliceData(b), len(b)), b
}

func scribble(b []byte) {
	for i := range b {
		b[i] = '#'
	}
}

// scribbleTokens writes over all that an answer has, spare room too.
func scribbleTokens(l []api.Token) {
	for i := range l {
		scribble(unsafe.Slice(unsafe.StringData(l[i].Text), len(l[i].Text)))
	}
	l = l[:cap(l)]
	for i := range l {
		l[i] = api.Token{Kind: -1, Text: "#", At: -1}
	}
}

// deepCopy is an answer with texts of its own.
func deepCopy(l []api.Token) []api.Token {
	l = slices.Clone(l)
	for i := range l {
		l[i].Text = strings.Clone(l[i].Text)
	}
	return l
}

func ordinary() []string {
	return []string{"", "a", "select", "SELECT", "\"a b\"", "1", "1.5", "'it''s'", "<>", "<", "?", ";", "#", "select * from t as x where x.a <> 1.5 and x.\"b c\" = 'it''s' or x.c >= ? -- all\n;", "a 01", "'a", rep("Select ", 500), rep("<>", 2000), rep("x", 4097)}
}

// W6, W7: what is handed in is neither changed nor kept.
func TestNotKept(t *testing.T) {
	for _, s := range ordinary() {
		k, bt, f := chapterLex(s)
		text, bytes := lent(s)
		l, at, e := Lex(text)
		if string(bytes) != s {
			t.Error(cut(s), "was changed")
		}
		scribble(bytes)
		if !sameAnswer(l, k, at, bt, e, f) {
			t.Error(cut(s), l, at, e)
		}
	}
}

// W6: what is answered is new memory, spare room too.
func TestNewMemory(t *testing.T) {
	for _, s := range ordinary() {
		k, bt, f := chapterLex(s)
		one, _, _ := Lex(s)
		two, _, _ := Lex(s)
		scribbleTokens(two)
		three, at, e := Lex(s)
		if !slices.Equal(one, k) || !sameAnswer(three, k, at, bt, e, f) {
			t.Error(cut(s), one, three)
		}
	}
}

// W6: no two texts of one answer share memory.
func TestNoTwoTextsShare(t *testing.T) {
	for _, s := range append(ordinary(), "a a a", "Select select SELECT", "<> != <> !=", "? ? ?", "1 1", "'' ''", "; ; < <") {
		want, _, _ := Lex(s)
		for i := range want {
			l, _, _ := Lex(s)
			scribbleTokens(l[i : i+1 : i+1])
			for k := range l {
				if k != i && l[k] != want[k] {
					t.Fatal(cut(s), i, k, l[k])
				}
			}
		}
	}
}

// W7: what was answered stays.
func TestAnswersStay(t *testing.T) {
	var answers, copies [][]api.Token
	for _, s := range ordinary() {
		l, _, _ := Lex(s)
		answers = append(answers, l)
		copies = append(copies, deepCopy(l))
	}
	r := rand.New(rand.NewSource(1))
	for range 1000 {
		Lex(drawn(r, 20))
	}
	for i := range answers {
		if !slices.Equal(answers[i], copies[i]) {
			t.Error(cut(ordinary()[i]), answers[i])
		}
	}
}

// W2, P0.8, P17.2: each text has one answer, whatever was asked before.
func TestTwins(t *testing.T) {
	r := rand.New(rand.NewSource(2))
	var texts []string
	var answers [][]api.Token
	var places []int
	var errors []api.Errno
	for range 2000 {
		s := drawn(r, 15)
		l, at, e := Lex(s)
		texts, answers, places, errors = append(texts, s), append(answers, l), append(places, at), append(errors, e)
	}
	for i := len(texts) - 1; i >= 0; i-- {
		if l, at, e := Lex(texts[i]); !sameAnswer(l, answers[i], at, places[i], e, errors[i]) {
			t.Fatal(cut(texts[i]), l, answers[i])
		}
	}
}

// W3: with an error there is no token, without one no place.
func TestZeroBesideErrors(t *testing.T) {
	r := rand.New(rand.NewSource(3))
	for range 5000 {
		s := drawn(r, 6)
		l, at, e := Lex(s)
		switch e {
		case api.OK:
			if at != 0 || len(l) == 0 {
				t.Fatal(cut(s), l, at)
			}
		case api.ErrSyntax:
			if len(l) != 0 || at < 0 || at >= len(s) {
				t.Fatal(cut(s), l, at)
			}
		default:
			t.Fatal(cut(s), e)
		}
	}
}

// W9: there is nothing that two calls at the same time share.
func TestAtTheSameTime(t *testing.T) {
	var work sync.WaitGroup
	list := ordinary()
	for range 8 {
		work.Go(func() {
			for range 20 {
				for _, s := range list {
					asTheChapter(t, s)
				}
			}
		})
	}
	work.Wait()
}

func FuzzAnyBytes(f *testing.F) {
	for _, s := range append(ordinary(), pieces()...) {
		f.Add(s)
	}
	r := rand.New(rand.NewSource(4))
	for range 100 {
		f.Add(drawn(r, 10))
	}
	f.Fuzz(func(t *testing.T, s string) {
		asTheChapter(t, s)
		text, bytes := lent(s)
		l, at, e := Lex(text)
		scribble(bytes)
		k, bt, g := chapterLex(s)
		if !sameAnswer(l, k, at, bt, e, g) {
			t.Errorf("Lex(%s) kept what was handed in", cut(s))
		}
		for i, x := range l {
			if x.Kind != api.TokEnd && x.At >= l[i+1].At {
				t.Errorf("Lex(%s): places %d and %d", cut(s), x.At, l[i+1].At)
			}
		}
	})
}
