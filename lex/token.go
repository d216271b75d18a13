package lex

import (
	"strings"

	"scrivener/api"
	"scrivener/decimal"
	"scrivener/text"
)

// none is told where a text begins with no token.
func none() (api.Token, int) { return api.Token{}, 0 }

// word is a word or a name without marks.
func word(s string) (api.Token, int) {
	size := letters().or(digits()).run(s)
	small := strings.ToLower(s[:size])
	if isWord(small) {
		return api.Token{Kind: api.TokWord, Text: small}, size
	}
	return api.Token{Kind: api.TokName, Text: s[:size]}, size
}

func isWord(small string) bool {
	switch small {
	case "select", "value", "from", "as", "where", "order", "by", "desc", "limit",
		"insert", "into", "update", "set", "delete", "create", "drop", "table", "index", "on",
		"and", "or", "not", "is", "null", "missing", "true", "false", "history", "meta":
		return true
	}
	return false
}

// quoted is a name in marks, which may be what a word is.
func quoted(s string) (api.Token, int) {
	name, _, ends := strings.Cut(s[1:], `"`)
	if !ends || name == "" || len(name) > api.MaxName {
		return none()
	}
	return api.Token{Kind: api.TokName, Text: name}, len(name) + 2
}

func number(s string) (api.Token, int) {
	kind := api.TokInt
	size := digits().run(s)
	if behind, is := strings.CutPrefix(s[size:], "."); is {
		kind = api.TokDec
		size += 1 + digits().run(behind)
	}
	if goesOn(s[size:]) {
		return none()
	}
	if _, e := decimal.Parse(s[:size]); e != api.OK {
		return none()
	}
	return api.Token{Kind: kind, Text: s[:size]}, size
}

// goesOn tells whether what stands behind a number would belong to it.
func goesOn(s string) bool {
	return s != "" && (s[0] == '.' || letters().has(s[0]))
}

// literal is a text in marks: within it two of them stand for one.
func literal(s string) (api.Token, int) {
	size := 1
	for {
		mark := strings.IndexByte(s[size:], '\'')
		if mark < 0 {
			return none()
		}
		size += mark + 1
		if !strings.HasPrefix(s[size:], "'") {
			break
		}
		size++
	}
	if _, e := text.Parse(s[:size]); e != api.OK {
		return none()
	}
	return api.Token{Kind: api.TokText, Text: s[:size]}, size
}

// sign is the longest sign.
func sign(s string) (api.Token, int) {
	two := s[:min(2, len(s))]
	switch two {
	case "<>":
		return api.Token{Kind: api.TokSign, Text: "!="}, 2
	case "<=", ">=", "!=", "||":
		return api.Token{Kind: api.TokSign, Text: two}, 2
	}
	if signs().has(s[0]) {
		return api.Token{Kind: api.TokSign, Text: s[:1]}, 1
	}
	return none()
}
