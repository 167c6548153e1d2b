package lexer

import (
	"math/big"
	"regexp"
	"slices"
	"strings"
	"unicode/utf8"

	"stagepost/api"
)

// The model is what the chapter says that Lex answers, told another way: by expressions for the tokens, and by numbers without bounds.

var (
	modelBlanks = longestOf(`[\t\n\r ]*`)
	modelWord   = longestOf(`[A-Za-z_][A-Za-z_0-9]*`)
	modelDigits = longestOf(`[0-9]+`)
	modelText   = longestOf(`'([^']|'')*'`)
	modelSign   = longestOf(`\(|\)|,|;|\.|\*|\+|-|/|%|=|<|>|<>|<=|>=|\|\|`)
	modelMost   = new(big.Int).Lsh(big.NewInt(1), 63)
)

func longestOf(expression string) *regexp.Regexp {
	x := regexp.MustCompile(`^(?:` + expression + `)`)
	x.Longest()
	return x
}

func modelLex(s string) ([]api.Token, api.Fault) {
	if len(s) > 65536 {
		return nil, api.Fault{Err: api.ErrLong, At: -1}
	}
	var l []api.Token
	for i := len(modelBlanks.FindString(s)); i < len(s); i += len(modelBlanks.FindString(s[i:])) {
		token, width, e := modelToken(s[i:])
		if e != api.OK {
			return nil, api.Fault{Err: e, At: i}
		}
		l = append(l, at(i, token))
		i += width
	}
	return l, api.Fault{}
}

func modelToken(s string) (api.Token, int, api.Errno) {
	if w := modelWord.FindString(s); w != "" {
		if len(w) > 32 {
			return api.Token{}, 0, api.ErrLong
		}
		return word(strings.ToLower(w)), len(w), api.OK
	}
	if d := modelDigits.FindString(s); d != "" {
		x, _ := new(big.Int).SetString(d, 10)
		if x.Cmp(modelMost) > 0 {
			return api.Token{}, 0, api.ErrNumber
		}
		return num(x.Uint64()), len(d), api.OK
	}
	if g := modelSign.FindString(s); g != "" {
		return sign(g), len(g), api.OK
	}
	if s[0] != '\'' {
		return api.Token{}, 0, api.ErrToken
	}
	q := modelText.FindString(s)
	if q == "" || strings.HasPrefix(s[len(q):], "'") { // its last apostrophe is doubled, and there is no end behind it
		return api.Token{}, 0, api.ErrOpen
	}
	said := strings.Join(strings.Split(q[1:len(q)-1], "''"), "'")
	switch {
	case !utf8.ValidString(said):
		return api.Token{}, 0, api.ErrText
	case len(said) > 64:
		return api.Token{}, 0, api.ErrLong
	}
	return text(said), len(q), api.OK
}

var (
	modelSmallWord = regexp.MustCompile(`^[a-z_][a-z_0-9]{0,31}\z`)
)

// modelMayBe says whether a token may be.
func modelMayBe(token api.Token) bool {
	said := token.Text
	switch {
	case token.At != 0 || token.Number != 0 && token.Kind != api.NumberToken:
		return false
	case token.Kind == api.WordToken:
		return modelSmallWord.MatchString(said)
	case token.Kind == api.NumberToken:
		return said == "" && new(big.Int).SetUint64(token.Number).Cmp(modelMost) <= 0
	case token.Kind == api.TextToken:
		return len(said) <= 64 && string([]rune(said)) == said
	}
	return token.Kind == api.SignToken && slices.Contains(signs, said)
}

// modelTextOf is the text of a token that may be.
func modelTextOf(token api.Token) string {
	switch token.Kind {
	case api.NumberToken:
		return new(big.Int).SetUint64(token.Number).String()
	case api.TextToken:
		return quoted(strings.Join(strings.Split(token.Text, "'"), "''"))
	}
	return token.Text
}

func modelTell(l []api.Token) (string, api.Fault) {
	var pieces []string
	for i, token := range l {
		if !modelMayBe(token) {
			return "", api.Fault{Err: api.ErrArg, At: i}
		}
		pieces = append(pieces, modelTextOf(token))
	}
	return strings.Join(pieces, " "), api.Fault{}
}
