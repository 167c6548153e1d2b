package lexer

import (
	"slices"
	"strings"
	"testing"

	"stagepost/api"
)

// These are the tests of P13.3.

// pieces are what texts are put together of: tokens, pieces of tokens, blanks, bytes that are neither.
func pieces() []string {
	return []string{
		"", " ", "\t", "\n", "\r", "\x0b", "\x00", "a", "Z", "_", "0", "9", "12", "9223372036854775808", "9223372036854775809", "'", "''", "'a'", "é", "\xc3", "\xa9", "\xff", "\ufffd",
		"(", ")", ",", ";", ".", "*", "+", "-", "/", "%", "=", "<", ">", "|", "!", "\x7f", strings.Repeat("a", 31), strings.Repeat("b", 32), strings.Repeat("'", 63), strings.Repeat("c", 63),
	}
}

// eachText hands over all texts of up to three pieces.
func eachText(do func(string)) {
	all := pieces()
	for _, a := range all {
		for _, b := range all {
			for _, c := range all {
				do(a + b + c)
				do("'" + a + b + c + "'")
			}
		}
	}
}

func isLikeTheModel(t *testing.T, s string) {
	t.Helper()
	want, wantF := modelLex(s)
	if got, f := Lex(s); f != wantF || !slices.Equal(got, want) {
		t.Errorf("Lex of %q: %v, %v; want %v, %v", short(s), got, f, want, wantF)
	}
}

func TestLexIsLikeTheModel(t *testing.T) {
	eachText(func(s string) { isLikeTheModel(t, s) })
}

// TestTwoBytes: all texts of two bytes, alone and within apostrophes.
func TestTwoBytes(t *testing.T) {
	for x := range 256 {
		for y := range 256 {
			s := string([]byte{byte(x), byte(y)})
			isLikeTheModel(t, s)
			isLikeTheModel(t, quoted(s))
		}
	}
}

// givesBack sees to it that Lex of Text of tokens that may be gives them back, but for their places.
func givesBack(t *testing.T, l []api.Token) {
	t.Helper()
	s := mustText(t, l...)
	if len(s) > api.MaxText {
		return
	}
	if got := unplaced(mustLex(t, s)); !slices.Equal(got, l) {
		t.Errorf("Lex of Text of %v: %v", l, got)
	}
}

func TestLexOfTextGivesTheTokensBack(t *testing.T) {
	all := mayBe()
	givesBack(t, nil)
	givesBack(t, all)
	for _, a := range all {
		givesBack(t, list(a))
		for _, b := range all {
			givesBack(t, list(a, b))
			givesBack(t, list(a, b, a))
		}
	}
	for n := range 300 {
		givesBack(t, slices.Repeat(list(all[n%len(all)]), n))
	}
}

// liesRight sees to it that the tokens lie one behind the other, with only blanks between, ahead of and behind them: each piece from a token's place on begins with it, and what is left of it is blank.
func liesRight(t *testing.T, s string, l []api.Token) {
	t.Helper()
	behind := 0
	for i, token := range l {
		if token.At < behind || strings.Trim(s[behind:token.At], "\t\n\r ") != "" {
			t.Errorf("Lex of %q: the token %d, %v, lies wrong", short(s), i, token)
			return
		}
		end := len(s)
		if i+1 < len(l) {
			end = min(max(l[i+1].At, token.At), end)
		}
		piece := strings.TrimRight(s[token.At:end], "\t\n\r ")
		if alone := unplaced(mustLex(t, piece)); !slices.Equal(alone, unplaced(list(token))) {
			t.Errorf("Lex of %q: the token %d, %v, is %v alone", short(s), i, token, alone)
		}
		behind = token.At + len(piece)
	}
	if strings.Trim(s[behind:], "\t\n\r ") != "" {
		t.Errorf("Lex of %q: something lies behind the last token", short(s))
	}
}

// mayHaveBlanksMore sees to it that blanks more between tokens change nothing but places.
func mayHaveBlanksMore(t *testing.T, s string, l []api.Token) {
	t.Helper()
	for _, more := range []string{" ", "\n", "\t\r\n ", strings.Repeat(" ", 50)} {
		var b strings.Builder
		behind := 0
		var want []api.Token
		for _, token := range l {
			b.WriteString(s[behind:token.At] + more)
			want = append(want, at(b.Len(), token))
			behind = token.At
		}
		b.WriteString(s[behind:] + more)
		if b.Len() > api.MaxText {
			return
		}
		if got, f := Lex(b.String()); f != (api.Fault{}) || !slices.Equal(got, want) {
			t.Errorf("Lex of %q, with %q more: %v, %v; want %v", short(s), more, got, f, want)
		}
	}
}

// saysAgain sees to it that the text of the tokens of a text says the same, and the text of these the same again.
func saysAgain(t *testing.T, l []api.Token) {
	t.Helper()
	s := mustText(t, unplaced(l)...)
	if len(s) > api.MaxText {
		return
	}
	again := mustLex(t, s)
	if !slices.Equal(unplaced(again), unplaced(l)) || mustText(t, unplaced(again)...) != s {
		t.Errorf("Lex of %q: %v; want %v", short(s), again, l)
	}
}

func TestWhatFollows(t *testing.T) {
	done := 0
	eachText(func(s string) {
		l, f := Lex(s)
		if f != (api.Fault{}) {
			return
		}
		done++
		liesRight(t, s, l)
		mayHaveBlanksMore(t, s, l)
		saysAgain(t, l)
	})
	if done < 10000 {
		t.Errorf("%d texts alone had no fault", done)
	}
}

// TestLexAnswersTokensThatMayBe, but for their places.
func TestLexAnswersTokensThatMayBe(t *testing.T) {
	eachText(func(s string) {
		l, _ := Lex(s)
		for _, token := range unplaced(l) {
			if !modelMayBe(token) {
				t.Errorf("Lex of %q: %v", s, token)
			}
		}
	})
}

// TestLexEndsAtLongTexts of each piece, over and over.
func TestLexEndsAtLongTexts(t *testing.T) {
	for _, p := range append(pieces(), "a ", "1 ", "'a' ", "'a", "a'", "1a", "< ", "||", "|||") {
		if p != "" {
			isLikeTheModel(t, strings.Repeat(p, 65536/len(p)))
		}
	}
}

func TestTextIsLikeTheModel(t *testing.T) {
	all := append(mayBe(), mayNotBe()...)
	for _, a := range all {
		for _, b := range all {
			l := list(a, b)
			want, wantF := modelTell(l)
			if got, f := Text(l); got != want || f != wantF {
				t.Errorf("Text of %v: %q, %v; want %q, %v", l, got, f, want, wantF)
			}
		}
	}
}

func FuzzLex(f *testing.F) {
	for _, p := range pieces() {
		f.Add(p)
		f.Add("a " + p + " 'b' " + p)
	}
	f.Add("SELECT a1,'it''s'")
	f.Add("insert into t values ( 1 , 'a' ) ;")
	f.Fuzz(func(t *testing.T, s string) {
		isLikeTheModel(t, s)
		if l, fault := Lex(s); fault == (api.Fault{}) {
			liesRight(t, s, l)
			mayHaveBlanksMore(t, s, l)
			saysAgain(t, l)
		}
	})
}

func FuzzText(f *testing.F) {
	for _, token := range append(mayBe(), mayNotBe()...) {
		f.Add(byte(token.Kind), token.Text, token.Number, token.At, byte(api.SignToken), "(", uint64(0), 0)
	}
	f.Fuzz(func(t *testing.T, kindA byte, textA string, numberA uint64, atA int, kindB byte, textB string, numberB uint64, atB int) {
		a := api.Token{Kind: api.TokenKind(kindA), Text: textA, Number: numberA, At: atA}
		b := api.Token{Kind: api.TokenKind(kindB), Text: textB, Number: numberB, At: atB}
		for _, l := range [][]api.Token{list(a), list(a, b), list(num(1), b, a)} {
			want, wantF := modelTell(l)
			if got, fault := Text(l); got != want || fault != wantF {
				t.Errorf("Text of %v: %q, %v; want %q, %v", l, got, fault, want, wantF)
			}
			if wantF == (api.Fault{}) {
				givesBack(t, l)
			}
		}
	})
}
