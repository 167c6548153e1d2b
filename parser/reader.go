package parser

import (
	"stagepost/api"
	"stagepost/lexer"
)

// reader reads the tokens of a text at one place. Each of its methods reads what its name says from there on, and throws a fault where that is not there.
type reader struct {
	tokens []api.Token
	place  int // how many of them are read
	length int // of the text
	depth  int // how deep what is read at the place is nested
}

func (r *reader) over() bool {
	return r.place == len(r.tokens)
}

// next answers the token at the place, of the kind NoToken where they are over.
func (r *reader) next() api.Token {
	if r.over() {
		return api.Token{}
	}
	return r.tokens[r.place]
}

// fault answers the fault e at the place.
func (r *reader) fault(e api.Errno) api.Fault {
	if r.over() {
		return api.Fault{Err: e, At: r.length}
	}
	return api.Fault{Err: e, At: r.next().At}
}

// has says whether the next token is that word or sign. No word is written as a sign, but a text may be written as either.
func (r *reader) has(said string) bool {
	t := r.next()
	return t.Text == said && (t.Kind == api.WordToken || t.Kind == api.SignToken)
}

// took reads that word or sign, if it is next, and says whether it was.
func (r *reader) took(said string) bool {
	if !r.has(said) {
		return false
	}
	r.place++
	return true
}

// want reads these words and signs.
func (r *reader) want(all ...string) {
	for _, said := range all {
		if !r.took(said) {
			panic(r.fault(api.ErrSyntax))
		}
	}
}

func (r *reader) name() string {
	t := r.next()
	if t.Kind != api.WordToken || lexer.Reserved(t.Text) {
		panic(r.fault(api.ErrSyntax))
	}
	r.place++
	return t.Text
}

// number reads a number that is at most so great.
func (r *reader) number(most uint64) uint64 {
	t := r.next()
	switch {
	case t.Kind != api.NumberToken:
		panic(r.fault(api.ErrSyntax))
	case t.Number > most:
		panic(r.fault(api.ErrNumber))
	}
	r.place++
	return t.Number
}

// room sees to it that one more may be read behind so many: one too many is told at its first token, whatever that is. Where there is none, the text ends too early for that one, as for any other.
func (r *reader) room(has, most int) {
	if has >= most && !r.over() {
		panic(r.fault(api.ErrLong))
	}
}

// list reads one or more, parted by commas.
func list[T any](r *reader, most int, one func() T) []T {
	l := []T{one()}
	for r.took(",") {
		r.room(len(l), most)
		l = append(l, one())
	}
	return l
}

// closed reads a list in parentheses, which are part of a statement: they go no deeper.
func closed[T any](r *reader, most int, one func() T) []T {
	r.want("(")
	l := list(r, most, one)
	r.want(")")
	return l
}
