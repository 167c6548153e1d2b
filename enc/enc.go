// Package enc is layer 1: numbers of a few bytes; tuples of values, and stamps, as texts that stand in the order of what they say. See shared/doc/01-enc.md.
package enc

import (
	"cmp"
	"slices"

	"stagepost/api"
)

const (
	more    = 128 // stands in each byte of a number but the last one
	longest = 10  // bytes of the greatest number of 64 bits
)

// mark is the byte ahead of a value in a tuple's text. Marks rise as the kinds do, so that texts of values of several kinds are in the order of these.
type mark byte

const (
	markNull mark = iota + 1
	markBool
	markInt
	markText
)

// What stands behind a byte 0 within a text. A text's end is below all that may go on behind it, so that a text is ahead of those that begin with it.
const (
	textEnd  = 1
	textZero = 255
)

const (
	turn       = 1 << 63   // turned in an Int, so that those below 0 are ahead
	topWall    = 1<<63 - 1 // a stamp's parts are told by how far they are below the top, so that a later one is ahead
	topPart    = 1<<31 - 1
	wallBytes  = 8
	partBytes  = 4
	stampBytes = wallBytes + 2*partBytes
)

// Append answers b's bytes, and behind them those of x.
func Append(b []byte, x uint64) []byte {
	out := append(make([]byte, 0, len(b)+longest), b...)
	for ; x >= more; x >>= 7 {
		out = append(out, byte(x)|more)
	}
	return append(out, byte(x))
}

// Read answers the number with whose bytes b begins, and how many these are.
func Read(b []byte) (x uint64, n int, e api.Errno) {
	for i := range min(len(b), longest) {
		group := b[i] &^ more
		x |= uint64(group) << (7 * i)
		if b[i] >= more {
			continue
		}
		if !mayEnd(group, i) {
			return 0, 0, api.ErrBad
		}
		return x, i + 1, api.OK
	}
	return 0, 0, api.ErrBad
}

// mayEnd says whether group may be the last one of a number, behind i others: a number has no group 0 at its end that it doesn't need, and no more than 64 bits.
func mayEnd(group byte, i int) bool {
	return (i == 0 || group != 0) && (i < longest-1 || group <= 1)
}

// Small answers what Read does, of a number up to most.
func Small(b []byte, most int) (x, n int, e api.Errno) {
	u, n, e := Read(b)
	if e != api.OK {
		return 0, 0, e
	}
	if most < 0 || u > uint64(most) {
		return 0, 0, api.ErrBad
	}
	return int(u), n, api.OK
}

// Check answers ErrArg of a value that may not be.
func Check(v api.Value) api.Errno {
	may := false
	switch v.Kind {
	case api.Null:
		may = v.Int == 0 && v.Text == ""
	case api.Bool:
		may = (v.Int == 0 || v.Int == 1) && v.Text == ""
	case api.Int:
		may = v.Text == ""
	case api.Text:
		may = v.Int == 0 && len(v.Text) <= api.MaxWord
	}
	if !may {
		return api.ErrArg
	}
	return api.OK
}

// Compare answers -1, if a is ahead of b, 1, if b is ahead of a, 0 else.
func Compare(a, b []api.Value) int {
	return slices.CompareFunc(a, b, compareValues)
}

func compareValues(a, b api.Value) int {
	return cmp.Or(cmp.Compare(a.Kind, b.Kind), cmp.Compare(a.Int, b.Int), cmp.Compare(a.Text, b.Text))
}

// Tuple answers the text of l.
func Tuple(l []api.Value) (string, api.Errno) {
	if len(l) > api.MaxTuple {
		return "", api.ErrLong
	}
	var b []byte
	for _, v := range l {
		if e := Check(v); e != api.OK {
			return "", e
		}
		b = appendValue(b, v)
	}
	return string(b), api.OK
}

func appendValue(b []byte, v api.Value) []byte {
	switch v.Kind {
	case api.Bool:
		return append(b, byte(markBool), byte(v.Int))
	case api.Int:
		return appendHigh(append(b, byte(markInt)), uint64(v.Int)^turn, 8)
	case api.Text:
		return appendText(append(b, byte(markText)), v.Text)
	}
	return append(b, byte(markNull))
}

func appendText(b []byte, s string) []byte {
	for i := range len(s) {
		b = append(b, s[i])
		if s[i] == 0 {
			b = append(b, textZero)
		}
	}
	return append(b, 0, textEnd)
}

// appendHigh puts the n lowest bytes of x behind b, the highest of them first.
func appendHigh(b []byte, x uint64, n int) []byte {
	for i := range n {
		b = append(b, byte(x>>(8*(n-1-i))))
	}
	return b
}

// readHigh answers the number whose bytes, the highest first, are those of s.
func readHigh(s string) uint64 {
	x := uint64(0)
	for i := range len(s) {
		x = x<<8 | uint64(s[i])
	}
	return x
}

// Values answers the tuple whose text s is.
func Values(s string) ([]api.Value, api.Errno) {
	var l []api.Value
	for at := 0; at < len(s); {
		v, n := readValue(s[at:])
		if n == 0 || len(l) == api.MaxTuple {
			return nil, api.ErrBad
		}
		l = append(l, v)
		at += n
	}
	return l, api.OK
}

// readValue answers the value with which s, which is not empty, begins, and how many bytes it has: 0, if there is none.
func readValue(s string) (api.Value, int) {
	switch mark(s[0]) {
	case markNull:
		return api.Value{Kind: api.Null}, 1
	case markBool:
		if len(s) > 1 && s[1] <= 1 {
			return api.Value{Kind: api.Bool, Int: int64(s[1])}, 2
		}
	case markInt:
		if len(s) > 8 {
			return api.Value{Kind: api.Int, Int: int64(readHigh(s[1:9]) ^ turn)}, 9
		}
	case markText:
		if text, n := readText(s[1:]); n > 0 {
			return api.Value{Kind: api.Text, Text: text}, 1 + n
		}
	}
	return api.Value{}, 0
}

// readText answers the text with which s begins, and how many bytes of s it has, its end among them: 0, if there is none.
func readText(s string) (string, int) {
	var text []byte
	zero := false // the byte ahead is a 0 that waits for what stands behind it
	for i := range len(s) {
		switch {
		case zero && s[i] == textEnd:
			return string(text), i + 1
		case zero && s[i] != textZero:
			return "", 0
		case s[i] == 0:
			zero = true
		case len(text) == api.MaxWord:
			return "", 0
		case zero:
			text = append(text, 0)
			zero = false
		default:
			text = append(text, s[i])
		}
	}
	return "", 0
}

// After answers the least text above all that begin with s, or the empty one.
func After(s string) string {
	for i := range len(s) {
		last := len(s) - 1 - i
		if s[last] < 255 {
			return s[:last] + string([]byte{s[last] + 1})
		}
	}
	return ""
}

// Begins answers the span of all keys that begin with the text of l.
func Begins(l []api.Value) (api.Span, api.Errno) {
	s, e := Tuple(l)
	if e != api.OK {
		return api.Span{}, e
	}
	return api.Span{From: s, To: After(s)}, api.OK
}

// In says whether key is in the span.
func In(key string, s api.Span) bool {
	return key >= s.From && (s.To == "" || key < s.To)
}

// Stamp answers the text of t.
func Stamp(t api.Stamp) (string, api.Errno) {
	if !mayBe(t) {
		return "", api.ErrArg
	}
	b := appendHigh(nil, uint64(topWall-t.Wall), wallBytes)
	b = appendHigh(b, uint64(topPart-t.Logic), partBytes)
	b = appendHigh(b, uint64(topPart-t.Tag), partBytes)
	return string(b), api.OK
}

func mayBe(t api.Stamp) bool {
	return 0 <= t.Wall && t.Wall <= api.MaxWall && 0 <= t.Logic && t.Logic <= api.MaxLogic && 0 <= t.Tag && t.Tag <= api.MaxTag
}

// Unstamp answers the stamp whose text s is.
func Unstamp(s string) (api.Stamp, api.Errno) {
	if len(s) != stampBytes {
		return api.Stamp{}, api.ErrBad
	}
	// A number above its top wraps round, to one that is above each limit.
	wall := topWall - readHigh(s[:wallBytes])
	logic := topPart - readHigh(s[wallBytes:wallBytes+partBytes])
	tag := topPart - readHigh(s[wallBytes+partBytes:])
	if wall > api.MaxWall || logic > api.MaxLogic || tag > api.MaxTag {
		return api.Stamp{}, api.ErrBad
	}
	return api.Stamp{Wall: int64(wall), Logic: int32(logic), Tag: int32(tag)}, api.OK
}

// Later says whether a is later than b.
func Later(a, b api.Stamp) bool {
	return cmp.Or(cmp.Compare(a.Wall, b.Wall), cmp.Compare(a.Logic, b.Logic), cmp.Compare(a.Tag, b.Tag)) > 0
}
