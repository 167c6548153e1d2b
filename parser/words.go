package parser

import "stagepost/api"

// The ranks of expressions by the way in which they are read. An operand has a higher rank than what it is an operand of, or stands in parentheses; on the left of a chain, and behind a NOT or a - of its own, the same rank will do.
const (
	rankOr = iota
	rankAnd
	rankNot
	rankCompare
	rankSum
	rankProduct
	rankUnary // and all that is read as a primary
)

// operation is one of two operands, and the word or the sign between them.
type operation struct {
	op   api.Op
	said string
	rank int
}

var operations = [...]operation{
	{api.OpOr, "or", rankOr},
	{api.OpAnd, "and", rankAnd},
	{api.OpEq, "=", rankCompare},
	{api.OpNe, "<>", rankCompare},
	{api.OpLt, "<", rankCompare},
	{api.OpLe, "<=", rankCompare},
	{api.OpGt, ">", rankCompare},
	{api.OpGe, ">=", rankCompare},
	{api.OpAdd, "+", rankSum},
	{api.OpSub, "-", rankSum},
	{api.OpJoin, "||", rankSum},
	{api.OpMul, "*", rankProduct},
	{api.OpDiv, "/", rankProduct},
	{api.OpMod, "%", rankProduct},
}

// aggregate is one of an expression, and its word. COUNT(*) is none of these.
type aggregate struct {
	op   api.Op
	said string
}

var aggregates = [...]aggregate{
	{api.OpCount, "count"},
	{api.OpSum, "sum"},
	{api.OpMin, "min"},
	{api.OpMax, "max"},
}

// kindWord is the kind of a column, and its word.
type kindWord struct {
	kind api.Kind
	said string
}

var kinds = [...]kindWord{
	{api.Int, "int"},
	{api.Text, "text"},
	{api.Bool, "bool"},
}

// operationOf answers the operation of two that op is, if it is one.
func operationOf(op api.Op) (operation, bool) {
	for _, o := range operations {
		if o.op == op {
			return o, true
		}
	}
	return operation{}, false
}

// rankOf answers the rank of an expression of that operation.
func rankOf(op api.Op) int {
	switch op {
	case api.OpNot:
		return rankNot
	case api.OpIsNull, api.OpNotNull:
		return rankCompare
	}
	if o, ok := operationOf(op); ok {
		return o.rank
	}
	return rankUnary
}
