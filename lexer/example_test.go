package lexer_test

import (
	"fmt"

	"stagepost/api"
	"stagepost/lexer"
)

func Example() {
	l, fault := lexer.Lex("SELECT a1,'it''s' <= 007")
	fmt.Println(fault.Err == api.OK)
	for i, token := range l {
		fmt.Println(token.At, token.Kind, token.Text, token.Number, lexer.Reserved(token.Text))
		l[i].At = 0
	}
	s, fault := lexer.Text(l)
	fmt.Println(s, fault.Err == api.OK)
	_, fault = lexer.Lex("a 'b")
	fmt.Println(fault.Err == api.ErrOpen, fault.At)
	// Output:
	// true
	// 0 1 select 0 true
	// 7 1 a1 0 false
	// 9 4 , 0 false
	// 10 3 it's 0 false
	// 18 4 <= 0 false
	// 21 2  7 false
	// select a1 , 'it''s' <= 7 true
	// true 2
}
