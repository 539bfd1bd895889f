package syntax

import "hearsay/api"

// operators: a test's operator as a token's kind, as a number, and as it is printed.
var operators = [...]struct {
	kind, op int
	sign     string
}{
	{api.TokEq, api.OpEq, "="},
	{api.TokNe, api.OpNe, "!="},
	{api.TokLt, api.OpLt, "<"},
	{api.TokLe, api.OpLe, "<="},
}

// operatorOf: 0, if no operator is of this kind.
func operatorOf(kind int) int {
	for _, o := range operators {
		if o.kind == kind {
			return o.op
		}
	}
	return 0
}

// signOf: "", if there is no such operator.
func signOf(op int) string {
	for _, o := range operators {
		if o.op == op {
			return o.sign
		}
	}
	return ""
}
