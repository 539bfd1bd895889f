package term

import "hearsay/api"

// CheckTest: ErrTest where the operator is none, or a side is neither a constant nor a variable.
func CheckTest(t api.Test) api.Errno {
	if t.Op < api.OpEq || t.Op > api.OpLe || !constOrVariable(t.L) || !constOrVariable(t.R) {
		return api.ErrTest
	}
	return api.OK
}

// ApplyTest: as Apply.
func ApplyTest(s api.Binding, t api.Test) api.Test {
	return api.Test{Op: t.Op, L: replace(s, t.L), R: replace(s, t.R)}
}

// Decide: whether the test holds, and whether that is known: it is a test, and both sides are constants.
func Decide(t api.Test) (bool, bool) {
	if CheckTest(t) != api.OK || !Const(t.L) || !Const(t.R) {
		return false, false
	}
	switch t.Op {
	case api.OpEq:
		return t.L == t.R, true
	case api.OpNe:
		return t.L != t.R, true
	case api.OpLt:
		return Compare(t.L, t.R) < 0, true
	}
	return Compare(t.L, t.R) <= 0, true
}
