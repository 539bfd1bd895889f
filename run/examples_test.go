package run_test

import "testing"

// The chapter's examples, one by one.

const exampleOne = `
enroll alice
> ok
enroll bob
> ok
enroll alice
> E181 0
assert alice "good(carl). good(dan)."
> ok 2
assert bob "may(X) :- alice says good(X), X != dan."
> ok 1
export alice "good(carl)." 0
> ok 1 ID
import bob 1
> ok 1 ID
clauses bob
> ok
>   alice says good(carl).
>   may(V0) :- alice says good(V0), V0 != dan.
query bob "may(X)?" 9
> ok 3
>   may(carl)
>     0. alice says good(carl) by alice says good(carl).
>     1. may(carl) by may(V0) :- alice says good(V0), V0 != dan. from 0
query bob "may(X)?" 2
> E103 0
ask bob "may(X)?"
> ok
>   may(carl)
query bob "good(X)?" 9
> ok 3
`

const exampleTwo = exampleOne + `
export alice "good(dan)." 0
> ok 2 ID
copy 2
> ok 3
import bob 2
> ok 1 ID
import bob 3
> ok 0 ID
waiting
> ok
ask bob "W says good(X)?"
> ok
>   alice says good(carl)
>   alice says good(dan)
ask bob "may(X)?"
> ok
>   may(carl)
`

const exampleThree = exampleTwo + `
export bob "may(carl)." 2
> E103 0
export bob "may(carl)." 3
> ok 4 ID
export bob "may(dan)." 9
> E201 0
export bob "alice says good(carl)." 9
> E37 0
export bob "may(X) :- alice says good(X), X != dan." 0
> ok 5 ID
import alice 4
> ok 1 ID
import alice 5
> ok 1 ID
clauses alice
> ok
>   good(carl).
>   good(dan).
>   bob says may(carl).
>   bob says may(V0) :- alice says good(V0), V0 != dan.
`

const exampleFour = `
frob
> E252 0
enroll
> E253 6
enroll ""
> E36 0
assert eve "p."
> E241 0
enroll eve
> ok
assert eve "p(X)."
> E34 0
assert eve "p. q("
> E51 5
query eve "p" 1
> E51 1
retract eve "p."
> E202 0
import eve 1
> E231 0
news eve 1
> E204 0
why eve "p(X)?"
> E81 0
why eve "p?"
> E111 0
show eve 7
> E231 0
drop 007
> E45 5
`

const exampleFive = `
enroll ann
> ok
enroll bob
> ok
assert ann "key(1)."
> ok 1
export ann "key(1)." 0
> ok 1 ID
copy 1
> ok 2
flip 1 9 1
> ok
swap 1 2
> ok
waiting
> ok 2 1
import bob 2
> ok 1 ID
cut 1 0
> ok
import bob 1
> E191 0
waiting
> ok 1
drop 1
> ok
forge "x"
> ok 3
waiting
> ok 3
import bob 3
> E191 0
`

const exampleSix = `
enroll ann
> ok
enroll bob
> ok
enroll cy
> ok
assert ann "good(x)."
> ok 1
export ann "good(x)." 0
> ok 1 ID
import bob 1
> ok 1 ID
assert bob "may(X) :- ann says good(X)."
> ok 1
assert cy "may(X) :- ann says good(X)."
> ok 1
prove bob "may(x)?" 9
> ok 2
show cy 2
> ok
>   may(x)
show ann 2
> E127 0
ask cy "may(X)?"
> ok
retract cy "may(X) :- ann says good(X)."
> ok 1
show cy 2
> E127 0
prove bob "may(y)?" 9
> E111 0
`

const exampleSeven = `
enroll bob
> ok
assert bob "p(1)."
> ok 1
watch bob "p(X)?"
> ok 1
news bob 1
> ok
assert bob "p(2). p(X) :- q(X). q(3)."
> ok 3
news bob 1
> ok
>   + p(2)
>   + p(3)
retract bob "p(1). q(3)."
> ok 2
news bob 1
> ok
>   - p(1)
>   - p(3)
news bob 2
> E204 0
`

const exampleEight = `
enroll bob
> ok
assert bob "a(1). a(2). b(X) :- a(X). ann says c. d :- ann says c. d."
> ok 6
why bob "b(2)?"
> ok
>   a(2).
>   b(V0) :- a(V0).
why bob "d?"
> ok
>   d.
loss bob ann
> ok
>   ann says c
redundant bob
> ok
>   d.
>   d :- ann says c.
`

const exampleNine = `
enroll bob
> ok
assert bob "p. q."
> ok 2
watch bob "p?"
> ok 1
crash bob 1000000
> ok 2
ask bob "q?"
> ok
>   q
news bob 1
> E204 0
crash bob 0
> ok 0
clauses bob
> ok
assert bob "p."
> ok 1
`

const exampleTen = `
enroll bob
> ok
assert bob "e(1, 2). e(2, 3). e(3, 1). far(X, Y) :- e(X, Y); (far(X, Z), e(Z, Y))."
> ok 5
ask bob "far(1, X)?"
> ok
>   far(1, 1)
>   far(1, 2)
>   far(1, 3)
query bob "far(X, X)?" 4
> E103 0
assert bob "up(X, Y) :- far(X, Y), X < Y."
> ok 1
ask bob "up(X, Y)?"
> ok
>   up(1, 2)
>   up(1, 3)
>   up(2, 3)
`

func allExamples() []string {
	return texts(exampleThree, exampleFour, exampleFive, exampleSix, exampleSeven, exampleEight, exampleNine, exampleTen)
}

func TestExampleOne(t *testing.T)   { wantExample(t, exampleOne) }
func TestExampleTwo(t *testing.T)   { wantExample(t, exampleTwo) }
func TestExampleThree(t *testing.T) { wantExample(t, exampleThree) }
func TestExampleFour(t *testing.T)  { wantExample(t, exampleFour) }
func TestExampleFive(t *testing.T)  { wantExample(t, exampleFive) }
func TestExampleSix(t *testing.T)   { wantExample(t, exampleSix) }
func TestExampleSeven(t *testing.T) { wantExample(t, exampleSeven) }
func TestExampleEight(t *testing.T) { wantExample(t, exampleEight) }
func TestExampleNine(t *testing.T)  { wantExample(t, exampleNine) }
func TestExampleTen(t *testing.T)   { wantExample(t, exampleTen) }

// exampleText: the lines alone.
func exampleText(text string) string {
	var l []string
	for _, x := range example(text) {
		l = append(l, x.line)
	}
	return lined(l...)
}
