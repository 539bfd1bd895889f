package plan_test

import (
	"slices"
	"testing"

	"hearsay/api"
	"hearsay/clause"
)

// P9.1.

func TestAhead(t *testing.T) {
	one := numbers(0)
	tests := []api.Test{test(api.OpLt, v(0), num(1)), test(api.OpLt, num(1), num(2)), test(api.OpEq, v(1), v(0)), test(api.OpNe, a, a), test(api.OpLe, txt(""), num(0)), test(api.OpEq, a, v(0))}
	x := with(rule(p(v(0)), q(v(0), v(1))), tests...)
	wantMake(t, x, -1, api.Plan{Ahead: numbers(1, 3, 4), Joins: []api.Join{join(0, one, numbers(0, 2, 5))}})
	wantMake(t, with(rule(p()), tests[1], tests[3]), -1, api.Plan{Ahead: numbers(0, 1)})
	wantMake(t, with(rule(p(), q()), tests[3]), 0, api.Plan{Ahead: one, Joins: []api.Join{join(0, one, nil)}})
	wantMake(t, with(rule(p()), nTimes(8, tests[1])...), -1, api.Plan{Ahead: upTo(8)})
	wantMake(t, rule(p()), -1, api.Plan{})
}

// TestTestsOfVariables: a test stands at the join behind which its last variable is met, and nowhere else.
func TestTestsOfVariables(t *testing.T) {
	chain := rule(p(), q(v(0), v(1)), q(v(1), v(2)), q(v(2), v(3)))
	x := with(chain, test(api.OpNe, v(0), v(3)), test(api.OpLt, v(1), v(2)), test(api.OpEq, v(0), v(0)), test(api.OpLe, v(2), a), test(api.OpLt, v(1), v(0)), test(api.OpLt, b, v(3)), test(api.OpNe, v(0), v(2)))
	wantMake(t, x, -1, joins(join(0, numbers(0), numbers(2, 4)), join(1, numbers(0, 1), numbers(1, 3, 6)), join(2, numbers(0, 1), numbers(0, 5))))
	wantMake(t, x, 0, joins(join(0, numbers(0), numbers(2, 4)), join(1, numbers(0, 1), numbers(1, 3, 6)), join(2, numbers(0, 1), numbers(0, 5))))
	wantMake(t, x, 1, joins(join(1, numbers(0), numbers(1, 3)), join(0, numbers(0, 2), numbers(2, 4, 6)), join(2, numbers(0, 1), numbers(0, 5))))
	wantMake(t, x, 2, joins(join(2, numbers(0), numbers(3, 5)), join(1, numbers(0, 2), numbers(1)), join(0, numbers(0, 2), numbers(0, 2, 4, 6))))
}

// TestVariablesThatTestsBringTogether: no atom does; and there are joins behind which no test is asked.
func TestVariablesThatTestsBringTogether(t *testing.T) {
	x := with(rule(p(), q(v(0)), q(v(1)), q(v(2)), q(v(0))), test(api.OpLt, v(0), v(2)), test(api.OpLt, v(2), v(1)), test(api.OpLt, v(1), v(0)))
	wantMake(t, x, -1, joins(join(0, numbers(0), nil), join(3, numbers(0, 1), nil), join(1, numbers(0), numbers(2)), join(2, numbers(0), numbers(0, 1))))
	wantMake(t, x, 2, joins(join(2, numbers(0), nil), join(0, numbers(0), numbers(0)), join(3, numbers(0, 1), nil), join(1, numbers(0), numbers(1, 2))))
}

// TestMostKnown: more known columns go ahead of fewer unknown ones, these ahead of the lower number.
func TestMostKnown(t *testing.T) {
	wantMake(t, rule(p(), q(v(0)), q(v(1), v(2), a), q(a)), -1, joins(join(2, numbers(0, 1), nil), join(1, numbers(0, 3), nil), join(0, numbers(0), nil)))
	wantMake(t, rule(p(), q(v(0)), q(v(1), v(2), a, b), q(a)), -1, joins(join(1, numbers(0, 3, 4), nil), join(2, numbers(0, 1), nil), join(0, numbers(0), nil)))
	wantMake(t, rule(p(), q(v(0), v(1)), q(v(2)), q(), q(v(3))), -1, joins(join(2, numbers(0), nil), join(1, numbers(0), nil), join(3, numbers(0), nil), join(0, numbers(0), nil)))
	wantMake(t, rule(p(), by(v(0), q()), q(v(1), v(2)), q(v(3))), -1, joins(join(2, numbers(0), nil), join(1, numbers(0), nil), join(0, nil, nil)))
}

func TestEquallyKnown(t *testing.T) {
	wantMake(t, rule(p(), q(v(0)), q(v(1)), q(v(2))), -1, joins(join(0, numbers(0), nil), join(1, numbers(0), nil), join(2, numbers(0), nil)))
	wantMake(t, rule(p(), q(v(0)), q(v(1)), q(v(2))), 1, joins(join(1, numbers(0), nil), join(0, numbers(0), nil), join(2, numbers(0), nil)))
	wantMake(t, rule(p(), q(), q(), q()), 2, joins(join(2, numbers(0), nil), join(0, numbers(0), nil), join(1, numbers(0), nil)))
	wantMake(t, rule(p(), q(v(0), a), q(b, v(1)), by(ann, q(v(2), a))), -1, joins(join(0, numbers(0, 2), nil), join(1, numbers(0, 1), nil), join(2, numbers(0, 2), nil)))
}

// TestOneVariableTwice: in one atom its second place is not known for its first.
func TestOneVariableTwice(t *testing.T) {
	wantMake(t, rule(p(), q(v(0), v(0))), -1, joins(join(0, numbers(0), nil)))
	wantMake(t, rule(p(), by(v(0), q(v(0), a, v(0)))), 0, joins(join(0, numbers(2), nil)))
	wantMake(t, rule(p(), q(v(0), v(0)), q(v(0), v(1), v(0)), q(v(2))), 0, joins(join(0, numbers(0), nil), join(1, numbers(0, 1, 3), nil), join(2, numbers(0), nil)))
	wantMake(t, rule(p(), q(v(0), v(0), v(0)), q(v(1), a)), -1, joins(join(1, numbers(0, 2), nil), join(0, numbers(0), nil)))
	wantMake(t, rule(p(), q(v(0), v(0)), q(v(1))), -1, joins(join(1, numbers(0), nil), join(0, numbers(0), nil)))
}

// TestQualifiers: none and a principal are known, a variable where it stands in an atom ahead, as a qualifier or an argument.
func TestQualifiers(t *testing.T) {
	wantMake(t, rule(p(), by(v(0), q(a)), by(ann, q(v(1))), q(v(2))), -1, joins(join(0, numbers(1), nil), join(1, numbers(0), nil), join(2, numbers(0), nil)))
	wantMake(t, rule(p(), by(v(0), q()), by(ann, q())), -1, joins(join(1, numbers(0), nil), join(0, nil, nil)))
	wantMake(t, rule(p(), by(v(0), q()), by(v(0), q(v(1)))), -1, joins(join(0, nil, nil), join(1, numbers(0), nil)))
	wantMake(t, rule(p(), by(v(0), q()), by(v(0), q(v(1)))), 1, joins(join(1, nil, nil), join(0, numbers(0), nil)))
	here := rule(p(), by(v(0), q(v(1))), by(v(2), q(v(0))), q(v(2), v(1)))
	wantMake(t, here, -1, joins(join(2, numbers(0), nil), join(0, numbers(1), nil), join(1, numbers(0, 1), nil)))
	wantMake(t, here, 0, joins(join(0, nil, nil), join(2, numbers(0, 2), nil), join(1, numbers(0, 1), nil)))
	wantMake(t, here, 1, joins(join(1, nil, nil), join(2, numbers(0, 1), nil), join(0, numbers(0, 1), nil)))
}

// TestTheHeadIsNotSeen: what it has is known of no column, and plans are told alike for all heads.
func TestTheHeadIsNotSeen(t *testing.T) {
	body := atoms(q(v(0), v(1)), by(v(1), q(v(2))))
	for _, h := range atoms(p(), p(v(0)), p(v(0), v(1), v(2)), by(ann, p(v(0), a)), p(nTimes(8, v(0))...)) {
		wantMake(t, rule(h, body...), -1, joins(join(0, numbers(0), nil), join(1, numbers(0), nil)))
		wantMake(t, rule(h, body...), 1, joins(join(1, nil, nil), join(0, numbers(0, 2), nil)))
	}
}

// TestGreatestPlans: eight atoms of eight arguments, 72 variables, eight tests.
func TestGreatestPlans(t *testing.T) {
	x := greatest()
	x.Tests = []api.Test{test(api.OpNe, v(71), v(0)), test(api.OpEq, v(35), v(35)), test(api.OpLt, v(9), v(8)), test(api.OpLt, a, a), test(api.OpLe, v(63), v(62)), test(api.OpNe, v(70), a), test(api.OpEq, num(greatestInt), num(leastInt)), test(api.OpEq, v(0), v(1))}
	var want api.Plan
	for i := range 8 {
		want.Joins = append(want.Joins, join(i, nil, nil))
	}
	want.Ahead = numbers(3, 6)
	want.Joins[0].Tests, want.Joins[1].Tests, want.Joins[3].Tests, want.Joins[7].Tests = numbers(7), numbers(2), numbers(1), numbers(0, 4, 5)
	wantMake(t, x, -1, want)
	for lead := range 8 {
		wantMake(t, x, lead, made(x, lead))
	}
	full := rule(p(), nTimes(8, by(ann, q(nTimes(8, v(0))...)))...)
	for lead := -1; lead < 8; lead++ {
		wantMake(t, full, lead, made(full, lead))
	}
}

// bodies: all atoms q of up to two arguments, whose qualifier and arguments are of these lists.
func bodies(bys, args []api.Term) []api.Atom {
	var out []api.Atom
	for _, who := range bys {
		out = append(out, by(who, q()))
		for _, t := range args {
			out = append(out, by(who, q(t)))
			for _, u := range args {
				out = append(out, by(who, q(t, u)))
			}
		}
	}
	return out
}

// TestEveryPlanOfThreeAtoms: of a few terms, with tests of one variable, of two and of none.
func TestEveryPlanOfThreeAtoms(t *testing.T) {
	l := bodies(vals(none, v(1)), vals(a, v(0), v(2)))
	for _, x := range l {
		for _, y := range l {
			for _, z := range l {
				c := rule(p(), x, y, z)
				if met := bodyVariables(c, 0, 1, 2); len(met) > 0 {
					first, last := v(met[0]), v(met[len(met)-1])
					c.Tests = []api.Test{test(api.OpLt, first, last), test(api.OpEq, a, a), test(api.OpNe, last, a)}
				}
				c = clause.Normal(c)
				for lead := range 4 {
					wantMake(t, c, lead-1, made(c, lead-1))
				}
			}
		}
	}
}

// TestPlansByChance: of bodies up to eight atoms.
func TestPlansByChance(t *testing.T) {
	for seed := range int64(2000) {
		ch := newChosen(seed)
		c := ch.clause()
		for len(c.Body) > 0 && len(c.Body) < 8 && ch.Intn(5) > 0 {
			c.Body = slices.Insert(c.Body, ch.Intn(len(c.Body)), ch.atom(vals(none, ann, v(0), v(7), v(8)), vals(a, v(0), v(1), v(7), v(8), v(9), v(10))))
		}
		c = clause.Normal(c)
		for lead := -1; lead < len(c.Body); lead++ {
			wantMake(t, c, lead, made(c, lead))
		}
	}
}
