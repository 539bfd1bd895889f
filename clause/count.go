package clause

import (
	"cmp"
	"slices"

	"hearsay/api"
	"hearsay/term"
)

const greatestBound = 1 << 62

// Consts: the constants that stand in the clauses (qualifiers too), in order, none twice.
func Consts(cs []api.Clause) []api.Term {
	found := map[api.Term]struct{}{}
	for _, c := range cs {
		for t := range terms(c) {
			if term.Const(t) {
				found[t] = struct{}{}
			}
		}
	}
	return sortedKeys(found, term.Compare)
}

// Preds: the predicates of the clauses, in order of name and arity, none twice.
func Preds(cs []api.Clause) []api.Pred {
	found := map[api.Pred]struct{}{}
	for _, c := range cs {
		for a := range atoms(c) {
			found[api.Pred{Name: a.Name, Arity: len(a.Args)}] = struct{}{}
		}
	}
	return sortedKeys(found, comparePreds)
}

func comparePreds(a, b api.Pred) int {
	return cmp.Or(cmp.Compare(a.Name, b.Name), cmp.Compare(a.Arity, b.Arity))
}

func sortedKeys[K comparable](set map[K]struct{}, compare func(a, b K) int) []K {
	var keys []K
	for k := range set {
		keys = append(keys, k)
	}
	slices.SortFunc(keys, compare)
	return keys
}

// Bound: the rounds within which a model is made whatever happens: p * (c+1)^(k+1) + 1 with p predicates, c constants, the greatest arity k; at most 2^62.
func Bound(cs []api.Clause) int {
	preds, arity := Preds(cs), 0
	for _, p := range preds {
		arity = max(arity, p.Arity)
	}
	return boundOf(len(preds), len(Consts(cs)), arity)
}

// boundOf: a factor is taken in only if what comes out is at most 2^62, so nothing wraps round.
func boundOf(preds, consts, arity int) int {
	n, factor := preds, consts+1
	for range arity + 1 {
		if n > greatestBound/factor {
			return greatestBound
		}
		n *= factor
	}
	return min(n+1, greatestBound)
}
