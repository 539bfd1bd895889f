package term

import (
	"cmp"
	"slices"

	"hearsay/api"
)

// Look: what the first bind of s for the variable says, and whether there is one.
func Look(s api.Binding, v int) (api.Term, bool) {
	for _, b := range s {
		if b.Var == v {
			return b.To, true
		}
	}
	return api.Term{}, false
}

// Apply: the atom with each variable that s binds replaced by what it stands for (once: what comes in isn't replaced again).
func Apply(s api.Binding, a api.Atom) api.Atom {
	out := api.Atom{By: replace(s, a.By), Name: a.Name, Args: make([]api.Term, len(a.Args))}
	for i, t := range a.Args {
		out.Args[i] = replace(s, t)
	}
	return out
}

func replace(s api.Binding, t api.Term) api.Term {
	if Variable(t) {
		if to, ok := Look(s, t.N); ok {
			return to
		}
	}
	return t
}

// Match: the least binding that holds s and makes p into a; false if there is none. The variables of a stand for themselves.
func Match(p, a api.Atom, s api.Binding) (api.Binding, bool) {
	if !sameShape(p, a) || !sameWhereFixed(p, a) {
		return nil, false
	}
	// A variable as a qualifier stands for someone who says it, so it never becomes none.
	if Variable(p.By) && a.By.Kind == api.KindNone {
		return nil, false
	}
	out := firstBinds(s)
	for i := range places(p) {
		t, to := place(p, i), place(a, i)
		if !Variable(t) {
			continue
		}
		said, ok := Look(out, t.N)
		if ok && said != to {
			return nil, false
		}
		if !ok {
			out = append(out, api.Bind{Var: t.N, To: to})
		}
	}
	sortBinds(out)
	return out, true
}

// sameWhereFixed: asked ahead of any binding, as most atoms that don't match differ here.
func sameWhereFixed(p, a api.Atom) bool {
	for i := range places(p) {
		if t := place(p, i); !Variable(t) && t != place(a, i) {
			return false
		}
	}
	return true
}

// firstBinds: what s says, each variable's number once.
func firstBinds(s api.Binding) api.Binding {
	var out api.Binding
next:
	for _, b := range s {
		for _, o := range out {
			if o.Var == b.Var {
				continue next
			}
		}
		out = append(out, b)
	}
	return out
}

func sortBinds(s api.Binding) {
	slices.SortFunc(s, func(a, b api.Bind) int { return cmp.Compare(a.Var, b.Var) })
}
