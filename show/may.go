package show

import (
	"almagest/api"
	"almagest/term"
)

func programMay(p api.Program) bool {
	return allMay(p.Clauses, api.MaxClause, clauseMay) && allMay(p.Rules, api.MaxRules, ruleMay)
}

func clauseMay(c api.Clause) bool {
	return atomMay(c.Head) && allMay(c.Body, api.MaxBody, atomMay) && allMay(c.Guards, api.MaxGuards, comparisonMay)
}

func ruleMay(r api.Rule) bool {
	return nameMay(r.Head) && patternMay(r.Body) && allMay(r.Guards, api.MaxGuards, guardMay) &&
		within(r.Within, 0, api.MaxNum) && within(r.Policy, api.PolicyAll, api.PolicyFirst)
}

func guardMay(g api.Guard) bool {
	if within(g.Kind, api.GuardKnown, api.GuardUnknown) {
		return atomMay(g.L) && nothing(g.R)
	}
	return comparisonMay(g)
}

func comparisonMay(g api.Guard) bool {
	return within(g.Kind, api.GuardLess, api.GuardOther) && term.Check(g.L) == api.OK && term.Check(g.R) == api.OK
}

// allMay asks how many there are first: a list of any length costs no more than a short one.
func allMay[T any](l []T, most int, may func(T) bool) bool {
	if len(l) > most {
		return false
	}
	for _, x := range l {
		if !may(x) {
			return false
		}
	}
	return true
}

func patternMay(p api.Pattern) bool {
	left := api.MaxParts
	return fits(p, api.MaxDeep, &left)
}

// fits asks deep and left ahead of each step down, so that a pattern within itself is told of as soon as any other.
func fits(p api.Pattern, deep int, left *int) bool {
	if deep == 0 || *left == 0 || !formed(p) {
		return false
	}
	if p.Kind == api.PatTerm {
		*left--
		return nameMay(p.Term)
	}
	for _, l := range [...][]api.Pattern{p.L, p.C, p.R} {
		for _, part := range l {
			if !fits(part, deep-1, left) {
				return false
			}
		}
	}
	return true
}

// form tells which fields a pattern has: two bits for each list, how many are in it (three or more are 3), and one for each other field.
type form uint16

const (
	oneL form = 1 << (2 * iota)
	oneR
	oneC
	someRel
	someTerm
)

var forms = [...]form{
	api.PatTerm: someTerm,
	api.PatSeq:  oneL | oneR,
	api.PatAnd:  oneL | oneR,
	api.PatOr:   oneL | oneR,
	api.PatNot:  oneL | oneR | oneC,
	api.PatRel:  oneL | oneR | someRel,
}

// formed looks at p's own fields alone: its parts are counted, not entered.
func formed(p api.Pattern) bool {
	return within(p.Kind, api.PatTerm, api.PatRel) && formOf(p) == forms[p.Kind] && within(p.Rel, api.RelNone, api.RelAfter)
}

func formOf(p api.Pattern) form {
	var x form
	for i, l := range [...][]api.Pattern{p.L, p.R, p.C} {
		x |= form(min(len(l), 3)) << uint(2*i)
	}
	if p.Rel != api.RelNone {
		x |= someRel
	}
	if !nothing(p.Term) {
		x |= someTerm
	}
	return x
}

func nameMay(t api.Term) bool {
	return t.Kind == api.TermName && term.Check(t) == api.OK
}

func atomMay(t api.Term) bool {
	atom, e := term.Atom(t)
	return atom && e == api.OK
}

// nothing: a list that is empty is one that is nil.
func nothing(t api.Term) bool {
	return t.Kind == api.TermNone && t.Name == "" && t.N == 0 && len(t.Args) == 0
}

func within(n int, low int, high int) bool {
	return low <= n && n <= high
}
