package check

import (
	"maps"

	"almagest/api"
	"almagest/term"
)

// From here on programs may be: they are small, and end.

// vars is a set of variables.
type vars map[label]struct{}

// varsOf takes what is no term, too, as a GuardUnknown has none on its right: that has no variables.
func varsOf(terms ...api.Term) vars {
	all := vars{}
	for _, t := range terms {
		names, _ := term.Vars(t)
		for _, s := range names {
			all[labelOf(s)] = struct{}{}
		}
	}
	return all
}

func (v vars) has(l label) bool {
	_, there := v[l]
	return there
}

func (v vars) hasAll(w vars) bool {
	for l := range w {
		if !v.has(l) {
			return false
		}
	}
	return true
}

// boundBy does not ask what must not be between: where a pattern is met, nothing has met that.
func boundBy(p api.Pattern) vars {
	if p.Kind == api.PatTerm {
		return varsOf(p.Term)
	}
	left, right := boundBy(p.L[0]), boundBy(p.R[0])
	if p.Kind == api.PatOr {
		maps.DeleteFunc(left, func(l label, _ struct{}) bool { return !right.has(l) })
	} else {
		maps.Copy(left, right)
	}
	return left
}

// ruleSafe asks the head last: it may have the variables of each GuardKnown.
func ruleSafe(r api.Rule) bool {
	bound := boundBy(r.Body)
	for _, g := range r.Guards {
		used := varsOf(g.L, g.R)
		if g.Kind == api.GuardKnown {
			maps.Copy(bound, used)
		} else if !bound.hasAll(used) {
			return false
		}
	}
	return headSafe(r.Head, bound)
}

func headSafe(head api.Term, bound vars) bool {
	for _, a := range head.Args {
		used := varsOf(a)
		// A name around variables could come to be more than a term may be.
		if a.Kind == api.TermName && len(used) > 0 || !bound.hasAll(used) {
			return false
		}
	}
	return true
}

func clauseSafe(c api.Clause) bool {
	bound := varsOf(c.Body...)
	for _, g := range c.Guards {
		if !bound.hasAll(varsOf(g.L, g.R)) {
			return false
		}
	}
	return bound.hasAll(varsOf(c.Head))
}

func allSafe(p api.Program) bool {
	for _, c := range p.Clauses {
		if !clauseSafe(c) {
			return false
		}
	}
	for _, r := range p.Rules {
		if !ruleSafe(r) {
			return false
		}
	}
	return true
}
