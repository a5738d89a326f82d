package check

import "almagest/api"

// predicate is what a term is asked for by. Facts that differ in their Args alone have one.
type predicate struct {
	name label
	args int
}

func predicateOf(t api.Term) predicate {
	return predicate{labelOf(t.Name), len(t.Args)}
}

// use is what a program takes a predicate for: a bit for each.
type use uint8

const (
	clausal use = 1 << iota // a clause's head, or in its body
	derived                 // a rule's head
	awaited                 // a pattern's term
	asked                   // a GuardKnown's, or a GuardUnknown's
)

// mixed: what is known stands ahead of all facts. So none has a clause's predicate, and no rule tells what is asked for as known.
func (u use) mixed() bool {
	return u&clausal != 0 && u&(derived|awaited) != 0 || u&asked != 0 && u&derived != 0
}

type uses map[predicate]use

func (w uses) add(u use, terms ...api.Term) {
	for _, t := range terms {
		w[predicateOf(t)] |= u
	}
}

func usesOf(p api.Program) uses {
	w := uses{}
	for _, c := range p.Clauses {
		w.add(clausal, c.Head)
		w.add(clausal, c.Body...)
	}
	for _, r := range p.Rules {
		w.add(derived, r.Head)
		w.add(awaited, termsOf(r.Body)...)
		for _, g := range r.Guards {
			if g.Kind == api.GuardKnown || g.Kind == api.GuardUnknown {
				w.add(asked, g.L)
			}
		}
	}
	return w
}

func mixed(p api.Program) bool {
	for _, u := range usesOf(p) {
		if u.mixed() {
			return true
		}
	}
	return false
}

// termsOf has those of what must not be between, too: whether that was there must be as sure as all else.
func termsOf(p api.Pattern) []api.Term {
	if p.Kind == api.PatTerm {
		return []api.Term{p.Term}
	}
	var all []api.Term
	for _, l := range [...][]api.Pattern{p.L, p.C, p.R} {
		for _, part := range l {
			all = append(all, termsOf(part)...)
		}
	}
	return all
}
