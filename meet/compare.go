package meet

import (
	"cmp"
	"slices"

	"almagest/api"
)

// From here on binds may be.

func compare(a api.Match, b api.Match) int {
	if c := slices.Compare(a.Used, b.Used); c != 0 {
		return c
	}
	if c := cmp.Or(cmp.Compare(a.Span.From, b.Span.From), cmp.Compare(a.Span.To, b.Span.To)); c != 0 {
		return c
	}
	return slices.CompareFunc(a.Binds, b.Binds, compareBinds)
}

func compareBinds(a api.Bind, b api.Bind) int {
	if c := cmp.Compare(a.Name, b.Name); c != 0 {
		return c
	}
	return compareTerms(a.Term, b.Term)
}

// compareTerms is Order of the terms (1). It needs no cases: what a kind has not is the zero value on both sides, and the kinds' numbers rise as the kinds do.
func compareTerms(a api.Term, b api.Term) int {
	c := cmp.Or(cmp.Compare(a.Kind, b.Kind), cmp.Compare(a.N, b.N), cmp.Compare(len(a.Args), len(b.Args)), cmp.Compare(a.Name, b.Name))
	if c != 0 {
		return c
	}
	return slices.CompareFunc(a.Args, b.Args, compareTerms)
}
