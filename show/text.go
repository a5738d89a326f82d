package show

import (
	"slices"
	"strconv"
	"strings"

	"almagest/api"
)

// From here on all may be: it is small, and ends.

// relations are their names, from RelBefore on.
var relations = [...]string{"before", "meets", "overlaps", "starts", "during", "ends", "equal", "ended", "holds", "started", "overlapped", "met", "after"}

// ops are comparisons' signs, from GuardLess on.
var ops = [...]string{"<", "=<", "=", `\=`}

func (w places) program(p api.Program) string {
	rows := slices.Concat(texts(p.Clauses, clauseText), texts(p.Rules, w.rule))
	var s strings.Builder
	for _, r := range rows {
		s.WriteString(r)
		s.WriteByte('\n')
	}
	return s.String()
}

func clauseText(c api.Clause) string {
	parts := slices.Concat(texts(c.Body, termText), texts(c.Guards, guardText))
	if len(parts) == 0 {
		return termText(c.Head) + "."
	}
	return termText(c.Head) + " :- " + strings.Join(parts, ", ") + "."
}

func (w places) rule(r api.Rule) string {
	s := termText(r.Head) + " <- " + w.pattern(r.Body) + ", within " + strconv.Itoa(r.Within)
	if len(r.Guards) > 0 {
		s += ", where " + strings.Join(texts(r.Guards, guardText), ", ")
	}
	switch r.Policy {
	case api.PolicyRecent:
		s += ", recent"
	case api.PolicyFirst:
		s += ", first"
	}
	return s + "."
}

func guardText(g api.Guard) string {
	switch g.Kind {
	case api.GuardKnown:
		return "known " + termText(g.L)
	case api.GuardUnknown:
		return "unknown " + termText(g.L)
	}
	return termText(g.L) + " " + ops[g.Kind-api.GuardLess] + " " + termText(g.R)
}

func (w places) pattern(p api.Pattern) string {
	if p.Kind == api.PatTerm {
		return termText(p.Term)
	}
	return w.part(p.L[0], place{p.Kind, onLeft}) + w.sign(p) + w.part(p.R[0], place{p.Kind, onRight})
}

func (w places) part(p api.Pattern, at place) string {
	if w[at].has(p.Kind) {
		return w.pattern(p)
	}
	return "(" + w.pattern(p) + ")"
}

// sign is all that stands between p's sides.
func (w places) sign(p api.Pattern) string {
	switch p.Kind {
	case api.PatSeq:
		return " ; "
	case api.PatAnd:
		return " & "
	case api.PatOr:
		return " | "
	case api.PatNot:
		return ` ; \+(` + w.pattern(p.C[0]) + ") ; "
	}
	return " @" + relations[p.Rel-api.RelBefore] + " "
}

func termText(t api.Term) string {
	switch {
	case t.Kind == api.TermNum:
		return strconv.Itoa(t.N)
	case len(t.Args) == 0:
		return t.Name
	}
	return t.Name + "(" + strings.Join(texts(t.Args, termText), ",") + ")"
}

func texts[T any](l []T, text func(T) string) []string {
	s := make([]string, len(l))
	for i, x := range l {
		s[i] = text(x)
	}
	return s
}
