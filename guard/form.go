package guard

import (
	"almagest/api"
	"almagest/bind"
	"almagest/known"
)

func compares(kind int) bool {
	return kind >= api.GuardLess && kind <= api.GuardOther
}

// atomsMay: of no clauses nothing follows, and it is ErrForm where the atoms may not be.
func atomsMay(k []api.Term) bool {
	_, e := known.Step(nil, k)
	return e == api.OK
}

func atomMay(t api.Term) bool {
	_, e := known.Ask(nil, t)
	return e == api.OK
}

// bindsMay: what is joined must be ground.
func bindsMay(l []api.Bind) bool {
	_, e := bind.Join(l, nil)
	return e == api.OK
}

func groundMay(t api.Term) bool {
	return bindsMay([]api.Bind{{Name: "X", Term: t}})
}

func termMay(t api.Term) bool {
	_, e := bind.Apply(nil, t)
	return e == api.OK
}

func guardsMay(g []api.Guard) bool {
	if len(g) > api.MaxGuards {
		return false
	}
	for _, x := range g {
		if !guardMay(x) {
			return false
		}
	}
	return true
}

func guardMay(g api.Guard) bool {
	if compares(g.Kind) {
		return termMay(g.L) && termMay(g.R)
	}
	return (g.Kind == api.GuardKnown || g.Kind == api.GuardUnknown) && atomMay(g.L) && nothing(g.R)
}

func nothing(t api.Term) bool {
	return t.Kind == api.TermNone && t.Name == "" && t.N == 0 && len(t.Args) == 0
}
