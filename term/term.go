// Package term: names with arguments: see ../../shared/doc/01-term.md.
package term

import (
	"cmp"
	"slices"

	"almagest/api"
)

func Check(t api.Term) api.Errno {
	left := api.MaxSize
	if !fits(t, api.MaxDepth, &left) {
		return api.ErrForm
	}
	return api.OK
}

func Depth(t api.Term) (int, api.Errno) {
	if Check(t) != api.OK {
		return 0, api.ErrForm
	}
	return depth(t), api.OK
}

func Size(t api.Term) (int, api.Errno) {
	if Check(t) != api.OK {
		return 0, api.ErrForm
	}
	return size(t), api.OK
}

func Ground(t api.Term) (bool, api.Errno) {
	if Check(t) != api.OK {
		return false, api.ErrForm
	}
	return ground(t), api.OK
}

func Atom(t api.Term) (bool, api.Errno) {
	if Check(t) != api.OK {
		return false, api.ErrForm
	}
	return t.Kind == api.TermName && depth(t) <= 2, api.OK
}

func Vars(t api.Term) ([]string, api.Errno) {
	if Check(t) != api.OK {
		return nil, api.ErrForm
	}
	found := map[label]struct{}{}
	gather(t, found)
	return names(found), api.OK
}

func Order(a api.Term, b api.Term) (int, api.Errno) {
	if Check(a) != api.OK || Check(b) != api.OK {
		return 0, api.ErrForm
	}
	return compare(a, b), api.OK
}

func Rename(t api.Term, s string) (api.Term, api.Errno) {
	if Check(t) != api.OK || !tail(s) {
		return api.Term{}, api.ErrForm
	}
	// Without variables no name grows, whatever s is.
	if !ground(t) && len(s) > api.MaxName-longest(t) {
		return api.Term{}, api.ErrLimit
	}
	return renamed(t, s), api.OK
}

// fits asks deep and left ahead of each step down, so that a term within itself, or one that shares its parts without end, is told of as soon as any other.
func fits(t api.Term, deep int, left *int) bool {
	if deep == 0 || *left == 0 || !plain(t) {
		return false
	}
	*left--
	for _, a := range t.Args {
		if !fits(a, deep-1, left) {
			return false
		}
	}
	return true
}

// plain looks at t's own fields alone: Args are counted, not entered.
func plain(t api.Term) bool {
	switch t.Kind {
	case api.TermVar:
		return word(t.Name, 'A', 'Z') && t.N == 0 && len(t.Args) == 0
	case api.TermNum:
		return t.Name == "" && -api.MaxNum <= t.N && t.N <= api.MaxNum && len(t.Args) == 0
	case api.TermName:
		return word(t.Name, 'a', 'z') && t.N == 0 && len(t.Args) <= api.MaxArgs
	}
	return false
}

// word asks the length first: a name of any length costs no more than a short one.
func word(s string, low byte, high byte) bool {
	return 0 < len(s) && len(s) <= api.MaxName && within(s[0], low, high) && tail(s)
}

func tail(s string) bool {
	for i := range len(s) {
		b := s[i]
		if !within(b, 'a', 'z') && !within(b, 'A', 'Z') && !within(b, '0', '9') && b != '_' {
			return false
		}
	}
	return true
}

func within(b byte, low byte, high byte) bool {
	return low <= b && b <= high
}

// From here on terms may be: they are small, and end.

func depth(t api.Term) int {
	most := 0
	for _, a := range t.Args {
		most = max(most, depth(a))
	}
	return most + 1
}

func size(t api.Term) int {
	sum := 1
	for _, a := range t.Args {
		sum += size(a)
	}
	return sum
}

func ground(t api.Term) bool {
	for _, a := range t.Args {
		if !ground(a) {
			return false
		}
	}
	return t.Kind != api.TermVar
}

// longest asks variables alone: Rename makes no other name longer.
func longest(t api.Term) int {
	if t.Kind == api.TermVar {
		return len(t.Name)
	}
	most := 0
	for _, a := range t.Args {
		most = max(most, longest(a))
	}
	return most
}

func gather(t api.Term, found map[label]struct{}) {
	if t.Kind == api.TermVar {
		found[pack(t.Name)] = struct{}{}
	}
	for _, a := range t.Args {
		gather(a, found)
	}
}

// names sorts, as a map is gone through in no order that may be seen.
func names(found map[label]struct{}) []string {
	labels := make([]label, 0, len(found))
	for l := range found {
		labels = append(labels, l)
	}
	slices.SortFunc(labels, compareLabels)
	list := make([]string, len(labels))
	for i, l := range labels {
		list[i] = unpack(l)
	}
	return list
}

// compare needs no cases: what a kind has not is the zero value on both sides, and the kinds' numbers rise as the kinds do.
func compare(a api.Term, b api.Term) int {
	if c := cmp.Compare(a.Kind, b.Kind); c != 0 {
		return c
	}
	if c := cmp.Compare(a.N, b.N); c != 0 {
		return c
	}
	if c := cmp.Compare(len(a.Args), len(b.Args)); c != 0 {
		return c
	}
	if c := compareLabels(pack(a.Name), pack(b.Name)); c != 0 {
		return c
	}
	return slices.CompareFunc(a.Args, b.Args, compare)
}

// renamed copies all lists, so that nobody who writes into the answer writes into t.
func renamed(t api.Term, s string) api.Term {
	x := api.Term{Kind: t.Kind, Name: t.Name, N: t.N}
	if t.Kind == api.TermVar {
		x.Name += s
	}
	if len(t.Args) > 0 {
		x.Args = make([]api.Term, len(t.Args))
	}
	for i, a := range t.Args {
		x.Args[i] = renamed(a, s)
	}
	return x
}
