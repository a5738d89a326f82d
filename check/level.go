package check

import "almagest/api"

// set is one of a program's rules: a bit for each, by its place. There are at most MaxRules = 20.
type set uint32

func only(i int) set {
	return 1 << uint(i)
}

// leadsOf tells of each rule which ones have a head that its pattern waits for.
func leadsOf(rules []api.Rule) []set {
	heads := map[predicate]set{}
	for i, r := range rules {
		heads[predicateOf(r.Head)] |= only(i)
	}
	leads := make([]set, len(rules))
	for i, r := range rules {
		for _, t := range termsOf(r.Body) {
			leads[i] |= heads[predicateOf(t)]
		}
	}
	return leads
}

// levelsOf takes those away whose leads are all gone, again and again: a rule's level is how often that was done ahead of it. Where some are left of which none can go, they lead back to themselves, and it tells false.
func levelsOf(leads []set) ([]int, bool) {
	levels := make([]int, len(leads))
	gone, whole := set(0), only(len(leads))-1
	for n := 0; gone != whole; n++ {
		next := free(leads, gone)
		if next == gone {
			return nil, false
		}
		for i := range levels {
			if only(i)&next&^gone != 0 {
				levels[i] = n
			}
		}
		gone = next
	}
	return levels, true
}

// free has all rules whose leads are gone: those that are gone are among them.
func free(leads []set, gone set) set {
	var s set
	for i, l := range leads {
		if l&^gone == 0 {
			s |= only(i)
		}
	}
	return s
}
