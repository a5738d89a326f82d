package show

import "almagest/api"

// kinds is a set of patterns' kinds: a bit for each.
type kinds uint

// What each row of read's grammar takes without brackets.
const (
	one  kinds = 1 << api.PatTerm
	row        = one | 1<<api.PatSeq | 1<<api.PatNot
	pair       = row | 1<<api.PatRel
	both       = pair | 1<<api.PatAnd
	all        = both | 1<<api.PatOr
)

func (k kinds) has(kind int) bool {
	return k>>uint(kind)&1 == 1
}

// place is where a part stands: a side of a pattern of some kind. What must not be between has brackets of its own, and so no place.
type place struct {
	kind int
	side int
}

const (
	onLeft = iota
	onRight
)

// places tells which kinds stand at each place without brackets: those that read takes together there as they stand.
type places map[place]kinds

func placesOfParts() places {
	return places{
		{api.PatSeq, onLeft}: row, {api.PatSeq, onRight}: one,
		{api.PatNot, onLeft}: row, {api.PatNot, onRight}: one,
		{api.PatRel, onLeft}: row, {api.PatRel, onRight}: row,
		{api.PatAnd, onLeft}: both, {api.PatAnd, onRight}: pair,
		{api.PatOr, onLeft}: all, {api.PatOr, onRight}: both,
	}
}
