package facts

import "almagest/api"

// A name has at most MaxName = 16 bytes: two words of eight.
const wordBytes = 8

// part is a name or a number of a term, without what is within it. No name has a byte 0, and each has a byte: so it is alike with no shorter one, and with no number.
type part struct {
	name [2]uint64
	n    int // a number's; of a name how many Args
}

// key is a fact as a value that a map takes: the parts of its term as they stand, each ahead of its Args. As each tells how many come behind it, two keys are alike just where their facts are.
type key struct {
	parts [api.MaxSize]part
	span  api.Span
}

// keyOf is asked of facts that may be alone: others have no room.
func keyOf(f api.Fact) key {
	k := key{span: f.Span}
	k.lay(f.Term, 0)
	return k
}

// lay tells which place is free behind t.
func (k *key) lay(t api.Term, at int) int {
	k.parts[at] = partOf(t)
	at++
	for _, a := range t.Args {
		at = k.lay(a, at)
	}
	return at
}

func partOf(t api.Term) part {
	if t.Kind == api.TermNum {
		return part{n: t.N}
	}
	p := part{n: len(t.Args)}
	for i := range len(t.Name) {
		p.name[i/wordBytes] |= uint64(t.Name[i]) << uint(i%wordBytes<<3)
	}
	return p
}

// seqsOf tells of each fact of a list its Seq. It asks how long the list is first: so one of any length costs no more than one that may be.
func seqsOf(l []api.Kept) (map[key]int, api.Errno) {
	if len(l) > api.MaxFacts {
		return nil, api.ErrForm
	}
	seqs := make(map[key]int, len(l))
	for i, k := range l {
		if k.Seq <= last(l[:i]) || May(k.Fact) != api.OK {
			return nil, api.ErrForm
		}
		seqs[keyOf(k.Fact)] = k.Seq
	}
	// Facts that are alike have one key.
	if len(seqs) < len(l) {
		return nil, api.ErrForm
	}
	return seqs, api.OK
}
