package meet

import "almagest/api"

// node is a ground term as a value that a map takes: its Args by their numbers in the stock, 0 for none. A number has no name.
type node struct {
	name string
	n    int
	args [api.MaxArgs]uint16
}

// stock gives each ground term a number, from 1 on: so two are alike just where their numbers are. All facts together have no more parts than a uint16 has numbers.
type stock struct {
	nodes   []node
	numbers map[node]uint16
}

func (s *stock) number(t api.Term) uint16 {
	x := node{name: t.Name, n: t.N}
	for i, a := range t.Args {
		x.args[i] = s.number(a)
	}
	id, there := s.numbers[x]
	if !there {
		s.nodes = append(s.nodes, x)
		id = uint16(len(s.nodes))
		s.numbers[x] = id
	}
	return id
}

// term makes all of it anew, each time it is asked for.
func (s *stock) term(id uint16) api.Term {
	x := s.nodes[id-1]
	if x.name == "" {
		return api.Term{Kind: api.TermNum, N: x.n}
	}
	t := api.Term{Kind: api.TermName, Name: x.name}
	for i := 0; i < api.MaxArgs && x.args[i] != 0; i++ {
		t.Args = append(t.Args, s.term(x.args[i]))
	}
	return t
}
