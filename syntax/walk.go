package syntax

import (
	"iter"

	"argosy/api"
	"argosy/lex"
)

// nested is the bodies of a saga that is to be gone through, and how deep it stands.
type nested struct {
	deep   int
	bodies []api.Body
}

// nodes tells all nodes of a saga, those within sub-sagas too, each with the depth at which its saga stands (1: it is the saga's own). What is still to be gone through is kept in a list, not by a call within a call, since a saga may be deeper than calls can be.
func nodes(g api.Saga) iter.Seq2[int, api.Node] {
	return func(yield func(deep int, n api.Node) bool) {
		left := []nested{{1, g.Alts}}
		for len(left) > 0 {
			last := left[len(left)-1]
			left = left[:len(left)-1]
			for _, b := range last.bodies {
				for _, n := range b.Nodes {
					if !yield(last.deep, n) {
						return
					}
					// What a step has of bodies is no saga's.
					if n.Sub {
						left = append(left, nested{last.deep + 1, n.Alts})
					}
				}
			}
		}
	}
}

// big tells whether a saga is deeper, or has more nodes, than a right one may. It goes no further than to where that is known.
func big(g api.Saga) bool {
	count := 0
	for deep, n := range nodes(g) {
		count++
		if count > maxNodes || n.Sub && deep == maxDeep {
			return true
		}
	}
	return false
}

// isRight tells whether a node's text can be, whatever stands in its bodies.
func isRight(n api.Node) bool {
	if !isName(n.Name) {
		return false
	}
	for _, a := range n.After {
		if !isName(a) {
			return false
		}
	}
	if n.Sub {
		return n.Undo == "" && len(n.Alts) > 0
	}
	return (n.Undo == "" || isName(n.Undo)) && !n.Vital && len(n.Alts) == 0
}

// isName tells whether a text may stand where a saga's text has a name of one's own choice.
func isName(s string) bool { return lex.Name(s) && !lex.Word(s) }
