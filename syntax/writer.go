package syntax

import "argosy/api"

// writer is the tokens of a right saga's text, as far as they are told.
type writer struct{ tokens []api.Token }

// names puts names, and words, which are names to the layer below.
func (w *writer) names(texts ...string) {
	for _, t := range texts {
		w.tokens = append(w.tokens, api.Token{Kind: api.TokenName, Text: t})
	}
}

func (w *writer) mark(text string) {
	w.tokens = append(w.tokens, api.Token{Kind: api.TokenMark, Text: text})
}

func (w *writer) bodies(l []api.Body) {
	w.mark("{")
	for i, b := range l {
		if i > 0 {
			w.names("or")
		}
		w.mark("(")
		for _, n := range b.Nodes {
			w.node(n)
		}
		w.mark(")")
	}
	w.mark("}")
}

func (w *writer) node(n api.Node) {
	if !n.Sub {
		w.step(n)
		return
	}
	weight := "loose"
	if n.Vital {
		weight = "vital"
	}
	w.names(weight, "sub", n.Name)
	w.leanings(n.After)
	w.bodies(n.Alts)
}

func (w *writer) step(n api.Node) {
	w.names("step", n.Name)
	if n.Undo != "" {
		w.names("undo", n.Undo)
	}
	w.leanings(n.After)
	w.mark(";")
}

func (w *writer) leanings(l []string) {
	for i, a := range l {
		if i == 0 {
			w.names("after")
		} else {
			w.mark(",")
		}
		w.names(a)
	}
}
