package syntax

import (
	"argosy/api"
	"argosy/lex"
)

// piece is what a token is to a saga's text: a word, a name, a mark, or the text's end.
type piece interface{ place() int }

type spot struct {
	text string
	at   int
}

func (s spot) place() int { return s.at }

type (
	word struct{ spot }
	name struct{ spot }
	mark struct{ spot }
	end  struct{ spot }
)

// pieces tells tokens as pieces, and the end behind them: so there is always a piece at which a reader stands.
func pieces(tokens []api.Token, length int) []piece {
	var l []piece
	for _, t := range tokens {
		s := spot{t.Text, t.At}
		switch {
		case t.Kind == api.TokenMark:
			l = append(l, mark{s})
		case lex.Word(t.Text):
			l = append(l, word{s})
		default:
			l = append(l, name{s})
		}
	}
	return append(l, end{spot{at: length}})
}

// reader is how far pieces have been read. A piece that can't follow is panicked at, and stays the one at which the reader stands: that tells its place.
type reader struct {
	pieces []piece
	next   int
}

func (r *reader) now() piece { return r.pieces[r.next] }

// saga reads all of a text; false: the piece at which the reader stands can't follow.
func (r *reader) saga() (g api.Saga, ok bool) {
	defer func() {
		if recover() != nil {
			g, ok = api.Saga{}, false
		}
	}()
	r.word("saga")
	g.Name = r.name()
	g.Alts = r.bodies()
	_ = r.now().(end)
	return g, true
}

func (r *reader) bodies() []api.Body {
	r.mark("{")
	l := []api.Body{r.body()}
	for r.mayWord("or") {
		l = append(l, r.body())
	}
	r.mark("}")
	return l
}

func (r *reader) body() api.Body {
	var b api.Body
	r.mark("(")
	for !r.mayMark(")") {
		b.Nodes = append(b.Nodes, r.node())
	}
	return b
}

func (r *reader) node() api.Node {
	if r.mayWord("step") {
		return r.step()
	}
	n := api.Node{Sub: true}
	n.Vital = r.mayWord("vital")
	if !n.Vital {
		r.word("loose")
	}
	r.word("sub")
	n.Name = r.name()
	n.After = r.leanings()
	n.Alts = r.bodies()
	return n
}

// step reads what follows the word.
func (r *reader) step() api.Node {
	n := api.Node{Name: r.name()}
	if r.mayWord("undo") {
		n.Undo = r.name()
	}
	n.After = r.leanings()
	r.mark(";")
	return n
}

func (r *reader) leanings() []string {
	if !r.mayWord("after") {
		return nil
	}
	l := []string{r.name()}
	for r.mayMark(",") {
		l = append(l, r.name())
	}
	return l
}

// name goes on by a name, which must stand here.
func (r *reader) name() string {
	n := r.now().(name)
	r.next++
	return n.text
}

// word goes on by this word, which must stand here.
func (r *reader) word(text string) {
	if w := r.now().(word); w.text != text {
		panic("another word")
	}
	r.next++
}

// mark goes on by this mark, which must stand here.
func (r *reader) mark(text string) {
	if m := r.now().(mark); m.text != text {
		panic("another mark")
	}
	r.next++
}

// mayWord goes on by this word, if it stands here.
func (r *reader) mayWord(text string) bool {
	w, ok := r.now().(word)
	if !ok || w.text != text {
		return false
	}
	r.next++
	return true
}

// mayMark goes on by this mark, if it stands here.
func (r *reader) mayMark(text string) bool {
	m, ok := r.now().(mark)
	if !ok || m.text != text {
		return false
	}
	r.next++
	return true
}
