package syntax

import (
	"fmt"
	"math/rand"
	"slices"
	"strings"
	"testing"

	"argosy/api"
	"argosy/lex"
)

var words = []string{"saga", "step", "sub", "undo", "after", "vital", "loose", "or"}

// vocabulary is one of each token that a saga's text can have, and some names more.
var vocabulary = append([]string{"a", "b7", "\u00fc", "{", "}", "(", ")", ";", ","}, words...)

// rules say what a part of a text is made of, by the token that begins it.
var rules = map[[2]string][]string{
	{"Bodies", "{"}:    {"{", "Body", "Others"},
	{"Others", "or"}:   {"or", "Body", "Others"},
	{"Others", "}"}:    {"}"},
	{"Body", "("}:      {"(", "Nodes"},
	{"Nodes", "step"}:  {"step", "Name", "Undo", "After", ";", "Nodes"},
	{"Nodes", "vital"}: {"vital", "sub", "Name", "After", "Bodies", "Nodes"},
	{"Nodes", "loose"}: {"loose", "sub", "Name", "After", "Bodies", "Nodes"},
	{"Nodes", ")"}:     {")"},
	{"Undo", "undo"}:   {"undo", "Name"},
	{"After", "after"}: {"after", "Name", "Leanings"},
	{"Leanings", ","}:  {",", "Name", "Leanings"},
}

// expect tells where a text goes wrong as the chapter's words say: by a list of what must come yet, the next thing last, which each token turns. It shares nothing with the package under test.
func expect(s string) (int, api.Errno) {
	tokens, at, e := lex.Lex(s)
	if e != api.OK {
		return at, e
	}
	todo := []string{"Bodies", "Name", "saga"}
	open, deepest, nodes := 0, 0, 0
	for _, t := range tokens {
		for {
			if len(todo) == 0 {
				return t.At, api.ErrSyntax
			}
			must := todo[len(todo)-1]
			todo = todo[:len(todo)-1]
			if must == t.Text || must == "Name" && t.Kind == api.TokenName && !slices.Contains(words, t.Text) {
				break
			}
			parts := rules[[2]string{must, t.Text}]
			// What may be left out gives way to what comes behind it.
			if parts == nil && must != "Undo" && must != "After" && must != "Leanings" {
				return t.At, api.ErrSyntax
			}
			for i := len(parts) - 1; i >= 0; i-- {
				todo = append(todo, parts[i])
			}
		}
		switch t.Text {
		case "{":
			open++
			deepest = max(deepest, open)
		case "}":
			open--
		case "step", "sub":
			nodes++
		}
	}
	if len(todo) > 0 {
		return len(s), api.ErrSyntax
	}
	if deepest > 70 || nodes > 1000 {
		return tokens[0].At, api.ErrBig
	}
	return len(s), api.OK
}

// textOf tells a saga's text by the chapter's words.
func textOf(g api.Saga) string { return "saga " + g.Name + textOfBodies(g.Alts) }

func textOfBodies(l []api.Body) string {
	var bodies []string
	for _, b := range l {
		s := " ("
		for _, n := range b.Nodes {
			s += " " + textOfNode(n)
		}
		bodies = append(bodies, s+" )")
	}
	return " {" + strings.Join(bodies, " or") + " }"
}

func textOfNode(n api.Node) string {
	after := ""
	if len(n.After) > 0 {
		after = " after " + strings.Join(n.After, " , ")
	}
	if n.Sub {
		return map[bool]string{true: "vital", false: "loose"}[n.Vital] + " sub " + n.Name + after + textOfBodies(n.Alts)
	}
	if n.Undo != "" {
		return "step " + n.Name + " undo " + n.Undo + after + " ;"
	}
	return "step " + n.Name + after + " ;"
}

// same tells whether two sagas are the same; nil and the empty list are.
func same(a, b api.Saga) bool { return a.Name == b.Name && slices.EqualFunc(a.Alts, b.Alts, sameBody) }

func sameBody(a, b api.Body) bool { return slices.EqualFunc(a.Nodes, b.Nodes, sameNode) }

func sameNode(a, b api.Node) bool {
	return a.Name == b.Name && a.Undo == b.Undo && slices.Equal(a.After, b.After) && a.Sub == b.Sub && a.Vital == b.Vital && slices.EqualFunc(a.Alts, b.Alts, sameBody)
}

func copyOf(g api.Saga) api.Saga { return api.Saga{Name: g.Name, Alts: copyOfBodies(g.Alts)} }

func copyOfBodies(l []api.Body) []api.Body {
	var out []api.Body
	for _, b := range l {
		var c api.Body
		for _, n := range b.Nodes {
			n.After = slices.Clone(n.After)
			n.Alts = copyOfBodies(n.Alts)
			c.Nodes = append(c.Nodes, n)
		}
		out = append(out, c)
	}
	return out
}

func saga(nodes ...api.Node) api.Saga { return api.Saga{Name: "t", Alts: []api.Body{body(nodes...)}} }
func body(nodes ...api.Node) api.Body { return api.Body{Nodes: nodes} }
func step(name string) api.Node       { return api.Node{Name: name} }
func sub(name string, alts ...api.Body) api.Node {
	return api.Node{Name: name, Sub: true, Alts: alts}
}

// nest puts nodes so many sub-sagas deep.
func nest(deep int, nodes ...api.Node) []api.Node {
	for ; deep > 0; deep-- {
		nodes = []api.Node{sub("a", body(nodes...))}
	}
	return nodes
}

func steps(n int) []api.Node { return slices.Repeat([]api.Node{step("a")}, n) }

// random makes a right saga.
func random(r *rand.Rand) api.Saga {
	left := r.Intn(25)
	return api.Saga{Name: randomName(r), Alts: randomBodies(r, r.Intn(5), &left)}
}

func randomName(r *rand.Rand) string {
	all := []string{"a", "b", "_", "x9", "\u00fc", "Saga", "steps", "ors", "idle", "not", strings.Repeat("y", 24)}
	return all[r.Intn(len(all))]
}

func randomNames(r *rand.Rand) []string {
	var l []string
	for n := r.Intn(6) - 2; n > 0; n-- {
		l = append(l, randomName(r))
	}
	return l
}

func randomBodies(r *rand.Rand, deep int, left *int) []api.Body {
	l := make([]api.Body, 1+r.Intn(3))
	for i := range l {
		for n := r.Intn(4); n > 0 && *left > 0; n-- {
			*left--
			x := api.Node{Name: randomName(r), After: randomNames(r)}
			if deep > 0 && r.Intn(2) == 0 {
				x.Sub, x.Vital, x.Alts = true, r.Intn(2) == 0, randomBodies(r, deep-1, left)
			} else if r.Intn(2) == 0 {
				x.Undo = randomName(r)
			}
			l[i].Nodes = append(l[i].Nodes, x)
		}
	}
	return l
}

func randoms(n int) []api.Saga {
	r := rand.New(rand.NewSource(3))
	var l []api.Saga
	for ; n > 0; n-- {
		l = append(l, random(r))
	}
	return l
}

func short(s string) string {
	if len(s) > 120 {
		return fmt.Sprintf("%q.. (%d bytes)", s[:120], len(s))
	}
	return fmt.Sprintf("%q", s)
}

// checkRead holds Read against expect, and what it tells against its own text.
func checkRead(t *testing.T, s string) {
	t.Helper()
	g, at, e := Read(s)
	wantAt, wantE := expect(s)
	if at != wantAt || e != wantE {
		t.Fatalf("Read(%s) = %d, %d; want %d, %d", short(s), at, int(e), wantAt, int(wantE))
	}
	if e != api.OK {
		if !same(g, api.Saga{}) {
			t.Fatalf("Read(%s) tells %v beside %d", short(s), g, int(e))
		}
		return
	}
	tokens, _, _ := lex.Lex(s)
	if textOf(g) != lex.Join(tokens) || Check(g) != api.OK {
		t.Fatalf("Read(%s) = %v", short(s), g)
	}
}

const example = "saga t { ( step a undo b ; loose sub c after a { ( ) or ( step d ; ) } ) }"

// whole has each thing that a saga's text may have.
const whole = "saga t{(step a;step b undo u;step c after a;step d undo u after a,b,c;vital sub e{()}loose sub f after a,b{(step g;)or()or(vital sub h{(loose sub i{()})}step j;)}step k;)or()or(step l;)}"

func TestReadExamples(t *testing.T) {
	g, n, e := Read(example)
	want := saga(api.Node{Name: "a", Undo: "b"}, api.Node{Name: "c", Sub: true, After: []string{"a"}, Alts: []api.Body{{}, body(step("d"))}})
	if e != api.OK || n != len(example) || !same(g, want) {
		t.Error(g, n, int(e))
	}
	if g, at, e := Read("saga t { }"); e != api.ErrSyntax || at != 9 || !same(g, api.Saga{}) {
		t.Error(g, at, int(e))
	}
}

func TestReadWhole(t *testing.T) {
	g, n, e := Read(whole)
	within := sub("h", body(sub("i", body())))
	within.Vital = true
	want := api.Saga{Name: "t", Alts: []api.Body{
		body(
			step("a"),
			api.Node{Name: "b", Undo: "u"},
			api.Node{Name: "c", After: []string{"a"}},
			api.Node{Name: "d", Undo: "u", After: []string{"a", "b", "c"}},
			api.Node{Name: "e", Sub: true, Vital: true, Alts: []api.Body{{}}},
			api.Node{Name: "f", Sub: true, After: []string{"a", "b"}, Alts: []api.Body{body(step("g")), {}, body(within, step("j"))}},
			step("k"),
		),
		{},
		body(step("l")),
	}}
	if e != api.OK || n != len(whole) || !same(g, want) {
		t.Error(g, n, int(e))
	}
	if Depth(g) != 4 || Count(g) != 12 {
		t.Error(Depth(g), Count(g))
	}
}

func TestReadBlanks(t *testing.T) {
	g, _, _ := Read(whole)
	tokens, _, _ := lex.Lex(whole)
	for _, gap := range []string{" ", "\n", "\t\r\n ", "#\n", " # saga ! {\n\t"} {
		s := gap
		for _, x := range tokens {
			s += x.Text + gap
		}
		for _, s := range []string{s, s + "# the end"} {
			if h, n, e := Read(s); e != api.OK || n != len(s) || !same(g, h) {
				t.Errorf("%s: %v %d %d", short(s), h, n, int(e))
			}
		}
	}
}

func TestReadErrors(t *testing.T) {
	long := strings.Repeat("x", 25)
	for _, c := range []struct {
		s  string
		at int
		e  api.Errno
	}{
		// What lex.Lex tells, wherever it stands: alone, ahead of and behind a token that can't follow, behind a saga that is over.
		{"saga t { ! }", 9, api.ErrSyntax}, {"\xff", 0, api.ErrFormat}, {"saga t { ( ) } \xff", 15, api.ErrFormat}, {"saga t { ( ) } # \xff", 17, api.ErrFormat}, {"saga " + long + " { ( ) }", 5, api.ErrBig},
		{"saga ! or", 5, api.ErrSyntax}, {"saga or !", 8, api.ErrSyntax}, {"or \xff", 3, api.ErrFormat}, {"} " + long, 2, api.ErrBig}, {"saga t { ( ) } x !", 17, api.ErrSyntax}, {"saga t { } " + long, 11, api.ErrBig}, {"saga t {\xc3", 8, api.ErrFormat},
		{strings.Repeat(" ", 65537), 0, api.ErrBig}, {"or" + strings.Repeat(" ", 65536), 0, api.ErrBig}, {" 1", 1, api.ErrSyntax},
		// No token at all.
		{"", 0, api.ErrSyntax}, {"  ", 2, api.ErrSyntax}, {"# saga", 6, api.ErrSyntax}, {"\n#\n\t", 4, api.ErrSyntax}, {strings.Repeat(" ", 65536), 65536, api.ErrSyntax},
		// A first token that begins no saga.
		{"t", 0, api.ErrSyntax}, {" step a", 1, api.ErrSyntax}, {"Saga t { ( ) }", 0, api.ErrSyntax}, {"sagas t { ( ) }", 0, api.ErrSyntax}, {"{", 0, api.ErrSyntax},
		// The text's end, where more must come; what stands behind the last token counts.
		{"saga", 4, api.ErrSyntax}, {"saga ", 5, api.ErrSyntax}, {"saga t # {", 10, api.ErrSyntax}, {"saga t { ( )", 12, api.ErrSyntax}, {"saga t { ( step a ; ) \n", 23, api.ErrSyntax},
		// Any more token, where a saga is over.
		{"saga t { ( ) } x", 15, api.ErrSyntax}, {"saga t { ( ) }}", 14, api.ErrSyntax}, {"saga t { ( ) } saga t { ( ) }", 15, api.ErrSyntax}, {"saga t { ( ) } or ( )", 15, api.ErrSyntax}, {"saga t { ( ) } ;", 15, api.ErrSyntax}, {"saga t { ( ) } { ( ) }", 15, api.ErrSyntax},
		// Bodies: one at least; or stands between two.
		{"saga t ( )", 7, api.ErrSyntax}, {"saga t { or ( ) }", 9, api.ErrSyntax}, {"saga t { ( ) or }", 16, api.ErrSyntax}, {"saga t { ( ) ( ) }", 13, api.ErrSyntax}, {"saga t { ( ) , ( ) }", 13, api.ErrSyntax}, {"saga t { ( ) or or ( ) }", 16, api.ErrSyntax}, {"saga t { step a ; }", 9, api.ErrSyntax}, {"saga t { ( ( ) ) }", 11, api.ErrSyntax}, {"saga t { ( or ) }", 11, api.ErrSyntax}, {"saga t { ( } )", 11, api.ErrSyntax},
		// Steps.
		{"saga t { ( step a ) }", 18, api.ErrSyntax}, {"saga t { ( step ; ) }", 16, api.ErrSyntax}, {"saga t { ( a ; ) }", 11, api.ErrSyntax}, {"saga t { ( step a undo ; ) }", 23, api.ErrSyntax}, {"saga t { ( step a undo b undo c ; ) }", 25, api.ErrSyntax}, {"saga t { ( step a after b undo c ; ) }", 26, api.ErrSyntax}, {"saga t { ( step a b ; ) }", 18, api.ErrSyntax}, {"saga t { ( ; ) }", 11, api.ErrSyntax}, {"saga t { ( step a ; ; ) }", 20, api.ErrSyntax}, {"saga t { ( step a { ( ) } ) }", 18, api.ErrSyntax}, {"saga t { ( vital step a ; ) }", 17, api.ErrSyntax}, {"saga t { ( step sub a ; ) }", 16, api.ErrSyntax},
		// Sub-sagas.
		{"saga t { ( sub a { ( ) } ) }", 11, api.ErrSyntax}, {"saga t { ( vital loose sub a { ( ) } ) }", 17, api.ErrSyntax}, {"saga t { ( loose a { ( ) } ) }", 17, api.ErrSyntax}, {"saga t { ( loose sub { ( ) } ) }", 21, api.ErrSyntax}, {"saga t { ( vital sub a ; ) }", 23, api.ErrSyntax}, {"saga t { ( loose sub a undo b { ( ) } ) }", 23, api.ErrSyntax}, {"saga t { ( vital sub a { ( ) } ; ) }", 31, api.ErrSyntax}, {"saga t { ( vital sub a { } ) }", 25, api.ErrSyntax}, {"saga t { ( vital sub a ( ) ) }", 23, api.ErrSyntax}, {"saga t { ( saga a { ( ) } ) }", 11, api.ErrSyntax}, {"saga t { ( vital sub a { ( ) } after b ) }", 31, api.ErrSyntax},
		// Leanings.
		{"saga t { ( step a after ; ) }", 24, api.ErrSyntax}, {"saga t { ( step a after b , ; ) }", 28, api.ErrSyntax}, {"saga t { ( step a after b c ; ) }", 26, api.ErrSyntax}, {"saga t { ( step a after , b ; ) }", 24, api.ErrSyntax}, {"saga t { ( step a after b , , c ; ) }", 28, api.ErrSyntax}, {"saga t { ( step a , b ; ) }", 18, api.ErrSyntax}, {"saga t { ( step a after b after c ; ) }", 26, api.ErrSyntax}, {"saga t { ( loose sub a after { ( ) } ) }", 29, api.ErrSyntax}, {"saga t { ( loose sub a after b , { ( ) } ) }", 33, api.ErrSyntax},
		// The first of several.
		{"saga or { } step", 5, api.ErrSyntax}, {"saga t { ( step ; or ) }", 16, api.ErrSyntax},
	} {
		if g, at, e := Read(c.s); !same(g, api.Saga{}) || at != c.at || e != c.e {
			t.Errorf("%s: %v %d %d; want %d %d", short(c.s), g, at, int(e), c.at, int(c.e))
		}
	}
}

func TestReadWordsForNames(t *testing.T) {
	for _, form := range []string{"saga %s { ( ) }", "saga t { ( step %s ; ) }", "saga t { ( step a undo %s ; ) }", "saga t { ( step a after %s ; ) }", "saga t { ( step a undo b after c , %s ; ) }", "saga t { ( vital sub %s { ( ) } ) }", "saga t { ( loose sub a after %s { ( ) } ) }", "saga t { ( loose sub a after b , c , %s { ( ) } ) }", "saga t { ( loose sub a { ( ) or ( step %s ; ) } ) }"} {
		at := strings.Index(form, "%")
		for _, w := range words {
			if g, n, e := Read(fmt.Sprintf(form, w)); e != api.ErrSyntax || n != at || !same(g, api.Saga{}) {
				t.Errorf(form+": %v %d %d", w, g, n, int(e))
			}
			s := fmt.Sprintf(form, w+"s")
			if _, n, e := Read(s); e != api.OK || n != len(s) {
				t.Errorf("%s: %d %d", s, n, int(e))
			}
		}
	}
}

// deepText is the text of a saga so deep, whose innermost body is this text.
func deepText(deep int, inner string) string {
	return "saga t" + strings.Repeat("{(loose sub a", deep-1) + "{" + inner + "}" + strings.Repeat(")}", deep-1)
}

func TestReadDepth(t *testing.T) {
	for _, deep := range []int{1, 2, 69, 70} {
		for _, inner := range []string{"()", "(step b;)or()"} {
			g, n, e := Read(deepText(deep, inner))
			if e != api.OK || n != len(deepText(deep, inner)) || Depth(g) != deep {
				t.Error(deep, n, int(e))
			}
		}
	}
	for _, deep := range []int{71, 72, 500, 4000} {
		s := deepText(deep, "()")
		for _, c := range []struct {
			s  string
			at int
			e  api.Errno
		}{
			{s, 0, api.ErrBig}, {" #\n\t" + s, 4, api.ErrBig}, {s + " # \n", 0, api.ErrBig},
			// An error of another sort is told, ahead of the depth and behind it.
			{s + " x", len(s) + 1, api.ErrSyntax}, {s + "!", len(s), api.ErrSyntax}, {s + "\xff", len(s), api.ErrFormat}, {s[:len(s)-1], len(s) - 1, api.ErrSyntax}, {s[:len(s)-1] + ";}", len(s) - 1, api.ErrSyntax},
			{"saga or" + s[6:], 5, api.ErrSyntax}, {"or " + s, 0, api.ErrSyntax}, {"! " + s, 0, api.ErrSyntax}, {"saga " + strings.Repeat("x", 25) + s[6:], 5, api.ErrBig}, {deepText(deep, ""), 6 + 13*(deep-1) + 1, api.ErrSyntax},
		} {
			if g, at, e := Read(c.s); at != c.at || e != c.e || !same(g, api.Saga{}) {
				t.Errorf("%d deep, %s: %d %d; want %d %d", deep, short(c.s), at, int(e), c.at, int(c.e))
			}
			checkRead(t, c.s)
		}
	}
	// The one that is deepest need not stand first.
	wide := func(deep int) string {
		return "saga t{()or(step a;loose sub b{()}vital sub c" + strings.TrimPrefix(deepText(deep-1, "()"), "saga t") + "loose sub d{()})or()}"
	}
	if g, _, e := Read(wide(70)); e != api.OK || Depth(g) != 70 {
		t.Error(Depth(g), int(e))
	}
	if _, at, e := Read(wide(71)); e != api.ErrBig || at != 0 {
		t.Error(at, int(e))
	}
}

func TestReadNodes(t *testing.T) {
	flat := func(n int) string { return "saga t{(" + strings.Repeat("step a;", n) + ")}" }
	bodies := func(n int) string { return "saga t{()" + strings.Repeat("or(step a;)", n) + "}" }
	subs := func(n int) string { return "saga t{(" + strings.Repeat("loose sub a{()}", n) + ")}" }
	within := func(n int) string {
		return "saga t{(step a;loose sub b{(" + strings.Repeat("step a;", n-3) + ")or(step c;)})}"
	}
	for _, form := range []func(n int) string{flat, bodies, subs, within} {
		if g, n, e := Read(form(1000)); e != api.OK || n != len(form(1000)) || Count(g) != 1000 {
			t.Error(short(form(1000)), n, int(e))
		}
		for _, n := range []int{1001, 1002, 4000} {
			s := form(n)
			for _, c := range []struct {
				s  string
				at int
				e  api.Errno
			}{
				{s, 0, api.ErrBig}, {"\n " + s, 2, api.ErrBig},
				{s + "}", len(s), api.ErrSyntax}, {s + " .", len(s) + 1, api.ErrSyntax}, {s + " \xff", len(s) + 1, api.ErrFormat}, {"saga step" + s[6:], 5, api.ErrSyntax}, {"\xff" + s, 0, api.ErrFormat}, {s[:len(s)-2], len(s) - 2, api.ErrSyntax},
			} {
				if g, at, e := Read(c.s); at != c.at || e != c.e || !same(g, api.Saga{}) {
					t.Errorf("%s: %d %d; want %d %d", short(c.s), at, int(e), c.at, int(c.e))
				}
				checkRead(t, c.s)
			}
		}
	}
	// Bodies and leanings have no bound of their own.
	for _, s := range []string{"saga t{()" + strings.Repeat("or()", 16000) + "}", "saga t{(step a after b" + strings.Repeat(",b", 30000) + ";)}"} {
		if _, n, e := Read(s); e != api.OK || n != len(s) {
			t.Error(short(s), n, int(e))
		}
	}
	s := "saga t{()}"
	s += strings.Repeat(" ", 65536-len(s))
	if _, n, e := Read(s); e != api.OK || n != 65536 {
		t.Error(n, int(e))
	}
	if _, at, e := Read(s + " "); e != api.ErrBig || at != 0 {
		t.Error(at, int(e))
	}
}

// Each beginning that may go on is gone on with by each token there is.
func TestReadAllShortTexts(t *testing.T) {
	grow("", 11, func(s string) { checkRead(t, s) })
	for _, begin := range []string{"saga t {", "saga t { ( vital sub a", "saga t { ( step a", "saga t { ( loose sub a { ( )"} {
		grow(begin, 7, func(s string) { checkRead(t, s) })
	}
}

// grow hands on all texts that a beginning, which may go on, makes with so many tokens more.
func grow(begin string, left int, do func(s string)) {
	for _, v := range vocabulary {
		s := begin + " " + v
		do(s)
		at, e := expect(s)
		if left > 1 && (e == api.OK || e == api.ErrSyntax && at == len(s)) {
			grow(s, left-1, do)
		}
	}
}

// Each token of a right text is left out, doubled, and has any other one put in its place, or ahead of it.
func TestReadTurnedTexts(t *testing.T) {
	texts := []string{example, whole}
	for _, g := range randoms(12) {
		texts = append(texts, textOf(g))
	}
	for _, s := range texts {
		checkRead(t, s)
		tokens, _, _ := lex.Lex(s)
		for i := range tokens {
			ahead, behind := lex.Join(tokens[:i])+" ", " "+lex.Join(tokens[i+1:])
			checkRead(t, ahead+behind)
			for _, v := range append([]string{"!", "\xff", strings.Repeat("z", 25)}, vocabulary...) {
				checkRead(t, ahead+v+behind)
				checkRead(t, ahead+v+" "+tokens[i].Text+behind)
			}
		}
	}
}

func TestReadAnswersNewMemory(t *testing.T) {
	g, _, _ := Read(whole)
	h, _, _ := Read(whole)
	want := copyOf(g)
	spoil(h.Alts)
	if k, _, _ := Read(whole); !same(g, want) || !same(k, want) {
		t.Error(g, k)
	}
	// No two lists of one answer share room.
	nodes := g.Alts[0].Nodes
	_ = append(nodes[2].After, "z")
	_ = append(nodes[5].Alts[0].Nodes, step("z"))
	_ = append(g.Alts[0].Nodes, step("z"))
	if !same(g, want) {
		t.Error(g)
	}
}

func spoil(l []api.Body) {
	for i := range l {
		for k := range l[i].Nodes {
			n := &l[i].Nodes[k]
			spoil(n.Alts)
			for j := range n.After {
				n.After[j] = "z"
			}
			n.Name, n.Undo, n.Vital = "z", "z", !n.Vital
		}
	}
}

// wrongs are sagas that are not right, each by one thing alone.
func wrongs() map[string]api.Saga {
	two := append(steps(600), sub("b", body(steps(399)...), body(step("c"))))
	l := map[string]api.Saga{
		"nothing":                       {},
		"no body":                       {Name: "t"},
		"an empty list of bodies":       {Name: "t", Alts: []api.Body{}},
		"71 deep":                       saga(nest(70)...),
		"71 deep behind others":         saga(append(steps(3), nest(70, step("a"))...)...),
		"1001 nodes":                    saga(steps(1001)...),
		"1001 nodes, of several bodies": {Name: "t", Alts: []api.Body{body(steps(500)...), body(steps(501)...)}},
		"1001 nodes, of some within":    saga(two...),
	}
	nodes := map[string]api.Node{
		"a step with bodies":                 {Name: "a", Alts: []api.Body{{}}},
		"a step with bodies of nodes":        {Name: "a", Undo: "b", Alts: []api.Body{body(step("c"))}},
		"a vital step":                       {Name: "a", Vital: true},
		"a vital step with undo":             {Name: "a", Undo: "b", Vital: true},
		"a sub-saga with undo":               {Name: "a", Undo: "b", Sub: true, Alts: []api.Body{{}}},
		"a vital sub-saga with undo":         {Name: "a", Undo: "b", Sub: true, Vital: true, Alts: []api.Body{{}}},
		"a sub-saga without bodies":          {Name: "a", Sub: true},
		"a vital sub-saga without bodies":    {Name: "a", Sub: true, Vital: true, Alts: []api.Body{}},
		"a sub-saga without bodies, leaning": {Name: "a", Sub: true, After: []string{"b"}},
		"nothing but a node":                 {},
	}
	for _, w := range append([]string{"", " ", "1a", "a b", "a ", " a", "a\n", "a#", "{", ";", "a.b", "\xff", "a\xc3", "\x00", strings.Repeat("x", 25), strings.Repeat("\u00fc", 13), strings.Repeat("a", 70000)}, words...) {
		say := short(w)
		l["a saga's name "+say] = api.Saga{Name: w, Alts: []api.Body{{}}}
		nodes["a step's name "+say] = step(w)
		nodes["a sub-saga's name "+say] = sub(w, body())
		nodes["a step that leans on "+say] = api.Node{Name: "a", Undo: "b", After: []string{w}}
		nodes["a step that leans at last on "+say] = api.Node{Name: "a", After: []string{"b", "c", w}}
		nodes["a sub-saga that leans on "+say] = api.Node{Name: "a", Sub: true, After: []string{"b", w, "c"}, Alts: []api.Body{{}}}
		nodes["a sub-saga undone by "+say] = api.Node{Name: "a", Undo: "x" + w, Sub: true, Alts: []api.Body{{}}}
		if w != "" {
			nodes["a step undone by "+say] = api.Node{Name: "a", Undo: w}
		}
	}
	for say, n := range nodes {
		l[say] = saga(n)
		l[say+", last of a body"] = saga(step("a"), n)
		l[say+", first of a last body"] = api.Saga{Name: "t", Alts: []api.Body{{}, body(step("a")), body(n, step("b"))}}
		l[say+", within"] = saga(sub("c", body(step("d")), body(n)), step("e"))
		l[say+", far within"] = saga(step("a"), sub("c", body(nest(60, n)...)))
	}
	return l
}

func TestCheckAndPrintWrong(t *testing.T) {
	for say, g := range wrongs() {
		if e := Check(g); e != api.ErrArg {
			t.Errorf("%s: Check: %d", say, int(e))
		}
		if s, e := Print(g); s != "" || e != api.ErrArg {
			t.Errorf("%s: Print: %s %d", say, short(s), int(e))
		}
	}
}

func TestCheckAndPrintEdges(t *testing.T) {
	for _, g := range []api.Saga{
		saga(), saga(step("a")), saga(steps(1000)...), saga(nest(69)...), saga(nest(69, step("a"))...), {Name: "t", Alts: make([]api.Body, 5000)},
		{Name: "t", Alts: []api.Body{body(steps(500)...), body(steps(500)...)}}, saga(append(steps(600), sub("b", body(steps(398)...), body(step("c"))))...), saga(nest(69, steps(931)...)...),
		{Name: strings.Repeat("x", 24), Alts: []api.Body{{}}}, {Name: "_", Alts: []api.Body{{}}}, {Name: "\u00fc9", Alts: []api.Body{{}}}, {Name: "Or", Alts: []api.Body{{}}},
		// What may not be run may be right: one name twice, leanings on what is not there or on itself, a circle, no undo, a body without nodes.
		saga(step("t"), step("t"), api.Node{Name: "a", After: []string{"a", "x", "x"}}), saga(api.Node{Name: "a", Undo: "a", After: []string{"b"}}, api.Node{Name: "b", After: []string{"a"}}),
		saga(api.Node{Name: "a", After: []string{}, Alts: []api.Body{}}, api.Node{Name: "b", Sub: true, After: []string{}, Alts: []api.Body{{Nodes: []api.Node{}}}}),
		saga(api.Node{Name: "a", After: slices.Repeat([]string{"b"}, 100000)}),
	} {
		if e := Check(g); e != api.OK {
			t.Errorf("%s: Check: %d", short(textOf(g)), int(e))
		}
		if s, e := Print(g); s != textOf(g) || e != api.OK {
			t.Errorf("%s: Print: %s %d", short(textOf(g)), short(s), int(e))
		}
	}
}

func TestPrintForms(t *testing.T) {
	for _, c := range []struct {
		g    api.Saga
		want string
	}{
		{saga(), "saga t { ( ) }"},
		{api.Saga{Name: "t", Alts: []api.Body{{}, {}, {}}}, "saga t { ( ) or ( ) or ( ) }"},
		{saga(step("a"), step("b")), "saga t { ( step a ; step b ; ) }"},
		{saga(api.Node{Name: "a", Undo: "b"}), "saga t { ( step a undo b ; ) }"},
		{saga(api.Node{Name: "a", After: []string{"b"}}), "saga t { ( step a after b ; ) }"},
		{saga(api.Node{Name: "a", Undo: "b", After: []string{"c", "d", "c"}}), "saga t { ( step a undo b after c , d , c ; ) }"},
		{saga(sub("a", body())), "saga t { ( loose sub a { ( ) } ) }"},
		{saga(api.Node{Name: "a", Sub: true, Vital: true, After: []string{"b", "c"}, Alts: []api.Body{{}, body(step("d"))}}, step("e")), "saga t { ( vital sub a after b , c { ( ) or ( step d ; ) } step e ; ) }"},
	} {
		if s, e := Print(c.g); s != c.want || e != api.OK {
			t.Errorf("%q %d; want %q", s, int(e), c.want)
		}
	}
	g, _, _ := Read(example)
	if s, e := Print(g); s != example || e != api.OK {
		t.Error(s, int(e))
	}
}

func TestNothingHandedInIsChanged(t *testing.T) {
	g, _, _ := Read(whole)
	g.Alts = append(g.Alts, body(step("behind")))
	room := g.Alts
	g.Alts = g.Alts[:len(g.Alts)-1]
	want, wantRoom := copyOf(g), copyOfBodies(room)
	Check(g)
	Print(g)
	Depth(g)
	Count(g)
	if !same(g, want) || !slices.EqualFunc(room, wantRoom, sameBody) {
		t.Error(g)
	}
}

func TestDepthAndCount(t *testing.T) {
	// A step's bodies are no saga's, whatever stands in them.
	odd := api.Node{Name: "a", Alts: []api.Body{body(nest(5, step("b"))...), {}}}
	for _, c := range []struct {
		say         string
		g           api.Saga
		deep, count int
	}{
		{"nothing", api.Saga{}, 1, 0},
		{"no body", api.Saga{Name: "t"}, 1, 0},
		{"an empty body", saga(), 1, 0},
		{"bodies", api.Saga{Alts: []api.Body{{}, body(step("a")), body(step("b"), step("c"))}}, 1, 3},
		{"an empty sub-saga", saga(sub("a", body())), 2, 1},
		{"a sub-saga without bodies", saga(api.Node{Sub: true}), 2, 1},
		{"two without bodies, one within", saga(api.Node{Sub: true}, sub("", body(api.Node{Sub: true}))), 3, 3},
		{"a sub-saga in a last body", api.Saga{Alts: []api.Body{body(step("a")), body(step("a"), sub("b", body(), body(step("c"))))}}, 2, 4},
		{"the deepest first", saga(sub("a", body(nest(3)...)), sub("b", body())), 5, 5},
		{"the deepest last", saga(sub("b", body()), sub("a", body(), body(nest(3, step("a"))...))), 5, 6},
		{"the deepest ahead of one that is less deep", saga(sub("a", body(nest(3)...)), sub("b", body(nest(2)...))), 5, 7},
		{"the deepest behind one that is less deep", saga(sub("b", body(nest(2)...)), sub("a", body(nest(3)...))), 5, 7},
		{"a step with bodies", saga(odd), 1, 1},
		{"a step with bodies within", saga(sub("a", body(odd, step("b")))), 2, 3},
		{"wrong names", api.Saga{Name: "\xff", Alts: []api.Body{body(sub("or", body(step(""))), step(" "))}}, 2, 3},
		{"a vital step", saga(api.Node{Vital: true}), 1, 1},
		{"a sub-saga with undo", saga(api.Node{Sub: true, Undo: "a", Alts: []api.Body{body(step("a"))}}), 2, 2},
		{"71 deep", saga(nest(70)...), 71, 70},
		{"1001 nodes", saga(steps(1001)...), 1, 1001},
		{"70000 nodes, within", saga(sub("a", body(steps(69999)...))), 2, 70000},
		{"far deeper than calls may be", saga(nest(1000000, step("a"))...), 1000001, 1000001},
	} {
		if deep, count := Depth(c.g), Count(c.g); deep != c.deep || count != c.count {
			t.Errorf("%s: %d %d; want %d %d", c.say, deep, count, c.deep, c.count)
		}
	}
	if e := Check(saga(nest(1000000)...)); e != api.ErrArg {
		t.Error(int(e))
	}
}

// A list may stand in itself; that is deeper than any right saga.
func TestCheckEndlessSaga(t *testing.T) {
	round := []api.Node{sub("a", body()), sub("b", body())}
	for i := range round {
		round[i].Alts[0].Nodes = round
	}
	if s, e := Print(saga(round...)); s != "" || e != api.ErrArg {
		t.Error(int(e))
	}
	round = round[:1:1]
	round[0].Alts[0].Nodes = round
	if e := Check(saga(round...)); e != api.ErrArg {
		t.Error(int(e))
	}
}

// P3.4.
func TestThereAndBack(t *testing.T) {
	for _, g := range randoms(3000) {
		s, e := Print(g)
		if e != api.OK || s != textOf(g) {
			t.Fatalf("%v: %q %d", g, s, int(e))
		}
		if h, n, e := Read(s); e != api.OK || n != len(s) || !same(g, h) {
			t.Fatalf("%q: %v %d %d", s, h, n, int(e))
		}
	}
	// A text of just as many bytes as may be, and of one more.
	for _, more := range []int{0, 1} {
		g := saga(api.Node{Name: strings.Repeat("a", 6+more), After: slices.Repeat([]string{"b"}, 16376)})
		s, e := Print(g)
		if e != api.OK || len(s) != 65536+more {
			t.Fatal(len(s), int(e))
		}
		h, n, e := Read(s)
		if more == 0 && (e != api.OK || n != 65536 || !same(g, h)) || more == 1 && (e != api.ErrBig || n != 0 || !same(h, api.Saga{})) {
			t.Error(more, n, int(e))
		}
	}
}

// P3.5.
func TestOneText(t *testing.T) {
	texts := []string{example, whole, deepText(70, "()"), " # x\n" + whole + "\n"}
	for _, g := range randoms(500) {
		texts = append(texts, strings.NewReplacer(" ", "\n#!\n\t").Replace(textOf(g)))
	}
	for _, s := range texts {
		g, _, e := Read(s)
		p, f := Print(g)
		h, n, k := Read(p)
		if e != api.OK || f != api.OK || k != api.OK || n != len(p) || !same(g, h) {
			t.Fatalf("%s: %d %d %d", short(s), int(e), int(f), int(k))
		}
		if q, _ := Print(h); q != p {
			t.Fatalf("%s: %s", short(p), short(q))
		}
	}
}

// P3.6.
func TestStops(t *testing.T) {
	texts := []string{example, whole, "saga \u00fcb { ( step \u00fc undo \u20ac ; ) } ", deepText(71, "()") + "# x"}
	for _, g := range randoms(60) {
		texts = append(texts, textOf(g)+" # the end")
	}
	for _, s := range texts {
		_, _, whole := Read(s)
		tokens, _, _ := lex.Lex(s)
		last := tokens[len(tokens)-1]
		for i := range s {
			_, at, e := Read(s[:i])
			if i < last.At+len(last.Text) {
				if e == api.OK {
					t.Fatalf("%q is one", s[:i])
				}
			} else if e != whole || e == api.OK && at != i {
				t.Fatalf("%q: %d %d", s[:i], at, int(e))
			}
			checkRead(t, s[:i])
		}
		// Behind each of its tokens more must come, but behind the last one.
		for _, x := range tokens[:len(tokens)-1] {
			end := x.At + len(x.Text)
			if _, at, e := Read(s[:end]); e != api.ErrSyntax || at != end {
				t.Fatalf("%q: %d %d", s[:end], at, int(e))
			}
		}
	}
}
