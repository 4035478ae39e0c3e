package task

import (
	"math/rand"
	"slices"
	"strconv"
	"strings"
	"testing"

	"argosy/api"
	"argosy/plan"
	"argosy/state"
)

// mayBe holds what may begin of forms, told by names, and all calls of them against the second reckoning.
func mayBe(t *testing.T, forms []struct{ form, want string }) {
	t.Helper()
	for _, c := range forms {
		p, l := formed(t, c.form)
		if got := text(p, May(p, l)); got != c.want {
			t.Errorf("%s: %q, want %q", c.form, got, c.want)
			continue
		}
		hold(t, p, l)
		// All keys of the greatest plans would take long.
		if len(p.Items) < api.MaxItems {
			holdKeys(t, p, l)
		}
	}
}

// P15.1: on what a step leans is done, or a sub-saga that is not vital, and spent.
func TestLeans(t *testing.T) {
	mayBe(t, []struct{ form, want string }{
		{"a.", "a"},
		{"a. b.", "a b"},
		{"b. a.", "b a"},
		// On a step.
		{"a. b.<a", "a"},
		{"b.<a a.", "a"},
		{"a> b.<a", ""},
		{"a+ b.<a", "b"},
		{"b.<a a+", "b"},
		{"a- b.<a", ""},
		{"a1 b.<a", ""},
		{"a3 b.<a", ""},
		{"aa b.<a", ""},
		{"ad b.<a", ""},
		{"aw b.<a", ""},
		{"az b.<a", ""},
		// On several ones.
		{"a+ b. c.<a,b", "b"},
		{"a. b+ c.<a,b", "a"},
		{"a+ b> c.<b,a", ""},
		{"a> b+ c.<b,a", ""},
		{"a+ b+ c.<a,b", "c"},
		{"a+ b+ c+ d.<a,b,c", "d"},
		{"a+ b+ cw d.<a,b,c", ""},
		{"aw b+ c+ d.<a,b,c", ""},
		// On one that leans.
		{"a. b.<a c.<b", "a"},
		{"a+ b.<a c.<b", "b"},
		{"a+ b+<a c.<b", "c"},
		{"a. b+<a c.<b", "a c"},
		{"a+ b.<a c.<a d.<b,c", "b c"},
		// On a sub-saga that is not done, and on one that is.
		{"Vs ( c. ) z.<s", "c"},
		{"Ls ( c. ) z.<s", "c"},
		{"Vs ( c> ) z.<s", ""},
		{"Vs ( c+ ) z.<s", "z"},
		{"Ls ( c+ ) z.<s", "z"},
		{"Vs ( c+ d. ) z.<s", "d"},
		{"Ls ( c- | d+ ) z.<s", "z"},
		{"Vs ( c- | d+ ) z.<s", "z"},
		{"Vs ( Lr ( c- ) ) z.<s", "z"},
		{"Vs ( cw ) z.<s", ""},
		// On one that is spent, vital or not.
		{"Ls ( c- ) z.<s", "z"},
		{"Vs ( c- ) z.<s", ""},
		{"Vs ( c- ) z.<s | y.", "y"},
		{"Vs ( c- ) z.<s y>", ""},
		{"Ls ( c- ) z.<s | y.", "z"},
		{"Ls ( c- | d. ) z.<s", "d"},
		{"Ls ( c- | d- ) z.<s", "z"},
		{"Ls ( c- d+ ) z.<s", "d~0"},
		{"Ls ( c- da ) z.<s", ""},
		{"Ls ( c- d> ) z.<s", ""},
		{"Ls ( c- dw ) z.<s", "z"},
		{"Ls ( c- d. ) z.<s", "z"},
		{"Ls ( Vr ( c- ) ) z.<s", "z"},
		{"Ls ( c- ) Vr ( d- ) z.<s", ""},
		// That a step failed is not that it is spent.
		{"a- b+ | c.", "b~0"},
		{"Ls ( c- ) a> z.<s,a", ""},
		{"Ls ( c- ) a+ z.<s,a", "z"},
		// A sub-saga that leans.
		{"Ls ( c- ) Vr<s ( d. )", "d"},
		{"Vs ( c. ) Vr<s ( d. )", "c"},
		{"Vs ( c+ ) Vr<s ( d. )", "d"},
		{"Vs ( c+ ) Vr<s ( d. e.<d )", "d"},
	})
}

// P15.1: a step is in its saga's body, which does not fall, and its saga runs.
func TestReached(t *testing.T) {
	mayBe(t, []struct{ form, want string }{
		// A body that is not its saga's body.
		{"a. | b.", "a"},
		{"a> | b.", ""},
		{"a. c> | b.", "a"},
		{"a- | b.", "b"},
		{"a- | b. | c.", "b"},
		{"a- | b- | c.", "c"},
		{"a- | b> | c.", ""},
		{"a- | b- | c- | d.", "d"},
		{"a- b+ | c.", "b~0"},
		{"a- b> | c.", ""},
		{"a- ba | c.", ""},
		{"a- bw | c.", "c"},
		{"Vs ( a. | b. )", "a"},
		{"Vs ( a- | b. )", "b"},
		{"Vs ( a- b+ | c. )", "b~0"},
		{"a> | Vs ( b. )", ""},
		{"a- | Vs ( b. | c. )", "b"},
		{"Vs ( a- ) b+ | c.", "b~0"},
		{"Vs ( a- ) bw | c.", "c"},
		// A body that falls.
		{"a- b.", ""},
		{"a- b. c>", ""},
		{"a- b. c> | d.", ""},
		{"a- b. c+", "c~0"},
		{"a- b. ca", ""},
		{"Vs ( a- ) b. c>", ""},
		{"Vs ( a- b. c> )", ""},
		{"Ls ( a- ) b. c>", "b"},
		// A sub-saga that is not reached.
		{"a. Vs<a ( c. )", "a"},
		{"a> Vs<a ( c. )", ""},
		{"a+ Vs<a ( c. )", "c"},
		{"aw Vs<a ( c. )", ""},
		{"a. Vs<a ( c. Vr ( d. ) )", "a"},
		{"a> Vs<a ( Vr ( Vq ( d. ) ) )", ""},
		{"a+ Vs<a ( Vr ( Vq ( d. ) ) )", "d"},
		{"a> Vs<a ( c- | d. )", ""},
		{"a> | Vs ( Vr ( d. ) )", ""},
		{"Vs ( a> | Vr ( d. ) )", ""},
		{"Vs ( a- | Vr ( d. ) )", "d"},
		{"Vs ( a+ Vr<a ( d. ) )", "d"},
		{"Vs ( c> ) Vr<s ( d. )", ""},
		// One that is done.
		{"Vs ( c+ | d. ) z.", "z"},
		{"Ls ( c+ | d. ) z.", "z"},
		{"Vs ( Lr ( c- d. ) | e. ) z.", "z"},
		{"Vs ( c- | d+ | e. ) z.", "z"},
		// One that is spent.
		{"Ls ( c- d. ) z.", "z"},
		{"Ls ( c- d. | e- f. ) z.", "z"},
		{"Vs ( c- d. ) z. | y.", "y"},
		// The saga 0 that is done.
		{"a+", ""},
		{"a+ | b.", ""},
		{"a- | b+", ""},
		{"a- c. | b+ | d.", ""},
		{"Ls ( a- b. )", ""},
		{"Ls ( a- b. | c- ) d+", ""},
		// And that is spent.
		{"a-", ""},
		{"a- b.", ""},
		{"a- bw | c- d.", ""},
		{"Vs ( a- b. )", ""},
		{"Vs ( a- ) Lr ( b. )", ""},
		// A saga that is halted.
		{"a- b> Vs ( c. )", ""},
		{"a- b> Ls ( c. )", ""},
		{"a- b> Vs ( Lr ( c. ) )", ""},
		{"a- b> Vs ( c- | d. )", ""},
		{"a- Vs ( c+ d. )", "c~0"},
		{"a- Vs ( c+ d+<c )", "d~0"},
		{"a- Vs ( c- d+ | e. )", "d~0"},
		{"a- Vs ( c- dw | e. ) b>", ""},
		{"a- Vs ( Lr ( c+ ) )", "c~0"},
		{"a- Vs ( c> )", ""},
		{"a- Vs ( cw ) | b.", "b"},
		{"Ls ( a- Lr ( c+ d. ) ) z.", "c~0 z"},
		{"Vs ( a- Lr ( c+ d. ) | e. ) z.", "c~0 z"},
	})
}

// P15.1: a step that may be undone: it went well, is not undone, no try is on its way, and its body falls.
func TestUndone(t *testing.T) {
	mayBe(t, []struct{ form, want string }{
		// With so many tries that failed.
		{"a- b+", "b~0"},
		{"a- b1", "b~1"},
		{"a- b2", "b~2"},
		{"a- b3", "b~3"},
		// A try is on its way.
		{"a- ba", ""},
		{"a- bb", ""},
		{"a- bc", ""},
		{"a- bd", ""},
		// It is undone.
		{"a- bw", ""},
		{"a- bx", ""},
		{"a- by", ""},
		{"a- bz", ""},
		// It did not go well.
		{"a- b-", ""},
		{"a- b>", ""},
		{"a- b.", ""},
		// Its body does not fall.
		{"b+", ""},
		{"b1", ""},
		{"b3", ""},
		{"a> b+", ""},
		{"a. b+", "a"},
		{"aw b+", ""},
		{"a- | b+", ""},
		{"b+ | a-", ""},
		{"b1 | a-", ""},
		{"Ls ( a- ) b+ c>", ""},
		{"Vs ( a- | c. ) b+", "c"},
		{"Vs ( a- c> ) b+", ""},
		{"Vs ( b+ ) z.", "z"},
		{"Vs ( b+ | a- ) z>", ""},
		// It falls by itself, or by a saga around it.
		{"Vs ( a- ) b+", "b~0"},
		{"Vs ( a- b+ )", "b~0"},
		{"Vs ( a- b+ ) c.", "b~0 c"},
		{"a- Vs ( b+ )", "b~0"},
		{"a- Vs ( b+ | c. )", "b~0"},
		{"a- Vs ( Lr ( b+ ) )", "b~0"},
		{"a- Vs ( Lr ( c- | b2 ) )", "b~2"},
		{"a> Ls ( c- Vr ( b+ ) )", "b~0"},
		{"a+ b+ c-", "a~0 b~0"},
		{"c- b+ a2", "b~0 a~2"},
		{"z. Ls ( c- d+ ) y.", "z d~0 y"},
	})
}

// P15.1: nothing is left of what leans on a step that may be undone, or on a saga around it.
func TestBare(t *testing.T) {
	mayBe(t, []struct{ form, want string }{
		// A step leans on it.
		{"a+ b+<a c-", "b~0"},
		{"b+<a a+ c-", "b~0"},
		{"a+ b><a c-", ""},
		{"a+ ba<a c-", ""},
		{"a+ bd<a c-", ""},
		{"a+ b1<a c-", "b~1"},
		{"a+ b3<a c-", "b~3"},
		{"a+ bw<a c-", "a~0"},
		{"a+ bz<a c-", "a~0"},
		{"a+ b.<a c-", "a~0"},
		{"a+ b-<a", "a~0"},
		{"a2 b-<a", "a~2"},
		{"aa b-<a", ""},
		{"a+ bw<a c+<a d-", "c~0"},
		{"a+ b+<a c+<a d-", "b~0 c~0"},
		{"a+ b+<a cw<a d-", "b~0"},
		{"a+ bw<a cw<a d-", "a~0"},
		{"a+ b+ c+<b,a d-", "c~0"},
		{"a+ b+ cw<b,a d-", "a~0 b~0"},
		// By a chain.
		{"a+ b+<a c+<b d-", "c~0"},
		{"a+ b+<a cw<b d-", "b~0"},
		{"a+ bw<a c+<b d-", "c~0"},
		{"a+ b.<a c+<b d-", "c~0"},
		{"a+ b-<a c><b", ""},
		{"a+ bw<a cw<b d+<c e-", "d~0"},
		{"a+ bw<a cw<b dw<c e-", "a~0"},
		// A sub-saga leans on it.
		{"a+ Ls<a ( c+ ) d-", "c~0"},
		{"a+ Vs<a ( c+ ) d-", "c~0"},
		{"a+ Ls<a ( c> ) d-", ""},
		{"a+ Ls<a ( cw ) d-", "a~0"},
		{"a+ Ls<a ( c. ) d-", "a~0"},
		{"a+ Ls<a ( c- | d+ ) e-", "d~0"},
		{"a+ Ls<a ( c- | dw ) e-", "a~0"},
		{"a+ Vs<a ( c- )", "a~0"},
		{"a+ Vs<a ( Vr ( c+ ) ) d-", "c~0"},
		{"a+ Vs<a ( c. ) d+<s e-", "d~0"},
		// Something leans on the saga in which it stands.
		{"Vs ( c+ ) z+<s e-", "z~0"},
		{"Vs ( c+ ) z><s e-", ""},
		{"Vs ( c+ ) za<s e-", ""},
		{"Vs ( c+ ) z1<s e-", "z~1"},
		{"Vs ( c+ ) zw<s e-", "c~0"},
		{"Vs ( c+ ) z.<s e-", "c~0"},
		{"Vs ( c+ ) z-<s", "c~0"},
		{"Vs ( c+ ) zw<s y+<z e-", "y~0"},
		{"Vs ( c+ ) Lr<s ( d+ ) e-", "d~0"},
		{"Vs ( c+ ) Lr<s ( dw ) e-", "c~0"},
		{"Ls ( c- d+ ) z+<s", ""},
		{"Ls ( c- d+ ) z><s", ""},
		{"Ls ( c- d+ ) z.<s", "d~0"},
		{"Ls ( c- d+ ) zw<s", "d~0"},
		// Or on one around that.
		{"Vs ( Vr ( c+ ) ) z+<s e-", "z~0"},
		{"Vs ( Vr ( c+ ) ) z><s e-", ""},
		{"Vs ( Vr ( c+ ) ) zw<s e-", "c~0"},
		{"Vs ( Vr ( c+ ) y+<r ) zw<s e-", "y~0"},
		{"Vs ( Vr ( c+ ) y><r ) zw<s e-", ""},
		{"Vs ( Vr ( c+ ) yw<r ) zw<s e-", "c~0"},
		{"Vs ( Vr ( Vq ( c+ ) x.<q ) y.<r ) z+<s e-", "z~0"},
		{"Ls ( Vr ( Vq ( c+ d- ) x.<q ) y.<r ) z+<s", ""},
		{"Ls ( Vr ( Vq ( c+ d- ) x.<q ) y+<r ) z.<s", ""},
		{"Ls ( Vr ( Vq ( c+ d- ) x+<q ) y.<r ) z.<s", ""},
		{"Ls ( Vr ( Vq ( c+ d- ) x.<q ) y.<r ) z.<s", "c~0"},
		// What does not lean on it is nothing to it.
		{"a+ b> c-", "a~0"},
		{"a+ b+ Vs ( c> ) d-", "a~0 b~0"},
		{"b> a+<b c-", "a~0"},
		{"Vs ( c> ) z+<s e-", "z~0"},
		{"Vs ( c+ d> ) e-", "c~0"},
		{"Vs ( c+ ) Vr ( d> ) e-", "c~0"},
	})
}

// The example of the chapter: what may begin, told by names, behind each key that begins and ends.
func TestExample(t *testing.T) {
	p, l := formed(t, "a. b.<a")
	for _, c := range []struct {
		may string
		ok  bool
	}{
		{"a", true},
		{"b", false},
		{"a~0", false},
		{"a~1", false},
		{"a~2", false},
		{"a~3", true},
	} {
		if got := text(p, May(p, l)); got != c.may {
			t.Fatalf("%q, want %q", got, c.may)
		}
		k := key(t, p, c.may)
		var e api.Errno
		if l, e = Begin(p, l, k); e != api.OK || len(May(p, l)) != 0 {
			t.Fatal(c.may, int(e), May(p, l))
		}
		if l, e = End(p, l, k, c.ok); e != api.OK {
			t.Fatal(c.may, int(e))
		}
	}
	if may, v := May(p, l), state.Verdict(p, l); len(may) != 0 || v != api.Failed {
		t.Error(may, int(v))
	}
}

// P15.1: Is of keys that are like one that may begin, but for one thing, and of items that there are not.
func TestIs(t *testing.T) {
	// t 0, a 1, s 2, c 3, d 4, z 5.
	p, l := formed(t, "a. Ls ( c- d2 ) z.<s")
	for _, c := range []struct {
		k    api.Key
		want bool
	}{
		{api.Key{Item: 1}, true},
		{api.Key{Item: 4, Undo: true, Try: 2}, true},
		// Another try.
		{api.Key{Item: 1, Try: 1}, false},
		{api.Key{Item: 1, Try: -1}, false},
		{api.Key{Item: 4, Undo: true}, false},
		{api.Key{Item: 4, Undo: true, Try: 1}, false},
		{api.Key{Item: 4, Undo: true, Try: 3}, false},
		{api.Key{Item: 4, Undo: true, Try: -2}, false},
		{api.Key{Item: 4, Undo: true, Try: 1<<32 + 2}, false},
		// With Undo where it may begin, without it where it may be undone.
		{api.Key{Item: 1, Undo: true}, false},
		{api.Key{Item: 4, Try: 2}, false},
		{api.Key{Item: 4}, false},
		// Steps that may neither begin nor be undone.
		{api.Key{Item: 3}, false},
		{api.Key{Item: 3, Undo: true}, false},
		{api.Key{Item: 5}, false},
		{api.Key{Item: 5, Undo: true}, false},
		// Sagas, and what is no item.
		{api.Key{}, false},
		{api.Key{Undo: true}, false},
		{api.Key{Item: 2}, false},
		{api.Key{Item: 2, Undo: true}, false},
		{api.Key{Item: -1}, false},
		{api.Key{Item: -1, Undo: true}, false},
		{api.Key{Item: 6}, false},
		{api.Key{Item: 6, Undo: true}, false},
		{api.Key{Item: 64}, false},
		{api.Key{Item: 1<<32 + 1}, false},
		{api.Key{Item: least}, false},
		{api.Key{Item: most, Undo: true, Try: most}, false},
	} {
		if Is(p, l, c.k) != c.want {
			t.Errorf("%v: %v", c.k, !c.want)
		}
	}
	hold(t, p, l)
	holdKeys(t, p, l)
}

// P15.2: Begin, with the facts then, or ErrState.
func TestBegin(t *testing.T) {
	for _, c := range []struct{ form, key, then string }{
		{"a. b.<a", "a", "a> b.<a"},
		{"a+ b.<a", "b", "a+ b><a"},
		{"a- b+", "b~0", "a- ba"},
		{"a- b1", "b~1", "a- bb"},
		{"a- b2", "b~2", "a- bc"},
		{"a- b3", "b~3", "a- bd"},
		{"a- | b.", "b", "a- | b>"},
		{"z. Ls ( c- d+ ) y.", "d~0", "z. Ls ( c- da ) y."},
		{"z. Ls ( c- d+ ) y.", "y", "z. Ls ( c- d+ ) y>"},
		// What may not begin.
		{"a. b.<a", "b", ""},
		{"a. b.<a", "t", ""},
		{"a. | b.", "b", ""},
		{"a. Vs ( b. )", "s", ""},
		{"a. Vs<a ( b. )", "b", ""},
		{"a- b. c+", "b", ""},
		// What began, and what ended.
		{"a> b.<a", "a", ""},
		{"a+ b.<a", "a", ""},
		{"a- b+", "a", ""},
		{"a- b+", "b", ""},
		{"a- ba", "b~0", ""},
		{"a- ba", "b~1", ""},
		{"a- bd", "b~3", ""},
		{"a- bw", "b~0", ""},
		{"a- bw", "b~1", ""},
		{"a- b1", "b~0", ""},
		// What may begin is not what may be undone.
		{"a. b.<a", "a~0", ""},
		{"a+ b.", "a~0", ""},
		{"a- b1", "b", ""},
	} {
		p, l := formed(t, c.form)
		was := slices.Clone(l)
		then, e := Begin(p, l, key(t, p, c.key))
		holdThen(t, c.form+", Begin "+c.key, then, e, c.then)
		if !slices.Equal(l, was) {
			t.Errorf("%s: turned into %v", c.form, l)
		}
	}
}

// P15.2: End of each key that is open, ok and not, with the facts then, or ErrState.
func TestEnd(t *testing.T) {
	for _, c := range []struct{ form, key, ok, not string }{
		{"a> b.<a", "a", "a+ b.<a", "a- b.<a"},
		{"a> b>", "b", "a> b+", "a> b-"},
		{"a- b>", "b", "a- b+", "a- b-"},
		{"Vs ( a> ) b.", "a", "Vs ( a+ ) b.", "Vs ( a- ) b."},
		{"a- ba", "b~0", "a- bw", "a- b1"},
		{"a- bb", "b~1", "a- bx", "a- b2"},
		{"a- bc", "b~2", "a- by", "a- b3"},
		{"a- bd", "b~3", "a- bz", ""},
		// A key is open by what is known of its step alone: its body need not fall.
		{"ba c>", "b~0", "bw c>", "b1 c>"},
		{"a. | bd", "b~3", "a. | bz", ""},
		{"a. b><a", "b", "a. b+<a", "a. b-<a"},
		// What is not open.
		{"a. b.<a", "a", "", ""},
		{"a. b.<a", "b", "", ""},
		{"a. b.<a", "t", "", ""},
		{"Vs ( a> ) b.", "s", "", ""},
		{"a+ b.<a", "a", "", ""},
		{"a- b+", "a", "", ""},
		{"a- b+", "b", "", ""},
		{"a- b+", "b~0", "", ""},
		{"a- b3", "b~3", "", ""},
		{"a- bw", "b~0", "", ""},
		{"a- bz", "b~3", "", ""},
		// Another try, an undoing of what began, a step whose undoing began.
		{"a- ba", "b~1", "", ""},
		{"a- bb", "b~0", "", ""},
		{"a- bb", "b~2", "", ""},
		{"a- bc", "b~3", "", ""},
		{"a- bd", "b~2", "", ""},
		{"a> b.", "a~0", "", ""},
		{"a- ba", "b", "", ""},
	} {
		p, l := formed(t, c.form)
		was := slices.Clone(l)
		k := key(t, p, c.key)
		then, e := End(p, l, k, true)
		holdThen(t, c.form+", End "+c.key+", ok", then, e, c.ok)
		then, e = End(p, l, k, false)
		holdThen(t, c.form+", End "+c.key+", not", then, e, c.not)
		if !slices.Equal(l, was) {
			t.Errorf("%s: turned into %v", c.form, l)
		}
	}
}

// holdThen holds facts against those of a form, or, if there is none, holds that they are refused by ErrState.
func holdThen(t *testing.T, asked string, then []api.Fact, e api.Errno, form string) {
	t.Helper()
	if form == "" {
		if len(then) != 0 || e != api.ErrState {
			t.Errorf("%s: %v, %d; want ErrState", asked, then, int(e))
		}
		return
	}
	if _, want := formed(t, form); !slices.Equal(then, want) || e != api.OK {
		t.Errorf("%s: %v, %d; want %v", asked, then, int(e), want)
	}
}

// P15.3: Next of two forms of one saga, told by names.
func TestNext(t *testing.T) {
	for _, c := range []struct{ ahead, now, want string }{
		// The same facts.
		{"a. b.", "a. b.", ""},
		{"a- b1", "a- b1", ""},
		{"a+", "a+", ""},
		// More may begin.
		{"a> b.<a c.<a", "a+ b.<a c.<a", "b c"},
		{"a> b.<a c.", "a+ b.<a c.", "b"},
		{"a- b> c+", "a- b+ c+", "b~0"},
		{"a> | b.", "a- | b.", "b"},
		{"Ls ( c> ) z.<s y.", "Ls ( c- ) z.<s y.", "z"},
		// Fewer may.
		{"a. b.", "a> b.", ""},
		{"a+ b. c>", "a> b. c>", ""},
		{"a. b. c.", "a. b> c.", ""},
		// Others may.
		{"a. b.<a", "a+ b.<a", "b"},
		{"a. b. c>", "a+ b+ c-", "a~0 b~0"},
		{"a. b. c.<b", "a. b+ c.<b", "c"},
		{"a- b. | c.", "a- b+ | c.", "b~0"},
		// A step's next try is another key.
		{"a- b+", "a- b1", "b~1"},
		{"a- b1", "a- b2", "b~2"},
		{"a- b2 c+", "a- b3 c+", "b~3"},
		{"a- b1", "a- b+", "b~0"},
		// None might, and none may.
		{"a> b.<a", "aw b.<a", ""},
		{"a>", "a+", ""},
		{"a+", "a.", "a"},
	} {
		p, l := formed(t, c.ahead)
		_, m := formed(t, c.now)
		if got := text(p, Next(p, l, m)); got != c.want {
			t.Errorf("%s, %s: %q, want %q", c.ahead, c.now, got, c.want)
		}
		holdNext(t, p, l, m)
		holdNext(t, p, m, l)
	}
}

// wrongFacts are such as are not right of the plan, by one of them, or by how many there are.
func wrongFacts(p api.Plan, l []api.Fact) [][]api.Fact {
	all := [][]api.Fact{nil, {}, l[1:], l[:len(l)-1], append(slices.Clone(l), api.Fact{}), make([]api.Fact, 64), make([]api.Fact, 1000)}
	for i, x := range p.Items {
		wrong := []api.Fact{{Run: -1}, {Run: 4}, {Tries: 1}, {Undone: true}, {Run: 2, Undone: true}, {Run: 2, Tries: 2}, {Run: 2, Tries: 4, Slips: 4}, {Run: 2, Tries: -1, Slips: -1}, {Run: 1, Tries: 1}, {Run: 3, Tries: 1, Undone: true}, {Run: api.Run(least)}, {Run: 2, Tries: most, Slips: most}}
		if x.Sub {
			wrong = append(wrong, api.Fact{Run: 1}, api.Fact{Run: 2}, api.Fact{Run: 3}, api.Fact{Run: 2, Tries: 1, Undone: true})
		}
		for _, f := range wrong {
			m := slices.Clone(l)
			m[i] = f
			all = append(all, m)
		}
	}
	return all
}

// Facts that are not right of the plan.
func TestWrongFacts(t *testing.T) {
	p, l := formed(t, "a. Vs ( c- d+ | e. ) z>")
	if len(hold(t, p, l)) == 0 {
		t.Fatal("nothing may begin")
	}
	for _, m := range wrongFacts(p, l) {
		refuse(t, p, m)
		// Next of facts of which these, or those, are right.
		if a, b := Next(p, l, m), Next(p, m, l); len(a) != 0 || len(b) != 0 {
			t.Fatal(m, a, b)
		}
	}
}

// Plans that are not right.
func TestWrongPlans(t *testing.T) {
	const form = "a. Vs ( c- d+ | e. ) z>"
	p, l := formed(t, form)
	hold(t, p, l)
	refuse(t, api.Plan{}, nil)
	refuse(t, api.Plan{}, l)
	refuse(t, api.Plan{Items: []api.Item{}}, []api.Fact{})
	refuse(t, api.Plan{Items: make([]api.Item, 1)}, make([]api.Fact, 1))
	refuse(t, api.Plan{Items: make([]api.Item, 7)}, l)
	refuse(t, api.Plan{Items: make([]api.Item, 65)}, make([]api.Fact, 65))
	for name, turn := range map[string]func(l []api.Item){
		"a step without undo":     func(l []api.Item) { l[1].Undo = "" },
		"a step in itself":        func(l []api.Item) { l[1].In = 1 },
		"a step in what is not":   func(l []api.Item) { l[3].In = 70 },
		"a step in none":          func(l []api.Item) { l[3].In = -1 },
		"a step in no body":       func(l []api.Item) { l[3].Alt = 5 },
		"a step in a body below":  func(l []api.Item) { l[3].Alt = -1 },
		"a step that is vital":    func(l []api.Item) { l[1].Vital = true },
		"a step with bodies":      func(l []api.Item) { l[1].Alts = 1 },
		"a sub with undo":         func(l []api.Item) { l[2].Undo = "u" },
		"a sub without bodies":    func(l []api.Item) { l[2].Alts = 0 },
		"a sub of too many":       func(l []api.Item) { l[2].Alts = most },
		"a saga that is none":     func(l []api.Item) { l[0].Sub = false },
		"a saga in another one":   func(l []api.Item) { l[0].In = 0 },
		"a saga in what is not":   func(l []api.Item) { l[0].In = least },
		"leans on itself":         func(l []api.Item) { l[1].After = []int{1} },
		"leans in a circle":       func(l []api.Item) { l[1].After, l[2].After = []int{2}, []int{1} },
		"leans on what is not":    func(l []api.Item) { l[1].After = []int{7} },
		"leans on one below":      func(l []api.Item) { l[1].After = []int{-1} },
		"leans on another body's": func(l []api.Item) { l[3].After = []int{5} },
		"leans on one twice":      func(l []api.Item) { l[1].After = []int{2, 2} },
		"a name twice":            func(l []api.Item) { l[1].Name = l[6].Name },
		"a name that is none":     func(l []api.Item) { l[1].Name = "or" },
	} {
		q, _ := formed(t, form)
		turn(q.Items)
		if plan.Right(q) {
			t.Fatal(name)
		}
		refuse(t, q, l)
		if next := Next(q, l, l); len(next) != 0 {
			t.Error(name, next)
		}
	}
	refuse(t, api.Plan{Items: p.Items[1:]}, l[1:])
	refuse(t, api.Plan{Items: p.Items[:5]}, l[:5])
	refuse(t, api.Plan{Items: append(slices.Clone(p.Items), p.Items[6])}, append(slices.Clone(l), api.Fact{}))
}

// P15.1 to P15.3, P15.6: of some plans all facts at which something may change.
func TestAllFacts(t *testing.T) {
	for _, form := range []string{
		"a.",
		"a. b.",
		"a. b.<a",
		"b.<a a.",
		"a. | b.",
		"Vs ( a. )",
		"Ls ( a. ) b.<s",
		"Vs ( a. ) b.<s",
		"a. b.<a c.<b",
		"a. b. c.<a,b",
		"a. Vs<a ( c. | d. )",
		"a. Ls<a ( c. ) z.<s",
		"Vs ( c. Lr<c ( d. ) ) z.<s",
		"Ls ( c. | d. ) z.<s | y.",
		"Ls ( c. Lr ( d. | e. ) ) | y.",
		"Vs ( Lr ( a. ) b.<r ) c.<s",
	} {
		p, _ := formed(t, form)
		of := unlike
		if countSteps(p) < 3 {
			of = marks
		}
		for said := range allTexts(countSteps(p), of) {
			hold(t, p, fill(p, said))
		}
	}
	for _, form := range []string{"a. b.<a", "Ls ( a. ) b.<s"} {
		p, _ := formed(t, form)
		for said := range allTexts(2, marks) {
			holdKeys(t, p, fill(p, said))
			for other := range allTexts(2, ".+-1aw") {
				holdNext(t, p, fill(p, said), fill(p, other))
			}
		}
	}
}

// P15.1 to P15.3, P15.6: some plans, with some facts.
func TestSomePlans(t *testing.T) {
	r := rand.New(rand.NewSource(15))
	found := 0
	for range 250 {
		p := anyPlan(t, r, 1+r.Intn(63))
		for _, of := range []string{marks, ".", ".+", "+++.", ".-", "-", "-w", "+-", "+-w", "-.", "+++++-", "wwwwww+-123"} {
			found += len(hold(t, p, fill(p, anyText(r, countSteps(p), of))))
		}
	}
	if found < 1000 {
		t.Error(found)
	}
	for range 60 {
		p := anyPlan(t, r, 1+r.Intn(8))
		l, m := fill(p, anyText(r, countSteps(p), unlike)), fill(p, anyText(r, countSteps(p), ".+-w"))
		holdKeys(t, p, m)
		holdNext(t, p, l, m)
		holdNext(t, p, m, l)
	}
}

// Sagas within sagas as deep as a plan may have them, and as many items.
func TestMost(t *testing.T) {
	mayBe(t, []struct{ form, want string }{
		{"Va ( Vb ( Vc ( Vd ( Ve ( f. ) ) ) ) )", "f"},
		{"Va ( Vb ( Vc ( Vd ( Ve ( f- ) ) ) ) )", ""},
		{"Va ( Vb ( Vc ( Vd ( Ve ( f- ) ) ) ) ) z+", "z~0"},
		{"z- Va ( Vb ( Vc ( Vd ( Ve ( f+ ) ) ) ) )", "f~0"},
		{"Va ( Vb ( Vc ( Vd ( Ve ( f+ ) ) ) ) ) z+<a y-", "z~0"},
		{"Va ( Vb ( Vc ( Vd ( Ve ( f+ ) ) ) ) ) z.<a y-", "f~0"},
		{"Va ( Vb ( Vc ( Vd ( Ve ( f+ ) ) ) ) ) z.<a", "z"},
		{"La ( Lb ( Lc ( Ld ( Le ( f- ) ) ) ) ) z.<a", "z"},
		{"z> Va<z ( Vb ( Vc ( Vd ( Ve ( f. ) ) ) ) )", ""},
	})
	var bodies [4][]string
	for i := range 63 {
		bodies[i/16] = append(bodies[i/16], "n"+strconv.Itoa(i+1))
	}
	// form has in each body steps of one mark, the others' marks as they are told.
	form := func(all [4]string, last string) string {
		var text []string
		for alt, names := range bodies {
			var pieces []string
			for _, name := range names {
				pieces = append(pieces, name+all[alt])
			}
			text = append(text, strings.Join(pieces, " "))
		}
		joined := strings.Join(text, " | ")
		return joined[:len(joined)-1] + last
	}
	join := func(names []string, with string) string { return strings.Join(names, with+" ") + with }
	mayBe(t, []struct{ form, want string }{
		{form([4]string{".", ".", ".", "."}, "."), join(bodies[0], "")},
		{form([4]string{"-", ".", ".", "."}, "."), join(bodies[1], "")},
		{form([4]string{"-", "-", "-", "."}, "."), join(bodies[3], "")},
		{form([4]string{"-", "-", "-", "+"}, "."), "n63"},
		{form([4]string{"-", "-", "-", "+"}, "-"), join(bodies[3][:14], "~0")},
		{form([4]string{"-", "-", "-", "w"}, "3"), ""},
		{form([4]string{"-", "-", "-", "-"}, "3"), "n63~3"},
		{form([4]string{"-", "-", "-", "-"}, "-"), ""},
	})
}
