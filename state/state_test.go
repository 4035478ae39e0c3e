package state

import (
	"math/rand"
	"slices"
	"strings"
	"testing"

	"argosy/api"
)

// P14.1, P14.3: a step's status, whether it is clean, and that it has no body, by each fact that may be.
func TestStep(t *testing.T) {
	for _, c := range []struct {
		f     api.Fact
		want  api.Status
		saga  api.Status
		clean bool
	}{
		{api.Fact{Run: api.RunIdle}, api.Idle, api.Idle, true},
		{api.Fact{Run: api.RunBegun}, api.Running, api.Running, false},
		{api.Fact{Run: api.RunFailed}, api.Failed, api.Failed, true},
		{api.Fact{Run: api.RunOk}, api.Done, api.Done, false},
		{api.Fact{Run: api.RunOk, Tries: 1}, api.Undoing, api.Running, false},
		{api.Fact{Run: api.RunOk, Tries: 1, Slips: 1}, api.Undoing, api.Running, false},
		{api.Fact{Run: api.RunOk, Tries: 2, Slips: 1}, api.Undoing, api.Running, false},
		{api.Fact{Run: api.RunOk, Tries: 2, Slips: 2}, api.Undoing, api.Running, false},
		{api.Fact{Run: api.RunOk, Tries: 3, Slips: 2}, api.Undoing, api.Running, false},
		{api.Fact{Run: api.RunOk, Tries: 3, Slips: 3}, api.Undoing, api.Running, false},
		{api.Fact{Run: api.RunOk, Tries: 4, Slips: 3}, api.Undoing, api.Running, false},
		{api.Fact{Run: api.RunOk, Tries: 1, Slips: 0, Undone: true}, api.Undone, api.Running, true},
		{api.Fact{Run: api.RunOk, Tries: 2, Slips: 1, Undone: true}, api.Undone, api.Running, true},
		{api.Fact{Run: api.RunOk, Tries: 3, Slips: 2, Undone: true}, api.Undone, api.Running, true},
		{api.Fact{Run: api.RunOk, Tries: 4, Slips: 3, Undone: true}, api.Undone, api.Running, true},
	} {
		p, l := formed(t, ".")
		l[1] = c.f
		s, e := All(p, l)
		if e != api.OK || !slices.Equal(s, []api.Status{c.saga, c.want}) {
			t.Errorf("%v: %v, %d", c.f, s, int(e))
		}
		if Clean(p, l, 1) != c.clean || Clean(p, l, 0) != c.clean || At(p, l, 1) != -1 || Falling(p, l, 1, 0) {
			t.Errorf("%v: %v, %v, %d, %v", c.f, Clean(p, l, 1), Clean(p, l, 0), At(p, l, 1), Falling(p, l, 1, 0))
		}
		see(t, p, l)
		ask(t, p, l)
	}
}

// P14.1: sagas' statuses, form by form.
func TestForms(t *testing.T) {
	for _, c := range []struct{ form, want string }{
		// Bodies, one behind the other.
		{".|.", "III"},
		{">|.", "RRI"},
		{"+|.", "DDI"},
		{"-|.", "RFI"},
		{"-|>", "RFR"},
		{"-|+", "DFD"},
		{"-|-", "FFF"},
		{".|-", "RIF"},
		{".|+", "RID"},
		{"+|+", "DDD"},
		{"+|-", "DDF"},
		{"-|-|-|-", "FFFFF"},
		{"-|-|-|+", "DFFFD"},
		{"-|-|-|.", "RFFFI"},
		{"-|.|-|-", "RFIFF"},
		{"-|-|.|+", "RFFID"},
		// Each body falls, and all, or not all, is clean.
		{"-+|.", "RFDI"},
		{"-+|+", "RFDD"},
		{"-~|+", "RFUD"},
		{"-u|+", "DFND"},
		{"->|-", "RFRF"},
		{"-+|-", "RFDF"},
		{"-~|-", "RFUF"},
		{"-s|-", "RFUF"},
		{"-3|-", "RFUF"},
		{"-u|-", "FFNF"},
		{"-z|-", "FFNF"},
		{"-.|-", "FFIF"},
		{"-u|-+", "RFNFD"},
		{"-u|-u", "FFNFN"},
		// A body of which not all is done.
		{"++", "DDD"},
		{"+.", "RDI"},
		{"+>", "RDR"},
		{"+u", "RDN"},
		{"+~", "RDU"},
		{"u", "RN"},
		{"~", "RU"},
		{"3", "RU"},
		// A saga that is touched by a step of a saga in it alone.
		{"V(.)", "III"},
		{"V(>)", "RRR"},
		{"V(V(>))", "RRRR"},
		{"V(L(>).)", "RRRRI"},
		{".|V(.|L(>))", "RIRIRR"},
		{"V(.)V(V(.)V(>))", "RIIRIIRR"},
		// A body falls by a vital sub-saga that is spent, and not by one that is not vital.
		{"V(-)", "FFF"},
		{"V(-)+", "RFFD"},
		{"V(-)u", "FFFN"},
		{"V(-)|+", "DFFD"},
		{"V(-|.)", "RRFI"},
		{"V(-+)", "RRFD"},
		{"V(V(V(-)))", "FFFFF"},
		{"V(L(V(-)))", "DDFFF"},
		{"L(-)|.", "DFFI"},
		{"L(-).", "RFFI"},
		{"L(-)-", "FFFF"},
		// A body is whole with a sub-saga in it that is not vital, and is spent.
		{"L(-)", "DFF"},
		{"L(-)+", "DFFD"},
		{"L(-)L(-)", "DFFFF"},
		{"L(-u|-)+", "DFFNFD"},
		{"L(-+|-)+", "RRFDFD"},
		{"L(-|.)+", "RRFID"},
		{"L(.)+", "RIID"},
		{"L(u)+", "RRND"},
		{"L(+)+", "DDDD"},
		{"V(+)+", "DDDD"},
		{"-|L(-)", "DFFF"},
		{"V(L(-))", "DDFF"},
		// A sub-saga that is halted, and done.
		{"-L(+)", "RFDD"},
		{"-V(+)", "RFDD"},
		{"-V(L(-))", "FFDFF"},
		// One that is halted and spent.
		{"-L(-)", "FFFF"},
		{"-V(-u)", "FFFFN"},
		// One that is halted, and clean, or not.
		{"-L(.)", "FFII"},
		{"-L(u)", "FFNN"},
		{"-L(>)", "RFUR"},
		{"-L(~)", "RFUU"},
		{"-L(s)", "RFUU"},
		{"-L(+.)", "RFUDI"},
		{"-L(u.)", "FFNNI"},
		{"-L(-|.)", "FFNFI"},
		{"-L(-+|.)", "RFUFDI"},
		{"-L(-u|u)", "FFNFNN"},
		// Halted by the saga in which it stands.
		{"-V(L(u))", "FFNNN"},
		{"-V(L(>))", "RFUUR"},
		{"-V(L(+)>)", "RFUDDR"},
		{"-V(L(u)>)", "RFUNNR"},
		{"-V(L(-|.)u)", "FFNNFIN"},
		{"V(-L(>))", "RRFUR"},
		{"V(-L(u)|.)", "RRFNNI"},
		{"V(.|-L(>))", "RRIFUR"},
		{"V(-|L(>))", "RRFRR"},
		{"V(-)V(>)", "RFFUR"},
		{"V(-)V(u)", "FFFNN"},
		{"L(-)V(>)", "RFFRR"},
		{"-|V(>)", "RFRR"},
		{"V(>)|-", "RRRF"},
	} {
		p, l := formed(t, c.form)
		s, e := All(p, l)
		if e != api.OK || !slices.Equal(s, statuses(c.want)) {
			t.Errorf("%s: %v, %d; want %v", c.form, s, int(e), statuses(c.want))
			continue
		}
		b, _ := See(p, l)
		if !slices.Equal(b.All(), s) {
			t.Errorf("%s: %v", c.form, b.All())
		}
		see(t, p, l)
		ask(t, p, l)
	}
}

// P14.2: no Run above 0; and each status that the saga 0 may have.
func TestVerdict(t *testing.T) {
	for _, c := range []struct {
		form         string
		status, want api.Status
	}{
		{".", api.Idle, api.Running},
		{".|V(.L(.)|.)", api.Idle, api.Running},
		{">", api.Running, api.Running},
		{"-+", api.Running, api.Running},
		{"-~", api.Running, api.Running},
		{"u", api.Running, api.Running},
		{"-|.", api.Running, api.Running},
		{"+", api.Done, api.Done},
		{"-u|+", api.Done, api.Done},
		{"-", api.Failed, api.Failed},
		{"-u|V(-)", api.Failed, api.Failed},
	} {
		p, l := formed(t, c.form)
		s, _ := All(p, l)
		b := see(t, p, l)
		if len(s) == 0 || s[0] != c.status || Verdict(p, l) != c.want || b.Verdict() != c.want {
			t.Errorf("%s: %v, %d, %d", c.form, s, int(Verdict(p, l)), int(b.Verdict()))
		}
	}
}

// P14.3: a saga's body: the first one that does not fall, or is not all clean, and the last one, if there is none.
func TestAt(t *testing.T) {
	for _, c := range []struct {
		form    string
		s, want int
	}{
		{".", 0, 0},
		{"-", 0, 0},
		{"+", 0, 0},
		{".|.|.|.", 0, 0},
		{"-|.|.|.", 0, 1},
		{"-|-|.|.", 0, 2},
		{"-|-|-|.", 0, 3},
		{"-|-|-|-", 0, 3},
		{"-|-|-|>", 0, 3},
		{"-|-|-|+", 0, 3},
		{"-|-|-|-+", 0, 3},
		{".|-|-|-", 0, 0},
		{"-|+|-|-", 0, 1},
		{"-+|-|-|-", 0, 0},
		{"->|-|-|-", 0, 0},
		{"-~|-|-|-", 0, 0},
		{"-u|-s|-|-", 0, 1},
		{"-u|-u|-z.|-", 0, 3},
		{"u|.", 0, 0},
		{"-u|u|.", 0, 1},
		{"-L(+)|.", 0, 0},
		{"-L(u)|.", 0, 1},
		{"V(-)|.", 0, 1},
		{"V(-)+|.", 0, 0},
		{"L(-)|.", 0, 0},
		{"L(-)|.", 1, 0},
		{"V(-|.)", 1, 1},
		{"V(-|-)", 1, 1},
		{"V(-+|-)", 1, 0},
		{"V(.|V(-|.|.))", 3, 1},
		// That a saga is halted lets none of its bodies be the next one.
		{"-L(u|.)", 2, 0},
		{"-L(.|.)", 2, 0},
		{"-L(-|.|.)", 2, 1},
		// Items that are no sagas, and others that there are not.
		{"+V(-|.)", 1, -1},
		{"+V(-|.)", 3, -1},
		{"+V(-|.)", 4, -1},
		{"+V(-|.)", 5, -1},
		{"+V(-|.)", 63, -1},
		{"+V(-|.)", 64, -1},
		{"+V(-|.)", most, -1},
		{"+V(-|.)", -1, -1},
		{"+V(-|.)", least, -1},
	} {
		p, l := formed(t, c.form)
		if b := see(t, p, l); At(p, l, c.s) != c.want || b.At(c.s) != c.want {
			t.Errorf("%s, %d: %d, %d; want %d", c.form, c.s, At(p, l, c.s), b.At(c.s), c.want)
		}
	}
}

// P14.3: which bodies fall, as a text of a saga's bodies, in order.
func TestFalling(t *testing.T) {
	for _, c := range []struct {
		form string
		s    int
		want string
	}{
		{".", 0, "."},
		{">|u|+", 0, "..."},
		{"-|.|-+|V(-)", 0, "x.xx"},
		{"V(-)", 0, "x"},
		{"V(-)", 1, "x"},
		{"V(-|.)", 0, "."},
		{"V(-|.)", 1, "x."},
		{"V(-+)", 0, "."},
		{"V(-+)", 1, "x"},
		{"V(-)V(-+)", 0, "x"},
		{"L(-)", 0, "."},
		{"L(-)", 1, "x"},
		{"L(V(-))", 0, "."},
		{"V(L(-))", 1, "."},
		// Of a saga that is halted each body that it has.
		{"-L(.|.|.)", 2, "xxx"},
		{"-L(+)", 2, "x"},
		{"-V(.V(.|.))", 4, "xx"},
		{"-V(L(u|.)|.)", 2, "xx"},
		{"-V(L(u|.)|.)", 3, "xx"},
		{"V(-)L(.|.)", 3, "xx"},
		{"L(-)L(.|.)", 3, ".."},
		{"-|L(.|.)", 2, ".."},
		{".|-L(.|.)", 3, "xx"},
		{"V(-L(.)|L(.))", 3, "x"},
		{"V(-L(.)|L(.))", 5, "."},
		{"V(-L(.)|L(.))", 1, "x."},
		// A step has none, and so has what is no item.
		{"-", 1, ""},
		{"-L(-)", 3, ""},
		{"-L(-)", 4, ""},
		{"-L(-)", 64, ""},
		{"-L(-)", most, ""},
		{"-L(-)", -1, ""},
		{"-L(-)", least, ""},
	} {
		p, l := formed(t, c.form)
		b := see(t, p, l)
		for _, alt := range append(others(len(c.want)), 0, 1, 2, 3, 4) {
			want := alt >= 0 && alt < len(c.want) && c.want[alt] == 'x'
			if Falling(p, l, c.s, alt) != want || b.Falling(c.s, alt) != want {
				t.Errorf("%s, %d, %d: %v, %v; want %v", c.form, c.s, alt, Falling(p, l, c.s, alt), b.Falling(c.s, alt), want)
			}
		}
	}
}

// P14.3: which items are clean, as a text of items, in order.
func TestClean(t *testing.T) {
	for _, c := range []struct{ form, want string }{
		{".", "cc"},
		{">", "  "},
		{"+", "  "},
		{"-", "cc"},
		{"u", "cc"},
		{"z", "cc"},
		{"~", "  "},
		{"s", "  "},
		{"3", "  "},
		{"4", "  "},
		{".-uz", "ccccc"},
		{".-uz|+", " cccc "},
		{"+|.-uz", "  cccc"},
		{"V(.)", "ccc"},
		{"V(.)>", " cc "},
		{"L(+)", "   "},
		{"L(.|.|-|>)", "  ccc "},
		{"L(.V(-|u))+", " ccccc "},
		{"L(.V(-|~))u", "  c c c"},
	} {
		p, l := formed(t, c.form)
		b := see(t, p, l)
		for _, i := range append(others(len(c.want)), 0, 1, 2, 3, 4, 5, 6) {
			want := i >= 0 && i < len(c.want) && c.want[i] == 'c'
			if Clean(p, l, i) != want || b.Clean(i) != want {
				t.Errorf("%s, %d: %v, %v; want %v", c.form, i, Clean(p, l, i), b.Clean(i), want)
			}
		}
	}
}

// The example of the chapter.
func TestExample(t *testing.T) {
	for _, c := range []struct {
		form, want string
		verdict    api.Status
		at         int
	}{
		{".|.", "III", api.Running, 0},
		{"-|.", "RFI", api.Running, 1},
		{"-|-", "FFF", api.Failed, 1},
		{"-|+", "DFD", api.Done, 1},
	} {
		p, l := formed(t, c.form)
		s, e := All(p, l)
		if e != api.OK || !slices.Equal(s, statuses(c.want)) || Verdict(p, l) != c.verdict || At(p, l, 0) != c.at {
			t.Errorf("%s: %v, %d, %d, %d", c.form, s, int(e), int(Verdict(p, l)), At(p, l, 0))
		}
	}
}

// P14.1 to P14.7: of some plans all facts at which something may change.
func TestAllFacts(t *testing.T) {
	for _, form := range []string{
		".",
		"..",
		".|.",
		"V(.)",
		"L(.)",
		".V(.|.)",
		"V(.L(.)).|.",
		"V(.|V(.))L(.)",
		"L(.L(.|.))|.",
		"V(L(V(L(V(.)))))",
		"L(.L(.L(.L(.)))).",
	} {
		p, _ := formed(t, form)
		of := unlike
		if countSteps(p) < 3 {
			of = letters
		}
		for text := range allTexts(countSteps(p), of) {
			see(t, p, fill(p, text))
		}
	}
}

// P14.1 to P14.7: some plans, with some facts.
func TestSomePlans(t *testing.T) {
	r := rand.New(rand.NewSource(14))
	for range 300 {
		p := anyPlan(t, r, 1+r.Intn(63))
		for _, of := range []string{letters, ".-", "-", "-u", "+-", "+-u", "+", "-u.", ".-----", "+++++-"} {
			see(t, p, fill(p, anyText(r, countSteps(p), of)))
		}
	}
	for range 60 {
		p := anyPlan(t, r, 1+r.Intn(9))
		ask(t, p, fill(p, anyText(r, countSteps(p), letters)))
	}
}

// Sagas within sagas, as deep as a plan may have them: the saga, and five more in it.
func TestDeep(t *testing.T) {
	for _, c := range []struct{ form, want string }{
		{"V(V(V(V(V(.)))))", "IIIIIII"},
		{"V(V(V(V(V(>)))))", "RRRRRRR"},
		{"V(V(V(V(V(+)))))", "DDDDDDD"},
		{"V(V(V(V(V(-)))))", "FFFFFFF"},
		{"V(V(V(V(V(-|.)))))", "RRRRRRFI"},
		{"V(V(V(V(V(-|-)))))", "FFFFFFFF"},
		{"L(L(L(L(L(-)))))", "DDDDDFF"},
		{"V(V(L(V(V(-)))))", "DDDFFFF"},
		{"V(V(V(V(V(-))|.)))", "RRRRFFFI"},
		{"V(V(V(V(V(-)+)|.)))", "RRRRRFFDI"},
		{"-V(V(V(V(V(>)))))", "RFUUUUUR"},
		{"-V(V(V(V(V(u)))))", "FFNNNNNN"},
		{"-V(V(V(V(V(-|.)))))", "FFNNNNNFI"},
		{"-V(V(V(V(V(+)))))", "RFDDDDDD"},
		{"-V(V(V(V(V(-)))))", "FFFFFFFF"},
	} {
		p, l := formed(t, c.form)
		if s, e := All(p, l); e != api.OK || !slices.Equal(s, statuses(c.want)) {
			t.Errorf("%s: %v, %d; want %v", c.form, s, int(e), statuses(c.want))
		}
		see(t, p, l)
		ask(t, p, l)
	}
}

// Sagas, and steps, as many as a plan may have.
func TestMany(t *testing.T) {
	repeat := strings.Repeat
	for _, c := range []struct{ form, want string }{
		// 63 steps.
		{repeat("+", 16) + repeat("|"+repeat(".", 16), 2) + "|" + repeat(".", 15), "D" + repeat("D", 16) + repeat("I", 47)},
		{repeat("-", 16) + repeat("|"+repeat("-", 16), 2) + "|" + repeat("-", 15), "F" + repeat("F", 63)},
		{repeat("-", 16) + repeat("|"+repeat("-", 16), 2) + "|" + repeat("+", 15), "D" + repeat("F", 48) + repeat("D", 15)},
		{repeat("-", 16) + repeat("|"+repeat("-", 16), 2) + "|" + repeat("-", 14) + "~", "R" + repeat("F", 62) + "U"},
		// 31 sagas of a step each, in the saga, and one more step.
		{repeat("V(+)", 15) + "|" + repeat("L(-)", 16) + "|.", "D" + repeat("DD", 15) + repeat("FF", 16) + "I"},
		{repeat("V(-)", 15) + "|" + repeat("L(-)", 16), "D" + repeat("FF", 31)},
		{repeat("V(-)", 15) + "|" + repeat("L(-)", 15) + "V(-)", "F" + repeat("FF", 31)},
		{"V(-)" + repeat("V(>)", 14) + "|" + repeat("L(.)", 16), "RFF" + repeat("UR", 14) + repeat("II", 16)},
		{"V(-)" + repeat("V(u)", 14) + "|" + repeat("L(>)", 16), "RFF" + repeat("NN", 14) + repeat("RR", 16)},
		// Ten chains of five sagas, with a step each.
		{repeat("V(V(V(V(V(-)))))", 10), "F" + repeat("FFFFFF", 10)},
		{repeat("L(L(L(L(L(-)))))", 10) + "+++", "D" + repeat("DDDDFF", 10) + "DDD"},
		{repeat("V(V(V(V(V(+)))))", 9) + "V(V(V(V(V(-)))))", "R" + repeat("DDDDDD", 9) + "FFFFFF"},
		{repeat("V(V(V(V(V(u)))))", 9) + "V(V(V(V(V(-)))))|>", "R" + repeat("NNNNNN", 9) + "FFFFFFR"},
		// Bodies as many as a saga may have, in each saga of a chain.
		{repeat("-|-|-|V(", 5) + "-|-|-|-" + repeat(")", 5), "F" + repeat("FFFF", 5) + "FFFF"},
		{repeat("-|-|-|V(", 5) + "-|-|-|." + repeat(")", 5), "R" + repeat("FFFR", 5) + "FFFI"},
		{repeat("-|-|-|L(", 5) + "-|-|-|-" + repeat(")", 5), "D" + repeat("FFFD", 4) + "FFFF" + "FFFF"},
	} {
		p, l := formed(t, c.form)
		if s, e := All(p, l); e != api.OK || !slices.Equal(s, statuses(c.want)) {
			t.Errorf("%s: %v, %d; want %v", c.form, s, int(e), statuses(c.want))
		}
		see(t, p, l)
	}
	p, l := formed(t, repeat("V(V(V(V(V(-)))))", 10)+"+++")
	if len(p.Items) != api.MaxItems || At(p, l, 63) != -1 || At(p, l, 64) != -1 || At(p, l, 55) != 0 || Clean(p, l, 63) || Clean(p, l, 64) || !Clean(p, l, 60) || !Falling(p, l, 59, 0) {
		t.Error(len(p.Items), At(p, l, 63), At(p, l, 64), At(p, l, 55), Clean(p, l, 63), Clean(p, l, 64))
	}
}

// P14.4: a saga is not both Done and Failed: what lets it be one keeps it from being the other.
func TestOne(t *testing.T) {
	for form, want := range map[string]api.Status{
		"V(L(-)|-)":   api.Done,
		"V(L(-)-|-)":  api.Failed,
		"V(L(-)-|+)":  api.Done,
		"V(L(-)|.)":   api.Done,
		"V(L(-L(-)))": api.Done,
		"V(V(-L(-)))": api.Failed,
	} {
		p, l := formed(t, form)
		s := see(t, p, l).All()
		if s[1] != want || s[1] == api.Failed && !Clean(p, l, 1) {
			t.Errorf("%s: %v, %v", form, s, Clean(p, l, 1))
		}
	}
}

// P14.5: who stands in a saga that failed is clean, and a vital saga that failed lets its body fall, and so on upward.
func TestParents(t *testing.T) {
	p, l := formed(t, "uV(uV(-L(u)|-u)|V(-)u)u")
	b := see(t, p, l)
	for i := range p.Items {
		if !b.Clean(i) {
			t.Error(i)
		}
	}
	if b.Verdict() != api.Failed || !b.Falling(0, 0) || !b.Falling(2, 0) || !b.Falling(2, 1) || !b.Falling(4, 0) {
		t.Error(b.All())
	}
	// One step that is not undone lets none of the sagas in which it stands have failed.
	p, l = formed(t, "uV(uV(-L(+)|-u)|V(-)u)u")
	if b = see(t, p, l); b.Falling(0, 0) || b.Falling(2, 0) || !b.Falling(2, 1) || b.Verdict() != api.Running {
		t.Error(b.All())
	}
}

// P14.6: with no Run above 0 all is Idle, and clean, and each saga is at its first body.
func TestIdle(t *testing.T) {
	r := rand.New(rand.NewSource(6))
	for range 100 {
		p := anyPlan(t, r, 1+r.Intn(63))
		l := make([]api.Fact, len(p.Items))
		s, e := All(p, l)
		if e != api.OK || !slices.Equal(s, make([]api.Status, len(p.Items))) || Verdict(p, l) != api.Running {
			t.Fatal(s, int(e), int(Verdict(p, l)))
		}
		b := see(t, p, l)
		for i, x := range p.Items {
			if x.Sub && b.At(i) != 0 || !x.Sub && b.At(i) != -1 || !b.Clean(i) || b.Falling(i, 0) {
				t.Fatal(i, x)
			}
		}
	}
}

// Facts that are not right of the plan.
func TestWrongFacts(t *testing.T) {
	p, l := formed(t, "+V(-|.)")
	see(t, p, l)
	refuse(t, p, nil)
	refuse(t, p, []api.Fact{})
	refuse(t, p, l[:4])
	refuse(t, p, l[1:])
	refuse(t, p, append(slices.Clone(l), api.Fact{}))
	refuse(t, p, make([]api.Fact, 64))
	refuse(t, p, make([]api.Fact, 1000))
	for i := range l {
		wrong := []api.Fact{{Run: -1}, {Run: 4}, {Tries: 1}, {Undone: true}, {Run: 2, Undone: true}, {Run: 2, Tries: 2}, {Run: 2, Tries: 4, Slips: 4}, {Run: 1, Tries: 1}, {Run: 3, Tries: 1, Undone: true}, {Run: api.Run(least)}, {Run: 2, Tries: most, Slips: most}}
		if p.Items[i].Sub {
			wrong = append(wrong, api.Fact{Run: 1}, api.Fact{Run: 2}, api.Fact{Run: 3}, api.Fact{Run: 2, Tries: 1, Undone: true})
		}
		for _, f := range wrong {
			m := slices.Clone(l)
			m[i] = f
			refuse(t, p, m)
		}
	}
}

// Plans that are not right.
func TestWrongPlans(t *testing.T) {
	p, l := formed(t, "+V(-|.)")
	refuse(t, api.Plan{}, nil)
	refuse(t, api.Plan{}, l)
	refuse(t, api.Plan{Items: make([]api.Item, 5)}, make([]api.Fact, 5))
	refuse(t, api.Plan{Items: make([]api.Item, 65)}, make([]api.Fact, 65))
	refuse(t, api.Plan{Items: p.Items[:1]}, l[:1])
	refuse(t, api.Plan{Items: p.Items[1:]}, l[1:])
	refuse(t, api.Plan{Items: p.Items[:4]}, l[:4])
	refuse(t, api.Plan{Items: append(slices.Clone(p.Items), p.Items[1])}, append(slices.Clone(l), l[1]))
	for name, turn := range map[string]func(l []api.Item){
		"in what is none":      func(l []api.Item) { l[1].In = 9 },
		"in nothing":           func(l []api.Item) { l[1].In = -1 },
		"in itself":            func(l []api.Item) { l[2].In = 2 },
		"in one behind it":     func(l []api.Item) { l[1].In = 2 },
		"in a step":            func(l []api.Item) { l[3].In = 1 },
		"in no body":           func(l []api.Item) { l[3].Alt = -1 },
		"in a fifth body":      func(l []api.Item) { l[3].Alt = 4 },
		"five bodies":          func(l []api.Item) { l[2].Alts = 5 },
		"no bodies":            func(l []api.Item) { l[2].Alts = 0 },
		"less than no bodies":  func(l []api.Item) { l[2].Alts = -1 },
		"bodies without end":   func(l []api.Item) { l[0].Alts = most },
		"a step of bodies":     func(l []api.Item) { l[1].Alts = 1 },
		"a step that is vital": func(l []api.Item) { l[1].Vital = true },
		"a step with no undo":  func(l []api.Item) { l[1].Undo = "" },
		"a saga that is none":  func(l []api.Item) { l[0].Sub = false },
		"a saga, not vital":    func(l []api.Item) { l[0].Vital = false },
		"two of one name":      func(l []api.Item) { l[4].Name = l[1].Name },
		"a circle":             func(l []api.Item) { l[1].After, l[2].After = []int{2}, []int{1} },
	} {
		m := slices.Clone(p.Items)
		turn(m)
		if t.Run(name, func(t *testing.T) { refuse(t, api.Plan{Items: m}, l) }); t.Failed() {
			return
		}
	}
	see(t, p, l)
}

// P14.7: no board, and boards that See did not make.
func TestNoBoard(t *testing.T) {
	var none *Board
	for _, b := range []*Board{none, {}, new(Board)} {
		ofBoard(b).holdZero(t)
	}
}

// P14.7: a board stays as it was, whatever becomes of the plan and the facts.
func TestBoardStays(t *testing.T) {
	p, l := formed(t, "+V(-L(u)|-~)L(-)|V(.)")
	b := see(t, p, l)
	all := tree(t, p, l)
	other, facts := formed(t, "-V(-)|+")
	spoil(l, api.Fact{Run: api.RunFailed})
	for i := range p.Items {
		p.Items[i].Sub = !p.Items[i].Sub
		p.Items[i].Vital = !p.Items[i].Vital
		p.Items[i].In, p.Items[i].Alt, p.Items[i].Alts = 0, 3, 4
	}
	spoil(p.Items, api.Item{})
	for range 2 {
		ofBoard(b).hold(t, all)
		ofBoard(b).holdOthers(t, all)
		// Nor does another board turn it.
		see(t, other, facts)
	}
}

// P14.7: what a board answers hangs on nothing that was asked of it ahead.
func TestBoardAskedAgain(t *testing.T) {
	r := rand.New(rand.NewSource(7))
	p, l := formed(t, "+V(-L(u)|-~)L(-)|V(.)")
	b := see(t, p, l)
	all := tree(t, p, l)
	for range 200 {
		i, alt := r.Intn(len(l)+2)-1, r.Intn(6)-1
		switch r.Intn(5) {
		case 0:
			b.All()
		case 1:
			b.Verdict()
		case 2:
			b.At(i)
		case 3:
			b.Falling(i, alt)
		case 4:
			b.Clean(i)
		}
		ofBoard(b).hold(t, all)
	}
}

// spoil writes over all the room of a list.
func spoil[E any](l []E, with E) {
	l = l[:cap(l)]
	for i := range l {
		l[i] = with
	}
}

// What is handed in stays as it was, what stands behind its end, too.
func TestArgumentsStay(t *testing.T) {
	p, l := formed(t, "+V(-L(u)|-~)L(-)|V(.)")
	behind := api.Fact{Run: 9, Tries: 9, Slips: 9, Undone: true}
	room := append(slices.Clone(l), behind, behind)
	kept := slices.Clone(room)
	items := append(slices.Clone(p.Items), api.Item{Name: "behind", In: 7, After: []int{9}})
	keptItems := slices.Clone(items)
	q, m := api.Plan{Items: items[:len(l)]}, room[:len(l)]
	ask(t, q, m)
	see(t, q, m)
	if !slices.Equal(room, kept) || !slices.EqualFunc(items, keptItems, sameItem) {
		t.Error(room, items)
	}
	refuse(t, q, room)
	refuse(t, api.Plan{Items: items}, room[:len(items)])
	if !slices.Equal(room, kept) || !slices.EqualFunc(items, keptItems, sameItem) {
		t.Error(room, items)
	}
}

func sameItem(a, b api.Item) bool {
	return a.Name == b.Name && a.Undo == b.Undo && a.Sub == b.Sub && a.Vital == b.Vital && a.Alts == b.Alts && a.In == b.In && a.Alt == b.Alt && slices.Equal(a.After, b.After)
}

// What is told is new memory: another answer, and the board, stay when it is written over.
func TestAnswersAreNew(t *testing.T) {
	p, l := formed(t, "+V(-L(u)|-~)L(-)|V(.)")
	b := see(t, p, l)
	all := tree(t, p, l)
	first, _ := All(p, l)
	want := slices.Clone(first)
	of := b.All()
	for range 3 {
		s, _ := All(p, l)
		spoil(s, api.Status(9))
		spoil(b.All(), api.Status(9))
		if !slices.Equal(first, want) || !slices.Equal(of, want) {
			t.Fatal(first, of)
		}
		ofBoard(b).hold(t, all)
	}
}

// What leans on what is nothing to how items stand.
func TestLeanings(t *testing.T) {
	free, l := formed(t, "+V(-.|~)L(u)")
	leans := made(t, "saga t { ( step n1 undo u after n2 , n6 ; vital sub n2 { ( step n3 undo u after n4 ; step n4 undo u ; ) or ( step n5 undo u ; ) } loose sub n6 after n2 { ( step n7 undo u ; ) } ) }")
	a, b := see(t, free, l).All(), see(t, leans, l).All()
	if !slices.Equal(a, b) {
		t.Error(a, b)
	}
}
