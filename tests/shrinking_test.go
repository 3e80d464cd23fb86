package tests

import (
	"math"
	"math/rand"
	"runtime"
	"slices"
	"strings"
	"sync"
	"testing"
	"time"

	"loop.example/flatfunctions/impl"
)

// A shrinking is how one part of a text can shrink: its index, the name of the rule, and the whole text then.
type shrinking struct {
	index      int
	rule, left string
}

// smallerByText returns what a part becomes and the name of the rule, both empty if no rule fits.
func smallerByText(part string) (made, rule string) {
	p := pieceOf(part)
	switch p.front {
	case "+", "-", "*":
		if isNumberText(p.kids[0]) && isNumberText(p.kids[1]) {
			return written(runByText(part, nil).value), "number"
		}
	case "?":
		if p.kids[0] == "0" {
			return p.kids[1], "asked"
		}
		if isNumberText(p.kids[0]) {
			return p.kids[2], "asked"
		}
	case "(":
		if fun := pieceOf(p.kids[0]); fun.front == `\` {
			return "=" + fun.binds + p.kids[1] + fun.kids[0], "call"
		}
	case "=":
		return smallerLetByText(p.binds, p.kids[0], p.kids[1])
	}
	return "", ""
}

// smallerLetByText is that of a let. A value of one byte is a number less than 10 or a name.
func smallerLetByText(name, value, body string) (made, rule string) {
	switch {
	case body == name:
		return value, "whole"
	case len(value) == 1:
		if made, ok := putByText(body, name, value); ok {
			return made, "put"
		}
	case isValueText(value) && !strings.Contains(freeOf(body), name):
		return body, "unused"
	}
	return "", ""
}

// shrinkingsByText returns how all parts of a text can shrink that can, in order.
func shrinkingsByText(text string) []shrinking {
	var list []shrinking
	parts := spottedIn(text)
	for index, p := range parts {
		if made, rule := smallerByText(p.text()); rule != "" {
			list = append(list, shrinking{index, rule, textWith(parts, 0, index, made)})
		}
	}
	return list
}

// leftByText returns what is left of a text by picks, and how often a part has shrunk.
func leftByText(text string, picks []int) (left string, times int) {
	for {
		list := shrinkingsByText(text)
		if len(list) == 0 {
			return text, times
		}
		pick := 0
		if times < len(picks) {
			pick = picks[times] % len(list)
		}
		text = list[pick].left
		times++
	}
}

// checkShrinkings checks what the chapter tells of the parts of a term, by the oracle, and returns what this tells.
func checkShrinkings(t *testing.T, text string) []shrinking {
	t.Helper()
	list := shrinkingsByText(text)
	byIndex := map[int]shrinking{}
	var indices []int
	for _, s := range list {
		byIndex[s.index] = s
		indices = append(indices, s.index)
	}
	checkList(t, "ShrinkableIn", text, impl.ShrinkableIn, indices)
	for _, index := range indicesAround(partsIn(text)) {
		s, can := byIndex[index]
		if rule, ok := impl.RuleAt(text, index); rule != s.rule || ok != can {
			t.Errorf("RuleAt(%q, %d) = %q, %v, want %q", text, index, rule, ok, s.rule)
		}
		if left, ok := impl.ShrinkAt(text, index); left != s.left || ok != can {
			t.Errorf("ShrinkAt(%q, %d) = %q, %v, want %q", text, index, left, ok, s.left)
		}
	}
	if impl.IsShrunk(text) != (len(list) == 0) {
		t.Errorf("IsShrunk(%q) = %v", text, impl.IsShrunk(text))
	}
	checkSmaller(t, text)
	return list
}

// checkSmaller checks that each part that can shrink makes a smaller term, in which no other names stand free.
func checkSmaller(t *testing.T, text string) {
	t.Helper()
	fewer := map[string]int{"number": 2, "call": 1, "whole": 2, "put": 2}
	indices, _ := impl.ShrinkableIn(text)
	for _, index := range indices {
		rule, one := impl.RuleAt(text, index)
		left, two := impl.ShrinkAt(text, index)
		less := impl.SizeOf(text) - impl.SizeOf(left)
		if !one || !two || !impl.TermValid(left) || less <= 0 || fewer[rule] > 0 && less != fewer[rule] || len(left) > len(text) {
			t.Errorf("RuleAt(%q, %d) = %q, %v, and ShrinkAt = %q, %v", text, index, rule, one, left, two)
		}
		for _, name := range freeOf(left) {
			if !strings.ContainsRune(freeOf(text), name) {
				t.Errorf("ShrinkAt(%q, %d) = %q, in which %c stands free", text, index, left, name)
			}
		}
	}
}

// checkLeft checks what is left of a term by picks, and returns how often a part has shrunk.
func checkLeft(t *testing.T, text string, picks []int) int {
	t.Helper()
	before := slices.Clone(picks)
	want, times := leftByText(text, picks)
	left, ok := impl.ShrinkBy(text, picks)
	if left != want || !ok || !impl.IsShrunk(left) || impl.CountShrinks(left) != 0 {
		t.Errorf("ShrinkBy(%q, %v) = %q, %v, want %q", text, picks, left, ok, want)
	}
	if first, ok := impl.Shrink(text); !impl.SameTerm(first, left) || !ok {
		t.Errorf("ShrinkBy(%q, %v) = %q, but Shrink = %q, %v", text, picks, left, first, ok)
	}
	if !slices.Equal(picks, before) {
		t.Errorf("%v was changed to %v", before, picks)
	}
	return times
}

// checkShrunk checks all that the chapter tells of a term, by the oracle, and returns how its parts can shrink.
func checkShrunk(t *testing.T, text string) []shrinking {
	t.Helper()
	list := checkShrinkings(t, text)
	want, times := leftByText(text, nil)
	if left, ok := impl.Shrink(text); left != want || !ok {
		t.Errorf("Shrink(%q) = %q, %v, want %q", text, left, ok, want)
	}
	if got := impl.CountShrinks(text); got != times || got >= impl.SizeOf(text) {
		t.Errorf("CountShrinks(%q) = %d, want %d of %d parts", text, got, times, impl.SizeOf(text))
	}
	checkLeft(t, text, nil)
	return list
}

// checkNoShrinking checks the results for a text that is no term.
func checkNoShrinking(t *testing.T, text string) {
	t.Helper()
	for _, index := range append(indicesAround(len(text)%100), 1, 2, 7) {
		rule, one := impl.RuleAt(text, index)
		left, two := impl.ShrinkAt(text, index)
		if rule != "" || one || left != "" || two {
			t.Errorf("%q is no term, but RuleAt, ShrinkAt of %d = %q, %v, %q, %v", text, index, rule, one, left, two)
		}
	}
	if list, ok := impl.ShrinkableIn(text); len(list) != 0 || ok {
		t.Errorf("ShrinkableIn(%q) = %v, %v", text, list, ok)
	}
	if left, ok := impl.Shrink(text); left != "" || ok {
		t.Errorf("Shrink(%q) = %q, %v", text, left, ok)
	}
	for _, picks := range [][]int{nil, {0}, {1, 2}, {-1}} {
		if left, ok := impl.ShrinkBy(text, picks); left != "" || ok {
			t.Errorf("ShrinkBy(%q, %v) = %q, %v", text, picks, left, ok)
		}
	}
	if impl.CountShrinks(text) != -1 || impl.IsShrunk(text) {
		t.Errorf("CountShrinks, IsShrunk of %q = %d, %v", text, impl.CountShrinks(text), impl.IsShrunk(text))
	}
}

// A ruleCase is a part of a term, the rule by which it shrinks, and what is left of the term then, both empty where it can't shrink.
type ruleCase struct {
	text string
	part int
	rule string
	left string
}

func checkRules(t *testing.T, cases []ruleCase) {
	t.Helper()
	for _, c := range cases {
		rule, one := impl.RuleAt(c.text, c.part)
		left, two := impl.ShrinkAt(c.text, c.part)
		if rule != c.rule || left != c.left || one != (c.rule != "") || two != one {
			t.Errorf("RuleAt, ShrinkAt of %q and %d = %q, %v, %q, %v, want %q, %q", c.text, c.part, rule, one, left, two, c.rule, c.left)
		}
		checkShrunk(t, c.text)
	}
}

func TestShrinkingOperations(t *testing.T) {
	checkRules(t, []ruleCase{
		{"+12", 0, "number", "3"},
		{"-52", 0, "number", "3"},
		{"*34", 0, "number", "#12"},
		{"+55", 0, "number", "#10"},
		{"+54", 0, "number", "9"},
		{"*00", 0, "number", "0"},
		{"-12", 0, "number", "#99"},
		{"-0#99", 0, "number", "1"},
		{"+1#99", 0, "number", "0"},
		{"+#99#99", 0, "number", "#98"},
		{"*#99#99", 0, "number", "1"},
		{"*#209", 0, "number", "#80"},
		{"-#10#10", 0, "number", "0"},
		{"(a+12)", 2, "number", "(a3)"},
		{`\a-1a`, 1, "", ""},
		{`\a-11`, 1, "number", `\a0`},
		{"@ab?a+12*34", 3, "number", "@ab?a3*34"},
		{"@ab?a+12*34", 6, "number", "@ab?a+12#12"},
		// One side alone is no number.
		{"+a1", 0, "", ""},
		{"+1a", 0, "", ""},
		{"-aa", 0, "", ""},
		{`*\aa1`, 0, "", ""},
		{`*1\aa`, 0, "", ""},
		{"+(12)3", 0, "", ""},
		{"+3(12)", 0, "", ""},
		{"-1=abc", 0, "", ""},
		{"-?a121", 0, "", ""},
		// One side is a number only once it has shrunk.
		{"++123", 0, "", ""},
		{"++123", 1, "number", "+33"},
		{"+1*23", 0, "", ""},
		{"+1*23", 2, "number", "+16"},
		{"-?0121", 0, "", ""},
		{"-?0121", 1, "asked", "-11"},
		{"-1=a2a", 2, "whole", "-12"},
	})
}

func TestShrinkingChoices(t *testing.T) {
	checkRules(t, []ruleCase{
		{"?0ab", 0, "asked", "a"},
		{"?1ab", 0, "asked", "b"},
		{"?9ab", 0, "asked", "b"},
		{"?#10ab", 0, "asked", "b"},
		{"?#99ab", 0, "asked", "b"},
		{`?0(12)\aa`, 0, "asked", "(12)"},
		{`?5(12)\aa`, 0, "asked", `\aa`},
		{"?0?1ab?0ba", 0, "asked", "?1ab"},
		{"?0?1ab?0ba", 2, "asked", "?0b?0ba"},
		{"?0?1ab?0ba", 6, "asked", "?0?1abb"},
		{`\a(a?0a1)`, 3, "asked", `\a(aa)`},
		// What is asked for is no number.
		{"?a12", 0, "", ""},
		{`?\aa12`, 0, "", ""},
		{"?@ab012", 0, "", ""},
		{"?(00)12", 0, "", ""},
		{"?=a(00)a12", 0, "", ""},
		// It is one only once it has shrunk.
		{"?-1123", 0, "", ""},
		{"?-1123", 1, "number", "?023"},
		{"?+1123", 1, "number", "?223"},
		{"??01023", 0, "", ""},
		{"??01023", 1, "asked", "?123"},
	})
}

func TestShrinkingCalls(t *testing.T) {
	checkRules(t, []ruleCase{
		{`(\aa1)`, 0, "call", "=a1a"},
		{`(\ab1)`, 0, "call", "=a1b"},
		{`(\ab(12))`, 0, "call", "=a(12)b"},
		{`(\a(aa)\a(aa))`, 0, "call", `=a\a(aa)(aa)`},
		{`(\a\b(ab)c)`, 0, "call", `=ac\b(ab)`},
		{`((\a\bab)c)`, 0, "", ""},
		{`((\a\bab)c)`, 1, "call", `(=ab\bac)`},
		{`(\a+a12)`, 0, "call", "=a2+a1"},
		{`(f(\a2b))`, 2, "call", "(f=ab2)"},
		{`?0(\aa1)(\bb2)`, 6, "call", `?0(\aa1)=b2b`},
		// The name of the function stands free in what it is called with, or is bound there.
		{`(\a1a)`, 0, "call", "=aa1"},
		{`(\aaa)`, 0, "call", "=aaa"},
		{`(\a(ab)(ab))`, 0, "call", "=a(ab)(ab)"},
		{`(\a(ab)\aa)`, 0, "call", `=a\aa(ab)`},
		// Functions with a name of their own.
		{"(@ab12)", 0, "", ""},
		{"(@aba1)", 0, "", ""},
		{"(@abb1)", 0, "", ""},
		{`(@ab(\cb1)2)`, 2, "call", "(@ab=c1b2)"},
		// What is called is no function, or is one only once it has shrunk.
		{"(12)", 0, "", ""},
		{"(ab)", 0, "", ""},
		{`(a\bb)`, 0, "", ""},
		{`(=ab\ba1)`, 0, "", ""},
		{`(=ab\ba1)`, 1, "put", `(\cb1)`},
		{`(?0\aa\bb1)`, 0, "", ""},
		{`(?0\aa\bb1)`, 1, "asked", `(\aa1)`},
		{`(=a\bba1)`, 1, "whole", `(\bb1)`},
		{`((\aa\bb)1)`, 0, "", ""},
	})
}

func TestShrinkingLetsThatAreTheirValues(t *testing.T) {
	checkRules(t, []ruleCase{
		{"=a1a", 0, "whole", "1"},
		{"=a#10a", 0, "whole", "#10"},
		{"=aba", 0, "whole", "b"},
		{"=aaa", 0, "whole", "a"},
		{`=a\bba`, 0, "whole", `\bb`},
		{`=a\aaa`, 0, "whole", `\aa`},
		{"=a@ab(ab)a", 0, "whole", "@ab(ab)"},
		{"=a(12)a", 0, "whole", "(12)"},
		{"=a+12a", 0, "whole", "+12"},
		{"=a+12a", 1, "number", "=a3a"},
		{"=a?bcda", 0, "whole", "?bcd"},
		{"=a=b(12)ba", 0, "whole", "=b(12)b"},
		{"=a=b(12)ba", 1, "whole", "=a(12)a"},
		{`\e=aee`, 1, "put", `\ee`},
		{`\e=eee`, 1, "whole", `\ee`},
		{`(1=a\bba)`, 2, "whole", `(1\bb)`},
		// The body is another name, or more than the name.
		{"=a(12)b", 0, "", ""},
		{"=a(12)(aa)", 0, "", ""},
		{`=a(12)\ba`, 0, "", ""},
		{`=a(12)\aa`, 0, "", ""},
		{"=a(12)7", 0, "", ""},
		{"=a(12)=b(34)a", 0, "", ""},
		// It is the name only once it has shrunk.
		{"=a(12)=b1a", 0, "", ""},
		{"=a(12)=b1a", 4, "put", "=a(12)a"},
		{"=a(12)=aaa", 0, "", ""},
		{"=a(12)=aaa", 4, "whole", "=a(12)a"},
		{"=a(12)?0ab", 4, "asked", "=a(12)a"},
	})
}

func TestShrinkingLetsOfSmallNumbers(t *testing.T) {
	checkRules(t, []ruleCase{
		{"=a1+aa", 0, "put", "+11"},
		{"=a0(ab)", 0, "put", "(0b)"},
		{"=a9?a9a", 0, "put", "?999"},
		// The name stands free in the body, is bound again there, or does not stand there.
		{"=a1b", 0, "put", "b"},
		{"=a1(22)", 0, "put", "(22)"},
		{`=a9\aa`, 0, "put", `\aa`},
		{`=a9\ba`, 0, "put", `\b9`},
		{`=a9\a\ba`, 0, "put", `\a\ba`},
		{"=a9@ba(ba)", 0, "put", "@ba(ba)"},
		{"=a9@ab(ba)", 0, "put", "@ab(ba)"},
		{"=a9@bc(a(bc))", 0, "put", "@bc(9(bc))"},
		{"=a1=aaa", 0, "put", "=a1a"},
		{"=a1=aaa", 2, "whole", "=a1a"},
		{"=a1=a+a1+aa", 0, "put", "=a+11+aa"},
		{"=a1=ba+ab", 0, "put", "=b1+1b"},
		{`=a1(\aaa)`, 0, "put", `(\aa1)`},
		{`(=a1a=b2(ab))`, 4, "put", "(=a1a(a2))"},
		// Numbers of two digits are not put.
		{"=a#10+aa", 0, "", ""},
		{"=a#99+aa", 0, "", ""},
		{`=a#10\ba`, 0, "", ""},
		{"=a#10(b(ca))", 0, "", ""},
		{"=a+55+aa", 0, "", ""},
		{"=a+55+aa", 1, "number", "=a#10+aa"},
		{"=a+54+aa", 1, "number", "=a9+aa"},
	})
}

func TestShrinkingLetsOfNames(t *testing.T) {
	checkRules(t, []ruleCase{
		{"=ab(aa)", 0, "put", "(bb)"},
		{"=ab(ab)", 0, "put", "(bb)"},
		{"=ab1", 0, "put", "1"},
		{"=abb", 0, "put", "b"},
		{"=abc", 0, "put", "c"},
		{"=aa(ab)", 0, "put", "(ab)"},
		{"=aab", 0, "put", "b"},
		{`=aa\b(ab)`, 0, "put", `\b(ab)`},
		{`=aa\aa`, 0, "put", `\aa`},
		{"=aa=aaa", 0, "put", "=aaa"},
		{"=ab=ba(ab)", 0, "put", "=cb(bc)"},
		{"=ab=ba(ab)", 2, "put", "=ab(aa)"},
		{"=ab=cb=dc(ad)", 0, "put", "=cb=dc(bd)"},
		{"=ab=cb=dc(ad)", 2, "put", "=ab=db(ad)"},
		{"=ab=cb=dc(ad)", 4, "put", "=ab=cb(ac)"},
		{`\b=ab\c(a(bc))`, 1, "put", `\b\c(b(bc))`},
		// What is no name of one letter and no number of one digit is not put.
		{`=a\bb(a1)`, 0, "", ""},
		{"=a@bcb(a1)", 0, "", ""},
		{"=a(bc)(a1)", 0, "", ""},
		{"=a(bc)1", 0, "", ""},
		{"=a+b1(aa)", 0, "", ""},
		{"=a+b11", 0, "", ""},
		{"=a?b12(aa)", 0, "", ""},
		{"=a?b121", 0, "", ""},
		{"=a=b(12)b(aa)", 0, "", ""},
		{"=a=bcb(aa)", 0, "", ""},
		{"=a=bcb(aa)", 1, "whole", "=ac(aa)"},
		{"=a=bcb1", 0, "", ""},
	})
}

// The name that is put would get bound, so that names that are bound become others.
func TestShrinkingLetsOfNamesThatWouldGetBound(t *testing.T) {
	checkRules(t, []ruleCase{
		{`=ab\b(ab)`, 0, "put", `\c(bc)`},
		{`=ae\e(ae)`, 0, "put", `\b(eb)`},
		{`=ab\ba`, 0, "put", `\cb`},
		{`=ab\b(ac)`, 0, "put", `\d(bc)`},
		{`=ab\b\c(a(bc))`, 0, "put", `\c\d(b(cd))`},
		{`=ab\c\b(ab)`, 0, "put", `\c\c(bc)`},
		{`=ab\c\b(ac)`, 0, "put", `\c\d(bc)`},
		{"=ab@bc(a(bc))", 0, "put", "@dc(b(dc))"},
		{"=ab@cb(a(bc))", 0, "put", "@cd(b(dc))"},
		{"=ab@cba", 0, "put", "@cdb"},
		{"=ab=b1(ab)", 0, "put", "=c1(bc)"},
		{"=ab=ba1", 0, "put", "=bb1"},
		{"=ab=bab", 0, "put", "=bbb"},
		{"=ab=baa", 0, "put", "=cbb"},
		{`=ab(\ba\ab)`, 0, "put", `(\cb\ab)`},
		{`\b=ab\b(ab)`, 1, "put", `\b\c(bc)`},
		{`=b7=ab\b(ab)`, 0, "put", `=a7\b(ab)`},
		{`=b7=ab\b(ab)`, 2, "put", `=b7\c(bc)`},
		// They stay where the name does not come there.
		{`=ab\bb`, 0, "put", `\bb`},
		{`=ab\b\aa`, 0, "put", `\b\aa`},
		{`=ab(a\bb)`, 0, "put", `(b\bb)`},
		{`=ab\c(ac)`, 0, "put", `\c(bc)`},
		{`=ab\a\b(ab)`, 0, "put", `\a\b(ab)`},
		{"=ab@ba(ab)", 0, "put", "@ba(ab)"},
	})
}

func TestShrinkingLetsOfNamesWhereNamesAreNotEnough(t *testing.T) {
	but := func(name string) string { return strings.ReplaceAll(allNames, name, "") }
	all, butP, butB := namesFrom(allNames), namesFrom(but("p")), namesFrom(but("b"))
	putIn := func(text, name, other string) string { return strings.ReplaceAll(text, name, other) }
	checkRules(t, []ruleCase{
		{`=ab\b` + all, 0, "", ""},
		{"=ab=b1" + all, 0, "", ""},
		{"=ab=b1" + all, 2, "put", "=ab" + putIn(all, "b", "1")},
		{"=ab@bc" + all, 0, "", ""},
		{"=ab@cb" + all, 0, "", ""},
		{`(1=ab\b` + all + ")", 2, "", ""},
		{`=ab(a\b` + all + ")", 0, "", ""},
		{`=ab\c\b` + all, 0, "", ""},
		// The one name that is left is bound further inwards.
		{`=ab\b\p` + all, 0, "", ""},
		{`=ab\b\p` + butP, 0, "", ""},
		// Just enough, or no name has to become another one.
		{`=ab\b` + butP, 0, "put", `\p` + putIn(putIn(butP, "b", "p"), "a", "b")},
		{"=ab=b1" + butP, 0, "put", "=p1" + putIn(putIn(butP, "b", "p"), "a", "b")},
		{`=ab\b` + butB, 0, "", ""},
		{"=ab@cb" + butP, 0, "put", "@cp" + putIn(putIn(butP, "b", "p"), "a", "b")},
		{"=ab@cd" + all, 0, "put", "@cd" + putIn(all, "a", "b")},
		{`=ab\c` + all, 0, "put", `\c` + putIn(all, "a", "b")},
		{`=a1\b` + all, 0, "put", `\b` + putIn(all, "a", "1")},
		{`=aa\b` + all, 0, "put", `\b` + all},
		{`=ab\b\a` + all, 0, "put", `\b\a` + all},
		{`=ab\b` + namesFrom(but("a")), 0, "put", `\b` + namesFrom(but("a"))},
		{"=ab" + all, 0, "put", putIn(all, "a", "b")},
	})
	// There are enough names once others have shrunk, within the part or around it.
	for text, left := range map[string]string{
		`=ab\b?0` + butP + all: `\p` + putIn(putIn(butP, "b", "p"), "a", "b"),
		`=p1=ab\b` + all:       `\p` + putIn(putIn(putIn(all, "p", "1"), "b", "p"), "a", "b"),
		`=pc=ab\b` + all:       `\p` + putIn(putIn(putIn(all, "p", "c"), "b", "p"), "a", "b"),
		`=ab=bc` + all:         putIn(putIn(all, "b", "c"), "a", "b"),
	} {
		if got, ok := impl.Shrink(text); got != left || !ok {
			t.Errorf("Shrink(%q) = %q, %v, want %q", text, got, ok, left)
		}
		checkShrunk(t, text)
	}
}

func TestShrinkingLetsThatAreNotUsed(t *testing.T) {
	checkRules(t, []ruleCase{
		{"=a#107", 0, "unused", "7"},
		{"=a#99b", 0, "unused", "b"},
		{`=a\bb7`, 0, "unused", "7"},
		{`=a\b(cd)(ef)`, 0, "unused", "(ef)"},
		{"=a@bc(bc)(12)", 0, "unused", "(12)"},
		{`=a\b` + endless + "7", 0, "unused", "7"},
		{`=ab\bb`, 0, "put", `\bb`},
		{`(2=a\bb\cc)`, 2, "unused", `(2\cc)`},
		// The name stands free in the value alone, or is bound again in the body.
		{`=a\bab`, 0, "unused", "b"},
		{`=a\aab`, 0, "unused", "b"},
		{`=a\bb\aa`, 0, "unused", `\aa`},
		{"=a#10=a1a", 0, "unused", "=a1a"},
		{"=a#10=a1a", 2, "whole", "=a#101"},
		{"=a#10@ab(ab)", 0, "unused", "@ab(ab)"},
		{"=a#10@ba(ab)", 0, "unused", "@ba(ab)"},
		// It is used.
		{"=a#10+aa", 0, "", ""},
		{`=a\bb(a1)`, 0, "", ""},
		{`=a\bb\ca`, 0, "", ""},
		{"=a@bc1?0a1", 0, "", ""},
		{"=a#10=aaa", 0, "", ""},
		{"=a#10=aa(aa)", 0, "", ""},
		{`=a\bb(\aa\ca)`, 0, "", ""},
		// It isn't used any more once others have shrunk.
		{"=a#10?01a", 0, "", ""},
		{"=a#10?01a", 2, "asked", "=a#101"},
		{"=a#10=ba1", 0, "", ""},
		{"=a#10=ba1", 2, "put", "=a#101"},
		{`=a#10=b\ca1`, 2, "unused", "=a#101"},
		// The value is neither a number nor a function, though it may be once it has shrunk.
		{"=a(12)3", 0, "", ""},
		{"=a(bb)b", 0, "", ""},
		{`=a(\bb2)3`, 0, "", ""},
		{`=a(\bb2)3`, 1, "call", "=a=b2b3"},
		{"=a(@bc23)4", 0, "", ""},
		{"=a+b12", 0, "", ""},
		{"=a+122", 0, "", ""},
		{"=a+122", 1, "number", "=a32"},
		{`=a?b\cc\dd3`, 0, "", ""},
		{`=a?1b\cc3`, 1, "asked", `=a\cc3`},
		{`=a=b\ccb3`, 0, "", ""},
		{`=a=b\ccb3`, 1, "whole", `=a\cc3`},
		{`=a=b(12)\cb3`, 0, "", ""},
	})
}

// What is left of terms that shrink once others have, and how often a part shrinks for it.
func TestTermsThatShrinkOnceOthersHave(t *testing.T) {
	for text, want := range map[string]struct {
		left  string
		times int
	}{
		"=a1=b+a2*ab":               {"3", 4},
		"=a2=f\\j+ja(f3)":           {`=f\j+j2(f3)`, 1},
		`=a\b+b2(\b+b23)`:           {"5", 4},
		`(\a+a12)`:                  {"3", 3},
		`(\a(\b+ab2)1)`:             {"3", 5},
		`((\a\b+ab1)2)`:             {"3", 5},
		`(((\a\b\c+a*bc1)2)3)`:      {"7", 8},
		`(\f(f2)\a*aa)`:             {`=f\a*aa(f2)`, 1},
		`(\f(f2)@ab*bb)`:            {"=f@ab*bb(f2)", 1},
		`(\ff\a*aa)`:                {`\a*aa`, 2},
		`(\f7\a*aa)`:                {"7", 2},
		`((\ff\a*aa)3)`:             {"9", 5},
		`(\a(aa)\a(aa))`:            {`=a\a(aa)(aa)`, 1},
		"=a#10=b\\c(ca)7":           {"7", 2},
		`=a\bb=c\d(ad)=e\f(cf)5`:    {"5", 3},
		`=a\bb=c\d(ad)=e\f(cf)e`:    {`=a\bb=c\d(ad)\f(cf)`, 1},
		"?-22(12)4":                 {"(12)", 2},
		"?+12(12)4":                 {"4", 2},
		"?=a0a?1234":                {"3", 3},
		"=a+55*aa":                  {"=a#10*aa", 1},
		"=a+54*aa":                  {"#81", 3},
		"+=a3*aa=b2*bb":             {"#13", 5},
		"=a(12)=ba=cb(ac)":          {"=a(12)(aa)", 2},
		"=a(12)=bab":                {"(12)", 2},
		`\a=ba=cb(cc)`:              {`\a(aa)`, 2},
		`@fn?n1=m-n1*n(fm)`:         {"@fn?n1=m-n1*n(fm)", 0},
		`@fn?0n=m-n1*n(fm)`:         {"@fnn", 1},
		`@fn=m(\k-kn1)(fm)`:         {"@fn=m-1n(fm)", 2},
		"(@fn?n1*n(f-n1)5)":         {"(@fn?n1*n(f-n1)5)", 0},
		`=k\a\ba=i\aa((k1)(i2))`:    {`=k\a\ba=i\aa((k1)(i2))`, 0},
		`=k\a\ba=i\aa((k1)2)`:       {`=k\a\ba((k1)2)`, 1},
		`((\a\ba1)(\cc2))`:          {"1", 6},
		`(\a(\b(\c(a(bc))1)2)3)`:    {"(3(21))", 6},
		`=a=b=c=d5+d1+c1+b1+a1`:     {"9", 8},
		"?1?234?567":                {"7", 2},
		"=a?0\\bb1=c?0\\ba2(1(23))": {"(1(23))", 4},
	} {
		got, ok := impl.Shrink(text)
		if times := impl.CountShrinks(text); got != want.left || !ok || times != want.times {
			t.Errorf("Shrink(%q) = %q, %v, after %d times, want %q after %d", text, got, ok, times, want.left, want.times)
		}
		checkShrunk(t, text)
	}
}

func TestTermsThatAreShrunk(t *testing.T) {
	for _, text := range []string{
		"0", "#10", "a", `\aa`, "@abc", "(12)", "(ab)", `(a\bb)`, "(@aba1)", "+a1", "-1a", `*\aa2`, "?a12", `?\aa12`, "=a(12)b", "=a(12)(aa)", "=a#10(aa)", `=a\bb(aa)`, "=a@bcb(aa)", "=a+b12",
		`=f@fn?n0+n(f-n1)(f#10)`, `\a\b\c(a(bc))`, `=ab\b` + namesFrom(allNames), "+" + strings.Repeat("+a", 20) + "ab",
	} {
		if list := checkShrunk(t, text); len(list) != 0 || !impl.IsShrunk(text) || impl.CountShrinks(text) != 0 {
			t.Errorf("%q is shrunk, but ShrinkableIn = %v, IsShrunk = %v, CountShrinks = %d", text, list, impl.IsShrunk(text), impl.CountShrinks(text))
		}
		if left, ok := impl.ShrinkBy(text, []int{3, 1, 4}); left != text || !ok {
			t.Errorf("ShrinkBy(%q) = %q, %v", text, left, ok)
		}
	}
}

// In some terms, all parts can shrink that are no numbers and no names.
func TestTermsOfWhichAllPartsCanShrink(t *testing.T) {
	for text, want := range map[string][]int{
		"+12":                  {0},
		"=a=b1ba":              {0, 1},
		"?0+12=a1a":            {0, 2, 5},
		"?0+12?1=a=b2ba*34":    {0, 2, 5, 7, 8, 12},
		"=a1=b2=c3=d4c":        {0, 2, 4, 6},
		"=a1?0=ba+12?1*34=cbc": {0, 2, 4, 6, 9, 11, 14},
	} {
		checkList(t, "ShrinkableIn", text, impl.ShrinkableIn, want)
		checkShrunk(t, text)
		checkAllPicks(t, text)
	}
}

// Where names that are bound become others depends on the order, so that picks can be told from each other.
func TestPicks(t *testing.T) {
	for _, c := range []struct {
		text  string
		picks []int
		left  string
	}{
		// The parts 0 and 3 can shrink, and one of both can then.
		{`=bc\c=cb7`, nil, `\a7`},
		{`=bc\c=cb7`, []int{}, `\a7`},
		{`=bc\c=cb7`, []int{0}, `\a7`},
		{`=bc\c=cb7`, []int{1}, `\c7`},
		{`=bc\c=cb7`, []int{2}, `\a7`},
		{`=bc\c=cb7`, []int{3}, `\c7`},
		{`=bc\c=cb7`, []int{1, 0}, `\c7`},
		{`=bc\c=cb7`, []int{1, 5}, `\c7`},
		{`=bc\c=cb7`, []int{0, 1, 1, 1, 1}, `\a7`},
		{`=bc\c=cb7`, []int{1, 0, 0, 0, 0, 0}, `\c7`},
		{`=bc\c=cb7`, []int{math.MaxInt}, `\c7`},
		{`=bc\c=cb7`, []int{math.MaxInt - 1, math.MaxInt, math.MaxInt}, `\a7`},
		{`=bc\c=cb7`, []int{1 << 32}, `\a7`},
		{`=bc\c=cb7`, []int{1<<32 + 1}, `\c7`},
		// Three parts can shrink, of which the first one comes after the picks.
		{`=b4=ab\b=cab`, nil, `\bb`},
		{`=b4=ab\b=cab`, []int{1, 2, 2}, `\cc`},
		{`=b4=ab\b=cab`, []int{4, 3}, `\cc`},
		{`=b4=ab\b=cab`, []int{2, 1, 0}, `\bb`},
		{`=b4=ab\b=cab`, []int{2}, `\bb`},
		{`=b4=ab\b=cab`, []int{3, 3, 3}, `\bb`},
		// Each pick is for one part: the second one is out of as many as can shrink then.
		{`=ab\b?47=cca`, nil, `\db`},
		{`=ab\b?47=cca`, []int{1}, `\db`},
		{`=ab\b?47=cca`, []int{1, 0}, `\db`},
		{`=ab\b?47=cca`, []int{1, 1}, `\cb`},
		{`=ab\b?47=cca`, []int{4, 2}, `\db`},
		{`=ab\b?47=cca`, []int{4, 3}, `\cb`},
		{`=ab\b?47=cca`, []int{0, 1}, `\db`},
		{`=ab\b?47=cca`, []int{2}, `\cb`},
		{`=b?5?0aac\c=abc`, []int{0}, `\aa`},
		{`=b?5?0aac\c=abc`, []int{0, 0}, `\aa`},
		{`=b?5?0aac\c=abc`, []int{0, 1}, `\cc`},
		{`=b?5?0aac\c=abc`, []int{3, 3}, `\cc`},
		{`=b?5?0aac\c=abc`, []int{3, 2}, `\aa`},
		// Nothing can shrink, whatever is picked.
		{"7", nil, "7"},
		{"7", []int{0}, "7"},
		{"(ab)", []int{5, 6, 7, math.MaxInt}, "(ab)"},
	} {
		if left, ok := impl.ShrinkBy(c.text, c.picks); left != c.left || !ok {
			t.Errorf("ShrinkBy(%q, %v) = %q, %v, want %q", c.text, c.picks, left, ok, c.left)
		}
		checkLeft(t, c.text, c.picks)
	}
}

// A pick that is negative is not valid, also where it isn't reached.
func TestNegativePicks(t *testing.T) {
	for _, text := range []string{"7", "+12", `=bc\c=cb7`, "(ab)", "=a1=b+a2*ab"} {
		for _, picks := range [][]int{{-1}, {math.MinInt}, {-7, 0}, {0, -1}, {0, 0, -1}, {1, -2, 1}, {0, 0, 0, 0, -1}, {0, 0, 0, 0, 0, 0, 0, 0, 0, -1}, {math.MaxInt, math.MinInt}, {-1, -1}} {
			if left, ok := impl.ShrinkBy(text, picks); left != "" || ok {
				t.Errorf("ShrinkBy(%q, %v) = %q, %v", text, picks, left, ok)
			}
		}
	}
}

func TestShrinkingOfWhatIsNoTerm(t *testing.T) {
	more := []string{"+12 ", " +12", "+1", "?01", `(\aa1`, `(\aa1))`, "=aa", "=qaa", "=a1q", "+#012", "+1$0;", "A", "{A}", "(A1)", strings.Repeat("+1", 24) + "1", "+" + sum(repeat("1", 60)) + "1"}
	for _, text := range slices.Concat(noTerms, more) {
		checkNoShrinking(t, text)
	}
	for _, text := range []string{strings.Repeat("(", 100000), strings.Repeat("=a1", 100000) + "a", strings.Repeat("?0", 60)} {
		checkNoShrinking(t, text)
	}
}

func TestShrinkingOfTermsAtTheLimits(t *testing.T) {
	odd := sum(repeat("#10", 15))
	for text, want := range map[string]struct {
		left  string
		times int
	}{
		sum(repeat("1", 60)):                                       {"#60", 59},
		"(" + odd + odd + ")":                                      {"(#50#50)", 28},
		strings.Repeat("=a1", 23) + "a":                            {"1", 23},
		"=a1" + strings.Repeat("=aa", 22) + "a":                    {"1", 23},
		strings.Repeat("=ab", 23) + "a":                            {"b", 23},
		strings.Repeat("+1", 23) + "1":                             {"#24", 23},
		strings.Repeat(`(\a`, 11) + "a" + strings.Repeat("1)", 11): {"1", 22},
		strings.Repeat(`(\aa`, 22) + "1" + strings.Repeat(")", 22): {"1", 44},
		strings.Repeat(`\a`, 21) + "+12":                           {strings.Repeat(`\a`, 21) + "3", 1},
		strings.Repeat("?0", 23) + "7" + strings.Repeat("1", 23):   {"7", 23},
		strings.Repeat(`=a\bb`, 22) + "7":                          {"7", 22},
		strings.Repeat(`=a\bb`, 22) + "a":                          {`\bb`, 22},
	} {
		if !impl.TermValid(text) || len(text) < 119 && impl.DepthOf(text) < 23 {
			t.Errorf("%q has %d bytes and a depth of %d", text, len(text), impl.DepthOf(text))
		}
		if got, ok := impl.Shrink(text); got != want.left || !ok || impl.CountShrinks(text) != want.times {
			t.Errorf("Shrink(%q) = %q, %v, after %d times, want %q after %d", text, got, ok, impl.CountShrinks(text), want.left, want.times)
		}
		checkShrunk(t, text)
		checkLeft(t, text, []int{3, 1, 4, 1, 5, 9, 2, 6, 5, 3, 5, 8})
	}
}

// checkAllPicks checks what is left of a small term for all picks, each of which matters.
func checkAllPicks(t *testing.T, text string) {
	t.Helper()
	first, _ := impl.Shrink(text)
	var visit func(now string, picks []int)
	visit = func(now string, picks []int) {
		list := shrinkingsByText(now)
		for pick, s := range list {
			visit(s.left, append(slices.Clone(picks), pick))
		}
		if len(list) > 0 {
			return
		}
		if left, ok := impl.ShrinkBy(text, picks); left != now || !ok || !impl.SameTerm(left, first) {
			t.Errorf("ShrinkBy(%q, %v) = %q, %v, want %q, which should be the same as %q", text, picks, left, ok, now, first)
		}
	}
	visit(text, nil)
}

// leftByAllOrders returns all texts that are left of a term, whatever shrinks first, and how many texts there are on the way.
func leftByAllOrders(text string) (left []string, ways int) {
	seen := map[string]bool{}
	var visit func(text string)
	visit = func(text string) {
		if seen[text] {
			return
		}
		seen[text] = true
		indices, _ := impl.ShrinkableIn(text)
		for _, index := range indices {
			next, _ := impl.ShrinkAt(text, index)
			visit(next)
		}
		if len(indices) == 0 {
			left = append(left, text)
		}
	}
	visit(text)
	return left, len(seen)
}

// checkAllOrders checks that what is left of a term is the same whatever shrinks first, and returns how many texts there are on the way.
func checkAllOrders(t *testing.T, text string) int {
	t.Helper()
	left, ways := leftByAllOrders(text)
	first, _ := impl.Shrink(text)
	for _, other := range left {
		if !impl.SameTerm(first, other) {
			t.Errorf("Shrink(%q) = %q, but by another order %q is left", text, first, other)
		}
	}
	if !slices.Contains(left, first) {
		t.Errorf("Shrink(%q) = %q, but what is left is one of %q", text, first, left)
	}
	return ways
}

// Of all small terms of some letters, the same is left by all orders.
func TestShrinkingOfAllSmallTerms(t *testing.T) {
	const longest = 7
	known := make([][]string, longest+1)
	shrunk, others := 0, 0
	for length := 1; length <= longest; length++ {
		known[length] = allTerms(length, known)
		for _, text := range known[length] {
			if list := checkShrunk(t, text); len(list) == 0 {
				shrunk++
			} else {
				checkAllPicks(t, text)
				others++
			}
		}
	}
	if shrunk < 7000 || others < 7000 {
		t.Errorf("%d terms are shrunk, %d are not", shrunk, others)
	}
}

// growShrinking returns a term of some names, many parts of which can shrink, also once others have.
func (g grower) growShrinking(names string, nest int) string {
	name := func() string { at := g.Intn(len(names)); return names[at : at+1] }
	leaf := func() string { return g.one(name(), name(), name(), "0", "1", "7", "9", "#10", "#42") }
	if nest <= 0 {
		return leaf()
	}
	kid := func() string { return g.growShrinking(names, nest-1) }
	switch g.Intn(14) {
	case 0, 1, 2:
		return "=" + name() + leaf() + kid()
	case 3, 4:
		return "=" + name() + kid() + kid()
	case 5:
		return "=" + name() + `\` + name() + kid() + kid()
	case 6, 7:
		return `(\` + name() + kid() + kid() + ")"
	case 8:
		return "?" + g.one("0", "1", "#10", kid()) + kid() + kid()
	case 9, 10:
		return g.one("+", "-", "*") + kid() + kid()
	case 11:
		return `\` + name() + kid()
	case 12:
		at, by := g.Intn(len(names)), 1+g.Intn(len(names)-1)
		return "@" + names[at:at+1] + names[(at+by)%len(names):][:1] + kid()
	}
	return "(" + kid() + kid() + ")"
}

// picksDrawn returns some picks, of which some are large.
func (g grower) picksDrawn() []int {
	var picks []int
	for range g.Intn(30) {
		if g.Intn(10) == 0 {
			picks = append(picks, g.Int())
		} else {
			picks = append(picks, g.Intn(8))
		}
	}
	return picks
}

// checkOrdersDrawn goes through several orders at the same time, and compares what is left.
func checkOrdersDrawn(t *testing.T, g grower, text string) {
	t.Helper()
	first, _ := impl.Shrink(text)
	left := make(chan string)
	const orders = 4
	for range orders {
		picks := g.picksDrawn()
		go func() {
			other, _ := impl.ShrinkBy(text, picks)
			left <- other
		}()
	}
	for range orders {
		if other := <-left; !impl.SameTerm(first, other) {
			t.Errorf("Shrink(%q) = %q, but by another order %q is left", text, first, other)
		}
	}
}

// Grown terms, closed or not, shrink as the chapter says it, and the same is left of them whatever shrinks first.
func TestGrownShrinking(t *testing.T) {
	g := grower{rand.New(rand.NewSource(20))}
	checked := map[string]int{}
	for i := range 4000 {
		text := g.growShrinking([]string{"abc", "ab", "abcdef", allNames}[i%4], 2+g.Intn(5))
		if i%5 == 4 {
			text = growWith(g.Rand, "abc", 3+g.Intn(5))
		}
		if !impl.TermValid(text) {
			continue
		}
		for _, s := range checkShrunk(t, text) {
			checked[s.rule]++
		}
		times := checkLeft(t, text, g.picksDrawn())
		checkOrdersDrawn(t, g, text)
		if times > 1 && partsIn(text) <= 16 {
			checked["ways"] += checkAllOrders(t, text)
		}
		if times > 10 {
			checked["often"]++
		}
		if impl.IsClosed(text) {
			checked["closed"]++
		} else {
			checked["open"]++
		}
	}
	for what, least := range map[string]int{"number": 600, "asked": 1200, "call": 3000, "whole": 400, "put": 4500, "unused": 2500, "ways": 10000, "often": 500, "closed": 600, "open": 2000} {
		if checked[what] < least {
			t.Errorf("checked = %v, want %d of %s", checked, least, what)
		}
	}
}

// growScarce returns a term in whose innermost part many names stand, so that there are often not enough.
func (g grower) growScarce(nest int) string {
	name := g.one(strings.Split(allNames, "")...)
	other := g.one(strings.Split(strings.ReplaceAll(allNames, name, ""), "")...)
	if nest == 0 {
		names := strings.Split(allNames, "")
		g.Shuffle(len(names), func(i, j int) { names[i], names[j] = names[j], names[i] })
		return sum(names[:13+g.Intn(4)])
	}
	switch g.Intn(8) {
	case 0, 1, 2:
		return "=" + name + other + g.growScarce(nest-1)
	case 3:
		return "=" + name + other + `\` + other + g.growScarce(nest-1)
	case 4, 5:
		return `\` + name + g.growScarce(nest-1)
	case 6:
		return "@" + name + other + g.growScarce(nest-1)
	}
	return "?" + g.one("0", "1", name) + g.growScarce(nest-1) + other
}

// Terms for which there are not enough names shrink as the chapter says it too.
func TestGrownShrinkingWhereNamesAreNotEnough(t *testing.T) {
	g := grower{rand.New(rand.NewSource(21))}
	scarce, enough := 0, 0
	for range 250 {
		text := g.growScarce(2 + g.Intn(6))
		if !impl.TermValid(text) {
			continue
		}
		checkShrunk(t, text)
		checkLeft(t, text, g.picksDrawn())
		for _, p := range spottedIn(text) {
			if p.front != "=" || len(p.kids[0]) > 1 || p.kids[1] == p.binds {
				continue
			}
			if _, ok := putByText(p.kids[1], p.binds, p.kids[0]); ok {
				enough++
			} else {
				scarce++
			}
		}
	}
	if scarce < 40 || enough < 350 {
		t.Errorf("%d lets have not enough names, %d have", scarce, enough)
	}
}

// checkShrunkRun checks that the run of a closed term has the same result, in no more steps and with no more closures, whatever has shrunk in it.
// It returns false if the run ends with EndLong, which says nothing of what is left.
func checkShrunkRun(t *testing.T, g grower, text string) bool {
	t.Helper()
	want, ok := impl.RunTerm(text)
	if !ok {
		t.Errorf("RunTerm(%q) = %v, %v", text, want, ok)
	}
	if want.End == impl.EndLong {
		return false
	}
	before, _ := impl.CountTerm(text)
	list, _ := impl.ShrinkableIn(text)
	all, _ := impl.Shrink(text)
	other, _ := impl.ShrinkBy(text, g.picksDrawn())
	less := []string{all, other}
	for _, index := range list {
		left, _ := impl.ShrinkAt(text, index)
		less = append(less, left)
	}
	for _, left := range less {
		x, ok := impl.RunTerm(left)
		after, _ := impl.CountTerm(left)
		if x != want || !ok || !impl.SameRun(text, left) || after.Steps > before.Steps || after.Closures > before.Closures {
			t.Errorf("%q comes to %v with %v, but %q to %v with %v", text, want, before, left, x, after)
		}
	}
	return true
}

func TestRunsOfWhatHasShrunk(t *testing.T) {
	g := grower{rand.New(rand.NewSource(22))}
	for text, want := range map[string]string{
		"=a1=b+a2*ab":                   "3",
		`=a2=f\j+ja(f3)`:                "5",
		`(\f(f2)\a*aa)`:                 "4",
		`(\a(\b+ab2)1)`:                 "3",
		`=a\bb7`:                        "7",
		`=a\b(12)7`:                     "7",
		`=a\bba`:                        "function",
		`\a+12`:                         "function",
		`?0\a(12)(12)`:                  "function",
		"?0(12)3":                       "fault",
		"?1(12)3":                       "3",
		"=a(12)3":                       "fault",
		"=a(12)a":                       "fault",
		`=a+1\bb3`:                      "fault",
		`(1(\aa2))`:                     "fault",
		`(\a(a1)2)`:                     "fault",
		`(\a+a1\bb)`:                    "fault",
		`=a#10(aa)`:                     "fault",
		`?(\aa\bb)12`:                   "fault",
		`=a5(@fn?n0+a(f-n1)3)`:          "15",
		`=g@fn?n0(f-n1)=h7(gh)`:         "0",
		`=a1=f\ba=a2=g\ba+(f9)*#10(g9)`: "21",
	} {
		x, _ := impl.RunTerm(text)
		if impl.FormatResult(x) != want || !checkShrunkRun(t, g, text) {
			t.Errorf("%q comes to %s, want %s", text, impl.FormatResult(x), want)
		}
		checkShrunk(t, text)
	}
}

// What is left of a term whose run ends with EndLong may end with something else, since it makes fewer steps and calls.
func TestRunsThatAreLongUntilTheyShrink(t *testing.T) {
	for text, want := range map[string]string{
		padded(busy(), 1502-busySteps):      "9",
		"+" + padded(busy(), 20) + `\aa`:    "fault",
		"(@fn?n0(\\a(fa)-n1)#40)":           "0",
		"(@fn?n0=a-n1(\\b(fb)a)#40)":        "0",
		endless:                             "long",
		`=a1(\b` + endless + "2)":           "long",
		`=a` + endless + "7":                "long",
		"?1" + endless + "(\\a(a1)@fn(fn))": "long",
	} {
		left, ok := impl.Shrink(text)
		x, _ := impl.RunTerm(text)
		y, _ := impl.RunTerm(left)
		if x.End != impl.EndLong || impl.FormatResult(y) != want || !ok {
			t.Errorf("%q comes to %s, and %q to %s, want long and %s", text, impl.FormatResult(x), left, impl.FormatResult(y), want)
		}
		checkShrunk(t, text)
	}
}

// A closed term whose run does not end with EndLong has the same result once it has shrunk.
func TestGrownRunsOfWhatHasShrunk(t *testing.T) {
	g := grower{rand.New(rand.NewSource(23))}
	checked := map[string]int{}
	for i := range 4000 {
		text := g.growCapturing(i / 3)
		switch i % 3 {
		case 1:
			text = g.growFlowing("", 3+g.Intn(4))
		case 2:
			text = g.growShrinking("abc", 2+g.Intn(4))
			for _, name := range freeOf(text) {
				text = "=" + string(name) + g.one("1", "#10", `\aa`, "@ab(ab)", `\a\b(ba)`) + text
			}
		}
		if !impl.IsClosed(text) {
			continue
		}
		if !checkShrunkRun(t, g, text) {
			checked["long"]++
			continue
		}
		x, _ := impl.RunTerm(text)
		if impl.CountShrinks(text) > 0 {
			checked[strings.TrimLeft(impl.FormatResult(x), "0123456789")]++
		}
		before, done := impl.CountTerm(text)
		left, _ := impl.Shrink(text)
		if after, _ := impl.CountTerm(left); done && after.Closures < before.Closures {
			checked["closures"]++
		}
	}
	if checked[""] < 300 || checked["function"] < 300 || checked["fault"] < 300 || checked["long"] < 50 || checked["closures"] < 300 {
		t.Errorf("checked = %v", checked)
	}
}

// checkSameShrinking checks that two terms that differ in bound names alone shrink alike.
func checkSameShrinking(t *testing.T, one, two string, picks []int) {
	t.Helper()
	if !impl.SameTerm(one, two) {
		t.Errorf("SameTerm(%q, %q) = false", one, two)
	}
	list, _ := impl.ShrinkableIn(one)
	checkList(t, "ShrinkableIn", two, impl.ShrinkableIn, list)
	for _, index := range list {
		oneRule, _ := impl.RuleAt(one, index)
		twoRule, _ := impl.RuleAt(two, index)
		oneLeft, _ := impl.ShrinkAt(one, index)
		twoLeft, _ := impl.ShrinkAt(two, index)
		if oneRule != twoRule || !impl.SameTerm(oneLeft, twoLeft) {
			t.Errorf("%q and %q shrink at %d by %s and %s to %q and %q", one, two, index, oneRule, twoRule, oneLeft, twoLeft)
		}
	}
	oneLeft, _ := impl.ShrinkBy(one, picks)
	twoLeft, _ := impl.ShrinkBy(two, picks)
	if !impl.SameTerm(oneLeft, twoLeft) || impl.CountShrinks(one) != impl.CountShrinks(two) || impl.IsShrunk(one) != impl.IsShrunk(two) {
		t.Errorf("%q and %q shrink to %q and %q, %d and %d times", one, two, oneLeft, twoLeft, impl.CountShrinks(one), impl.CountShrinks(two))
	}
}

func TestBoundNamesDoNotMatterForShrinking(t *testing.T) {
	g := grower{rand.New(rand.NewSource(24))}
	for _, pair := range [][2]string{
		{`=ab\b(ab)`, `=cb\d(cd)`},
		{`=ab=ba(ab)`, `=cb=dc(cd)`},
		{`(\a\a(ab)b)`, `(\d\c(cb)b)`},
		{`=aa(ab)`, `=ca(cb)`},
		{"=a1=aaa", "=c1=dcd"},
		{`=a\bb7`, `=p\pp7`},
	} {
		checkSameShrinking(t, pair[0], pair[1], nil)
	}
	checked, shrinks := 0, 0
	for i := range 3000 {
		text := g.growShrinking([]string{"abc", "ab", "abcd"}[i%3], 2+g.Intn(4))
		other, ok := impl.Unique(text)
		if !ok {
			continue
		}
		picks := g.picksDrawn()
		checkSameShrinking(t, text, other, picks)
		for _, name := range bindersOf(text)[:min(1, len(bindersOf(text)))] {
			if renamed, ok := impl.Rename(text, string(name), "p"); ok {
				checkSameShrinking(t, text, renamed, picks)
				checked++
			}
		}
		shrinks += impl.CountShrinks(text)
		checked++
	}
	if checked < 2000 || shrinks < 5000 {
		t.Errorf("%d were checked, with %d shrinks", checked, shrinks)
	}
}

// Texts that are nearly terms have results by all functions or by none.
func TestShrinkingOfChangedTexts(t *testing.T) {
	g := grower{rand.New(rand.NewSource(25))}
	some, none := 0, 0
	for range 2500 {
		text := g.changed(g.growShrinking("abc", 1+g.Intn(4)), `abcp019#\@()=+-*? `)
		if impl.TermValid(text) {
			checkShrunk(t, text)
			some++
		} else {
			checkNoShrinking(t, text)
			none++
		}
	}
	if some < 200 || none < 500 {
		t.Errorf("%d texts have results, %d have none", some, none)
	}
}

// Whoever changes a result changes no other one, and what lies behind the end of the picks is neither read nor written.
func TestShrinkingIsNew(t *testing.T) {
	const text = "?0+12=a1a"
	for range 2 {
		list, ok := impl.ShrinkableIn(text)
		if !slices.Equal(list, []int{0, 2, 5}) || !ok {
			t.Errorf("ShrinkableIn(%q) = %v, %v", text, list, ok)
		}
		for i := range list[:cap(list)] {
			list[:cap(list)][i] = -7
		}
	}
	picks := []int{1, 0, -7, -7, -7}
	if left, ok := impl.ShrinkBy(`=bc\c=cb7`, picks[:2]); left != `\c7` || !ok {
		t.Errorf("ShrinkBy = %q, %v", left, ok)
	}
	if left, ok := impl.ShrinkBy(`=bc\c=cb7`, picks[1:2]); left != `\a7` || !ok {
		t.Errorf("ShrinkBy = %q, %v", left, ok)
	}
	if !slices.Equal(picks, []int{1, 0, -7, -7, -7}) {
		t.Errorf("the picks were changed to %v", picks)
	}
}

// shrinkText tells all that the functions of the chapter return for a text.
func shrinkText(text string) string {
	list, _ := impl.ShrinkableIn(text)
	rule, _ := impl.RuleAt(text, 0)
	at, _ := impl.ShrinkAt(text, 0)
	left, _ := impl.Shrink(text)
	other, _ := impl.ShrinkBy(text, []int{1, 2, 3})
	return strings.Join([]string{listed("parts", list), rule, at, left, other, written(max(0, impl.CountShrinks(text)))}, " ")
}

// Whatever goes through an order has ended when a function returns, or is about to end.
func TestShrinkingLeavesNothingRunning(t *testing.T) {
	before := runtime.NumGoroutine()
	for range 300 {
		for _, text := range []string{"=a1=b+a2*ab", "7", "(", `=bc\c=cb7`} {
			shrinkText(text)
			impl.IsShrunk(text)
			impl.ShrinkBy(text, []int{0, -1})
		}
	}
	for range 200 {
		if runtime.NumGoroutine() <= before {
			return
		}
		time.Sleep(10 * time.Millisecond)
	}
	t.Errorf("%d goroutines are left of %d", runtime.NumGoroutine(), before)
}

// Several callers at the same time get what each of them gets alone.
func TestShrinkingAtTheSameTime(t *testing.T) {
	texts := []string{"=a1=b+a2*ab", `=bc\c=cb7`, "=b4=ab\\b=cab", "7", endless, "("}
	var wait sync.WaitGroup
	for i := range 8 * len(texts) {
		text := texts[i%len(texts)]
		want := shrinkText(text)
		wait.Go(func() {
			if got := shrinkText(text); got != want {
				t.Errorf("of %q at the same time: %q, want %q", text, got, want)
			}
		})
	}
	wait.Wait()
}
