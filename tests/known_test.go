package tests

import (
	"math/rand"
	"runtime"
	"slices"
	"strconv"
	"strings"
	"sync"
	"testing"
	"time"

	"loop.example/flatfunctions/impl"
)

// A knowing has what chapter 8 tells of the parts of a term.
type knowing struct {
	known, escapes, direct []int
}

// knowByText says what the chapter says of a term with different bound names.
func knowByText(parts []spotted, f flowing) knowing {
	var k knowing
	out := map[int]bool{}
	callers := map[int][]int{}
	for index, p := range parts {
		if p.front == "(" && len(f.at(p.at[0])) == 1 {
			k.known = append(k.known, index)
		}
		for _, exit := range exitsByText(parts, index) {
			for _, fun := range f.at(exit) {
				out[fun] = true
			}
		}
		if p.front == "(" {
			for _, fun := range f.at(p.at[0]) {
				callers[fun] = append(callers[fun], index)
			}
		}
	}
	k.escapes = inOrder(out)
	for index, p := range parts {
		unknown := func(site int) bool { return !slices.Contains(k.known, site) }
		if p.isFunction() && !out[index] && !slices.ContainsFunc(callers[index], unknown) {
			k.direct = append(k.direct, index)
		}
	}
	return k
}

// exitsByText returns the parts from which functions escape, of one part and its kids.
func exitsByText(parts []spotted, index int) []int {
	var exits []int
	if index == 0 {
		exits = append(exits, 0)
	}
	switch at := parts[index].at; parts[index].front {
	case "(":
		exits = append(exits, at[1])
	case "+", "-", "*":
		exits = append(exits, at[0], at[1])
	case "?":
		exits = append(exits, at[0])
	}
	return exits
}

// textWith returns the text of a part in which another text stands for one part within it.
func textWith(parts []spotted, index, replaced int, other string) string {
	if index == replaced {
		return other
	}
	p := parts[index].piece
	p.kids = nil
	for _, at := range parts[index].at {
		p.kids = append(p.kids, textWith(parts, at, replaced, other))
	}
	return p.text()
}

// unfoldByText returns the empty string where there is no term.
func unfoldByText(parts []spotted, f flowing, k knowing, site int) string {
	if !slices.Contains(k.known, site) {
		return ""
	}
	called := parts[site].at[0]
	fun := parts[f.at(called)[0]].text()
	made := textWith(parts, 0, called, fun)
	if freeOf(fun) != "" || !impl.TermValid(made) {
		return ""
	}
	return made
}

// checkKnown checks all that chapter 8 tells of a closed term for which there are enough names, by the oracles.
func checkKnown(t *testing.T, text string) knowing {
	t.Helper()
	unique, ok := impl.Unique(text)
	if !ok || !impl.IsClosed(text) {
		t.Fatalf("Unique(%q) = %q, %v", text, unique, ok)
	}
	parts := spottedIn(unique)
	f := flowByText(parts)
	k := knowByText(parts, f)
	checkList(t, "KnownCalls", text, impl.KnownCalls, k.known)
	checkList(t, "EscapesIn", text, impl.EscapesIn, k.escapes)
	checkList(t, "DirectIn", text, impl.DirectIn, k.direct)
	run := runByText(text, nil)
	checkShares(t, text, run, k)
	for _, index := range indicesAround(len(parts)) {
		checkUnfold(t, text, index, unfoldByText(parts, f, k, index))
	}
	checkPromise(t, text, run)
	return k
}

// shareOf returns how many of some indices are among marked ones, and how many there are.
func shareOf(indices, marked []int) [2]int {
	n := 0
	for _, index := range indices {
		if slices.Contains(marked, index) {
			n++
		}
	}
	return [2]int{n, len(indices)}
}

func checkShares(t *testing.T, text string, run told, k knowing) {
	t.Helper()
	known, spared := shareOf(run.sites, k.known), shareOf(run.made, k.direct)
	done := run.end == impl.EndDone
	if some, all, ok := impl.KnownShare(text); [2]int{some, all} != known || ok != done {
		t.Errorf("KnownShare(%q) = %d, %d, %v, want %v, %v", text, some, all, ok, known, done)
	}
	if some, all, ok := impl.SparedClosures(text); [2]int{some, all} != spared || ok != done {
		t.Errorf("SparedClosures(%q) = %d, %d, %v, want %v, %v", text, some, all, ok, spared, done)
	}
}

func checkUnfold(t *testing.T, text string, index int, want string) {
	t.Helper()
	if got, ok := impl.UnfoldKnown(text, index); got != want || ok != (want != "") {
		t.Errorf("UnfoldKnown(%q, %d) = %q, %v, want %q", text, index, got, ok, want)
	}
}

// checkPromise checks what has to be true of the functions of the program among themselves.
func checkPromise(t *testing.T, text string, run told) {
	t.Helper()
	known, _ := impl.KnownCalls(text)
	for _, site := range callsOf(text) {
		if may, _ := impl.MayCall(text, site); (len(may) == 1) != slices.Contains(known, site) {
			t.Errorf("in %q the call %d may call %v, but KnownCalls = %v", text, site, may, known)
		}
	}
	escapes, _ := impl.EscapesIn(text)
	direct, _ := impl.DirectIn(text)
	for _, fun := range direct {
		callers, ok := impl.CallersOf(text, fun)
		unknown := func(site int) bool { return !slices.Contains(known, site) }
		if slices.Contains(escapes, fun) || slices.ContainsFunc(callers, unknown) || !ok {
			t.Errorf("in %q the function %d is direct, but EscapesIn = %v, and CallersOf = %v, %v", text, fun, escapes, callers, ok)
		}
	}
	observed, _ := impl.ObservedCalls(text)
	for _, pair := range observed {
		if may, _ := impl.MayCall(text, pair[0]); slices.Contains(known, pair[0]) && !slices.Equal(may, pair[1:]) {
			t.Errorf("in %q the known call %d calls %d, but MayCall = %v", text, pair[0], pair[1], may)
		}
	}
	checkCounts(t, text)
	checkUnfoldedRuns(t, text, run)
}

// checkCounts checks the shares by the counts of the run.
func checkCounts(t *testing.T, text string) {
	t.Helper()
	count, done := impl.CountTerm(text)
	if some, all, ok := impl.KnownShare(text); some < 0 || some > all || all != count.Calls || ok != done {
		t.Errorf("KnownShare(%q) = %d, %d, %v, but CountTerm = %v, %v", text, some, all, ok, count, done)
	}
	if some, all, ok := impl.SparedClosures(text); some < 0 || some > all || all != count.Closures || ok != done {
		t.Errorf("SparedClosures(%q) = %d, %d, %v, but CountTerm = %v, %v", text, some, all, ok, count, done)
	}
}

// checkUnfoldedRuns checks that a run that ends with EndDone does so, with the same result, whichever known call is unfolded.
func checkUnfoldedRuns(t *testing.T, text string, run told) {
	t.Helper()
	for _, site := range callsOf(text) {
		made, ok := impl.UnfoldKnown(text, site)
		if !ok {
			continue
		}
		if !impl.IsClosed(made) {
			t.Errorf("UnfoldKnown(%q, %d) = %q, which is no closed term", text, site, made)
		}
		if x, _ := impl.RunTerm(made); run.end == impl.EndDone && x != (impl.Result{IsFun: run.isFun, Value: run.value}) {
			t.Errorf("%q comes to %s, but %q to %s", text, run.text(), made, impl.FormatResult(x))
		}
	}
}

// knownText tells what KnownCalls, EscapesIn and DirectIn return.
func knownText(text string) string {
	known, _ := impl.KnownCalls(text)
	escapes, _ := impl.EscapesIn(text)
	direct, _ := impl.DirectIn(text)
	return strings.Join([]string{listed("known", known), listed("escapes", escapes), listed("direct", direct)}, " ")
}

// checkKnownTexts checks terms by what knownText tells of them.
func checkKnownTexts(t *testing.T, cases map[string]string) {
	t.Helper()
	for text, want := range cases {
		if got := knownText(text); got != want {
			t.Errorf("the calls and functions of %q are %q, want %q", text, got, want)
		}
		checkKnown(t, text)
	}
}

func TestKnownOfTermsWithoutCallsAndFunctions(t *testing.T) {
	for _, text := range []string{"0", "7", "#99", "+12", "=a1a", "=a1=b2*ab", "?0+12-34", sum(repeat("1", 60)), strings.Repeat("=a1", 16) + "a"} {
		checkKnownTexts(t, map[string]string{text: "known: escapes: direct:"})
		checkShareText(t, text, "0 of 0, 0 of 0")
	}
	checkKnownTexts(t, map[string]string{
		"(12)":         "known: escapes: direct:",
		"((12)(34))":   "known: escapes: direct:",
		"=a(12)(aa)":   "known: escapes: direct:",
		`\aa`:          "known: escapes:0 direct:",
		`\a\ba`:        "known: escapes:0 direct:1",
		`=a\bb7`:       "known: escapes: direct:1",
		`=a\b\c\d17`:   "known: escapes: direct:1,2,3",
		`?\aa\bb\cc`:   "known: escapes:1,3,5 direct:",
		`=a?7\bb\cc1`:  "known: escapes: direct:3,5",
		`=a@bc?c\dd07`: "known: escapes: direct:1,4",
	})
}

func TestKnownCalls(t *testing.T) {
	checkKnownTexts(t, map[string]string{
		// Calls that may call no function.
		`(1\aa)`:       "known: escapes:2 direct:",
		`(+1\aa\bb)`:   "known: escapes:3,5 direct:",
		`=a7(a1)`:      "known: escapes: direct:",
		`((\a11)2)`:    "known:1 escapes: direct:2",
		`=f\a(a1)7`:    "known: escapes: direct:1",
		`?01(\a(a1)2)`: "known:3 escapes: direct:4",
		// One.
		`(\aa1)`:              "known:0 escapes: direct:1",
		"(@aba1)":             "known:0 escapes:1 direct:",
		`=f\aa(f1)`:           "known:3 escapes: direct:1",
		`=f\aa=gf=hg(h1)`:     "known:7 escapes: direct:1",
		`=f\aa(?0ff1)`:        "known:3 escapes: direct:1",
		`((\a\bb1)2)`:         "known:0,1 escapes: direct:2,3",
		`=f\aa+(f1)(f(f2))`:   "known:4,7,9 escapes: direct:1",
		`(\f(f(f1))\j*j2)`:    "known:0,2,4 escapes:7 direct:1",
		`=a2=f\j+ja(f3)`:      "known:7 escapes: direct:3",
		`(\f(f2)\a*aa)`:       "known:0,2 escapes:5 direct:1",
		`=f\a+a1+(f2)(f3)`:    "known:6,9 escapes: direct:1",
		`=f\a\bb((f1)2)`:      "known:4,5 escapes: direct:1,2",
		`=f\a\b+ab=g(f1)(g2)`: "known:7,10 escapes: direct:1,2",
		// Two and three.
		`(?0\aa\bb1)`:                  "known: escapes: direct:",
		`=a?0\bb\c1(a2)`:               "known: escapes: direct:",
		`(?0\aa?1\bb\cc1)`:             "known: escapes: direct:",
		`=f\a(a1)+(f\bb)(f\cc)`:        "known:6,10 escapes:8,12 direct:1",
		`=f\a\ba+((f\cc)1)((f\dd)2)`:   "known:5,6,11,12 escapes:8,14 direct:1,2",
		`=f\a(a1)=g\b2+(fg)(f\cc)`:     "known:9,12 escapes:6,14 direct:1",
		`=f\a(a1)=g\b2?(fg)(fg)(f\cc)`: "known:9,12,15 escapes:6,17 direct:1",
		// Two functions with the same text.
		`(?0\aa\aa1)`: "known: escapes: direct:",
		// A function and a number.
		`(?0\aa71)`:         "known:0 escapes: direct:3",
		`=f\a(a1)(f?0\bb2)`: "known:2,5 escapes:9 direct:1",
	})
}

// Calls in the bodies of functions that are never called, and in branches that are never taken, are known or not like all others.
func TestKnownCallsThatNeverHappen(t *testing.T) {
	checkKnownTexts(t, map[string]string{
		`\a(\bb1)`:               "known:1 escapes:0 direct:2",
		`\a(a\bb)`:               "known: escapes:0,3 direct:",
		`\a(?a\bb\cc1)`:          "known: escapes:0 direct:",
		`=f\a(\bba)7`:            "known:2 escapes: direct:1,3",
		`=f\a(?0\bb\cca)7`:       "known: escapes: direct:1",
		`?01(\aa2)`:              "known:3 escapes: direct:4",
		`?1(\aa2)3`:              "known:2 escapes: direct:3",
		`=f\aa?0(f1)(f2)`:        "known:5,8 escapes: direct:1",
		`=f\aa?0(f1)(?0f\bb2)`:   "known:5 escapes: direct:",
		`=f\aa=g\b(?bf\cc1)(f2)`: "known:12 escapes: direct:4",
		`+(12)(\aa3)`:            "known:4 escapes: direct:5",
		`@ab(a\cc)`:              "known:1 escapes:0,3 direct:",
	})
}

// Each function escapes in one way alone.
func TestWaysToEscape(t *testing.T) {
	checkKnownTexts(t, map[string]string{
		// It flows to the part 0: there itself, or through a name, a choice or a call.
		`\a7`:               "known: escapes:0 direct:",
		`@ab7`:              "known: escapes:0 direct:",
		`=f\aaf`:            "known: escapes:1 direct:",
		`=f\aa=gfg`:         "known: escapes:1 direct:",
		`=a7\bb`:            "known: escapes:2 direct:",
		`?0\aa7`:            "known: escapes:2 direct:",
		`?07\aa`:            "known: escapes:3 direct:",
		`(\a\bb7)`:          "known:0 escapes:2 direct:1",
		`((\a\b\cc7)8)`:     "known:0,1 escapes:4 direct:2,3",
		`=f?0\aa\bbf`:       "known: escapes:3,5 direct:",
		`=f\a\bb=g(f1)?0g2`: "known:5 escapes:2 direct:1",
		`=f@ab?ba0(f1)`:     "known:6 escapes:1 direct:",
		// It flows to U of a call.
		`(\a1\bb)`:         "known:0 escapes:3 direct:1",
		`(1\aa)`:           "known: escapes:2 direct:",
		`=f\aa(\b1f)`:      "known:3 escapes:1 direct:4",
		`(\a1?0\bb7)`:      "known:0 escapes:5 direct:1",
		`(\a1(\b\cc1))`:    "known:0,3 escapes:5 direct:1,4",
		`=f\a1=g\bb(fg)`:   "known:6 escapes:4 direct:1",
		`=f\a1=g\b(\c1f)7`: "known:5 escapes:1 direct:4,6",
		`=f@ab(\c1a)7`:     "known:2 escapes:1 direct:3",
		`=f\a1=g\b(f\cc)7`: "known:5 escapes:7 direct:1,4",
		// It flows to a side.
		`+\aa1`:         "known: escapes:1 direct:",
		`+1\aa`:         "known: escapes:2 direct:",
		`-\aa1`:         "known: escapes:1 direct:",
		`-1\aa`:         "known: escapes:2 direct:",
		`*\aa1`:         "known: escapes:1 direct:",
		`*1\aa`:         "known: escapes:2 direct:",
		`+@abb1`:        "known: escapes:1 direct:",
		`=f\aa+f1`:      "known: escapes:1 direct:",
		`=f\aa-1f`:      "known: escapes:1 direct:",
		`=f\aa*1?0f2`:   "known: escapes:1 direct:",
		`=f\a\bb+1(f2)`: "known:6 escapes:2 direct:1",
		`=f\aa=g\b+fb7`: "known: escapes:1 direct:4",
		// It flows to T of a choice.
		`?\aa12`:         "known: escapes:1 direct:",
		`?@abb12`:        "known: escapes:1 direct:",
		`=f\aa?f12`:      "known: escapes:1 direct:",
		`??0\aa123`:      "known: escapes:3 direct:",
		`?(\a\bb1)23`:    "known:1 escapes:3 direct:2",
		`=f\aa=g\b?f127`: "known: escapes:1 direct:4",
	})
}

// Functions that flow elsewhere alone do not escape.
func TestFunctionsThatDoNotEscape(t *testing.T) {
	checkKnownTexts(t, map[string]string{
		// To T of a call.
		`(\aa1)`:      "known:0 escapes: direct:1",
		`(@abb1)`:     "known:0 escapes: direct:1",
		`(?0\aa71)`:   "known:0 escapes: direct:3",
		`(?07\aa1)`:   "known:0 escapes: direct:4",
		`(=f\aaf1)`:   "known:0 escapes: direct:2",
		`((\a\bb1)2)`: "known:0,1 escapes: direct:2,3",
		// To v of a let.
		`=f\aa1`:    "known: escapes: direct:1",
		`=f=g\aag1`: "known: escapes: direct:2",
		`+1=f\aa2`:  "known: escapes: direct:3",
		`?=f\aa012`: "known: escapes: direct:2",
		`(1=f\aa2)`: "known: escapes: direct:3",
		// To U or W of a choice.
		`=f?0\aa12`:    "known: escapes: direct:3",
		`=f?01\aa2`:    "known: escapes: direct:4",
		`=f?0\aa\bb2`:  "known: escapes: direct:3,5",
		`=f\aa=g?0f12`: "known: escapes: direct:1",
		`=f\aa=g?01f2`: "known: escapes: direct:1",
		// To the body of a function that is never called.
		`=f\a\bb7`: "known: escapes: direct:1,2",
		`\a\b\cc`:  "known: escapes:0 direct:1,2",
		`@ab\cc`:   "known: escapes:0 direct:1",
		`\a=b\cc1`: "known: escapes:0 direct:2",
		// Nowhere but to themselves and to names that are read by no part.
		`=f@ab77`:        "known: escapes: direct:1",
		`=f\aa=f\bb(f1)`: "known:6 escapes: direct:1,4",
	})
}

func TestDirectFunctions(t *testing.T) {
	checkKnownTexts(t, map[string]string{
		// They do not escape and are never called.
		`=f\aa7`:     "known: escapes: direct:1",
		`=f@ab(ab)7`: "known:2 escapes: direct:1",
		`=f?0\aa12`:  "known: escapes: direct:3",
		// They do not escape, but a call that is not known may call them.
		`(?0\aa\bb1)`:                 "known: escapes: direct:",
		`=f\aa(?0f\bb1)`:              "known: escapes: direct:",
		`=f\aa+(f1)(?0f\bb2)`:         "known:4 escapes: direct:",
		`=f\aa+(?0f\bb2)(f1)`:         "known:11 escapes: direct:",
		`=f\aa=g\bb=h\c7+(h1)(?0fg2)`: "known:10 escapes: direct:7",
		`=f\aa=g\b(?0f\cc1)7`:         "known: escapes: direct:4",
		// They escape, and known calls alone may call them.
		`=f\a7+f(f2)`:  "known:5 escapes:1 direct:",
		`=f\a7(ff)`:    "known:3 escapes:1 direct:",
		`=f\a7?(f1)f2`: "known:4 escapes:1 direct:",
		`(\a(a1)\b7)`:  "known:0,2 escapes:5 direct:1",
		`@ab(a1)`:      "known:1 escapes:0 direct:",
		// They escape, and other calls may call them too.
		`=f\a(a1)+(f\bb)(f\cc)`: "known:6,10 escapes:8,12 direct:1",
		`=f?0\aa\bb+f(f1)`:      "known: escapes:3,5 direct:",
		// They call themselves.
		"(@fn?n7(f-n1)2)":               "known:0,5 escapes: direct:1",
		"=f@ab?b1(a-b1)7":               "known:5 escapes: direct:1",
		"(@ab(ab)1)":                    "known:0,2 escapes: direct:1",
		"(@ab(aa)1)":                    "known:0,2 escapes:1 direct:",
		"(@ab+a(a1)2)":                  "known:0,4 escapes:1 direct:",
		"(@ab?ab(a1)2)":                 "known:0,5 escapes:1 direct:",
		`(@ab?b1(?0a\cc2)3)`:            "known:0 escapes: direct:",
		`(@ab?b1((a-b1)2)3)`:            "known:0,6 escapes: direct:1",
		`=f@ab?b1(a-b1)+(f2)(f3)`:       "known:5,11,14 escapes: direct:1",
		`=e@ab?b1(@de?e0(a-e1)-b1)(e4)`: "known:5,10,18 escapes: direct:1,6",
		// Some are direct and some are not.
		`=f\aa=g\bb+(f1)g`:  "known:7 escapes:4 direct:1",
		`=f\a(a1)=g\b7(fg)`: "known:2,8 escapes:6 direct:1",
	})
}

// Functions are told by their indices, whatever names the term binds.
func TestKnownIsThatOfUnique(t *testing.T) {
	for _, c := range [][2]string{
		{`(\f(f(f1))\j*j2)`, `(\a(a(a1))\a*a2)`},
		{`=a\bb=a1a`, `=k\oo=c1c`},
		{"(@fn?nf(f-n1)2)", "(@pa?ap(p-a1)2)"},
		{`=f\aa=f\b(fb)(f1)`, `=a\bb=c\d(ad)(c1)`},
		{`+(\aa1)(\aa\aa)`, `+(\aa1)(\bb\cc)`},
		{endless, `(\h(hh)\g(gg))`},
	} {
		if one, two := knownText(c[0]), knownText(c[1]); one != two {
			t.Errorf("the calls and functions of %q are %q, but those of %q %q", c[0], one, c[1], two)
		}
		if one, two := shareText(c[0]), shareText(c[1]); one != two {
			t.Errorf("the shares of %q are %q, but those of %q %q", c[0], one, c[1], two)
		}
		for _, text := range c {
			checkKnown(t, text)
		}
	}
}

// There may be more than 64 parts, and the last one of them all may be a known call or a function.
func TestKnownOfLargeTerms(t *testing.T) {
	checkKnownTexts(t, map[string]string{
		"=a" + sum(repeat("1", 30)) + `(\bb1)`:             "known:60 escapes: direct:61",
		"=a" + sum(repeat("1", 31)) + `(\bb1)`:             "known:62 escapes: direct:63",
		"=a" + sum(repeat("1", 31)) + `=b1(\cc1)`:          "known:64 escapes: direct:65",
		"=a" + sum(repeat("1", 32)) + `(\bb1)`:             "known:64 escapes: direct:65",
		"=a" + sum(repeat("1", 50)) + `(\bb\cc)`:           "known:100 escapes:103 direct:101",
		"=a" + sum(repeat("1", 50)) + `(\b(b1)\c2)`:        "known:100,102 escapes:105 direct:101",
		"=a" + sum(repeat("1", 55)) + `(\bb1)`:             "known:110 escapes: direct:111",
		"=a" + sum(repeat("1", 57)) + `\bb`:                "known: escapes:114 direct:",
		`=f\a` + sum(repeat("1", 40)) + chain("f", 7, "1"): "known:81,83,85,87,89,91,93 escapes: direct:1",
	})
	many := strings.Repeat(`?0\a1`, 15) + `\a1`
	for _, text := range []string{many, "(" + many + "1)", strings.Repeat(`\a`, 16) + "a", strings.Repeat("@ab", 8) + "a", "(" + strings.Repeat(`\a`, 15) + `a\aa)`} {
		checkKnown(t, text)
	}
}

// shareText tells what KnownShare and SparedClosures return: "none" for zeros and false by both, and "one" for false by one of them, or for other numbers with it.
func shareText(text string) string {
	known, calls, knownOk := impl.KnownShare(text)
	spared, closures, sparedOk := impl.SparedClosures(text)
	if !knownOk && !sparedOk && known == 0 && calls == 0 && spared == 0 && closures == 0 {
		return "none"
	}
	if !knownOk || !sparedOk {
		return "one"
	}
	pair := func(some, all int) string { return strconv.Itoa(some) + " of " + strconv.Itoa(all) }
	return pair(known, calls) + ", " + pair(spared, closures)
}

func checkShareText(t *testing.T, text, want string) {
	t.Helper()
	if got := shareText(text); got != want {
		t.Errorf("the shares of %q are %q, want %q", text, got, want)
	}
	checkKnown(t, text)
}

func TestShares(t *testing.T) {
	for text, want := range map[string]string{
		// No calls.
		`\aa`:         "0 of 0, 0 of 1",
		`=f\aa7`:      "0 of 0, 1 of 1",
		`\a(\bb1)`:    "0 of 0, 0 of 1",
		`?01(\aa2)`:   "0 of 0, 0 of 0",
		`=f\a\bb7`:    "0 of 0, 1 of 1",
		`?0\aa\bb`:    "0 of 0, 0 of 1",
		`=a?0\bb\cc1`: "0 of 0, 1 of 1",
		// Known calls and others.
		`(\aa1)`:                      "1 of 1, 1 of 1",
		`(\aa\bb)`:                    "1 of 1, 1 of 2",
		`(?0\aa\bb1)`:                 "0 of 1, 0 of 1",
		`(?1\aa\bb1)`:                 "0 of 1, 0 of 1",
		`=a?0\bb\c1(a2)`:              "0 of 1, 0 of 1",
		`=f\aa+(f1)(?0f\bb2)`:         "1 of 2, 0 of 1",
		`=f\aa=g\bb=h\c7+(h1)(?0fg2)`: "1 of 2, 1 of 3",
		`=f\a(a1)+(f\bb)(f\cc)`:       "2 of 4, 1 of 3",
		`(\f(f2)\a*aa)`:               "2 of 2, 1 of 2",
		`=f\a\bb((f1)2)`:              "2 of 2, 2 of 2",
		`=f\a\b+ab=g(f1)+(g2)(g3)`:    "3 of 3, 2 of 2",
		// Branches that are not taken, and functions that are evaluated but never called.
		`?0(\aa1)(?0\bb\cc2)`:       "1 of 1, 1 of 1",
		`?1(\aa1)(?0\bb\cc2)`:       "0 of 1, 0 of 1",
		`=f\aa=g\bb(g1)`:            "1 of 1, 2 of 2",
		`=f\aa=g\bb(gf)`:            "1 of 1, 1 of 2",
		`=f\aa=g?01\b2=h?0\c31(f4)`: "1 of 1, 2 of 2",
		`+(\a1\bb)(\c2\dd)`:         "2 of 2, 2 of 4",
		// A call and a function that come often.
		`=f\a+a1(f(f(f(f1))))`:          "4 of 4, 1 of 1",
		`(@fn?n7(f-n1)9)`:               "10 of 10, 1 of 1",
		`(@fn?n7(f-n1)#49)`:             "50 of 50, 1 of 1",
		`(@fn?n7=g\aa(f-n1)9)`:          "10 of 10, 10 of 10",
		`(@fn?n7=g\aa(f(g-n1))9)`:       "19 of 19, 10 of 10",
		`(@fn?n7(f(\aa-n1))9)`:          "19 of 19, 10 of 10",
		`(@fn?n7=g?n\aa\bb(f(g-n1))9)`:  "10 of 19, 1 of 10",
		`(@fn?n7=g(\a1\bb)(f-n1)9)`:     "19 of 19, 10 of 19",
		`=f\a(\bba)+(f1)+(f2)(f3)`:      "6 of 6, 4 of 4",
		`=f\a(a1)=g\b2+(fg)+(fg)(f\cc)`: "3 of 6, 1 of 3",
	} {
		checkShareText(t, text, want)
	}
}

// If a run does not end with EndDone, there are no shares, whatever has happened before.
func TestSharesOfRunsThatAreNotDone(t *testing.T) {
	for text, end := range map[string]int{
		"(12)":                 impl.EndFault,
		`+1\aa`:                impl.EndFault,
		`?\aa12`:               impl.EndFault,
		`(\aa(12))`:            impl.EndFault,
		`+(\aa1)(12)`:          impl.EndFault,
		`=f\aa+(f1)\bb`:        impl.EndFault,
		`((\aa1)2)`:            impl.EndFault,
		endless:                impl.EndLong,
		`+(\aa1)` + endless:    impl.EndLong,
		"(@fn(fn)1)":           impl.EndLong,
		"(@fn?n0(f-n1)#50)":    impl.EndLong,
		`(\a1` + endless + `)`: impl.EndLong,
	} {
		if x, _ := impl.RunTerm(text); x.End != end {
			t.Errorf("RunTerm(%q) = %v", text, x)
		}
		checkShareText(t, text, "none")
	}
	for steps := 1495; steps <= 1505; steps++ {
		text := padded(busy(), steps-busySteps)
		if got := shareText(text); (got == "none") != (steps > 1500) {
			t.Errorf("%q makes %d steps, and the shares are %q", text, steps, got)
		}
		checkKnown(t, text)
	}
}

func TestUnfoldKnown(t *testing.T) {
	for _, c := range []struct {
		text string
		part int
		want string
	}{
		{`=f\a+a1+(f2)(f3)`, 6, `=a\b+b1+(\b+b12)(a3)`},
		{`=f\a+a1+(f2)(f3)`, 9, `=a\b+b1+(a2)(\b+b13)`},
		{`(\f(f2)\a*aa)`, 2, `(\a(\b*bb2)\b*bb)`},
		// What stands there already, the whole term as the call.
		{`(\f(f2)\a*aa)`, 0, `(\a(a2)\b*bb)`},
		{`(\aa1)`, 0, `(\aa1)`},
		{`(\p(p1)\oo)`, 2, `(\a(\bb1)\bb)`},
		// T that is more than a name.
		{`(=f\aaf1)`, 0, `(\bb1)`},
		{`(?0\aa71)`, 0, `(\aa1)`},
		{`((\a\bb1)2)`, 0, `(\bb2)`},
		{`((\a\bb1)2)`, 1, `((\a\bb1)2)`},
		{`=f\aa(?(f0)ff3)`, 3, `=a\bb(\bb3)`},
		{`=f\aa(?(f0)ff3)`, 5, `=a\bb(?(\bb0)aa3)`},
		{`=f\a\bb((f1)2)`, 4, `=a\b\cc(\cc2)`},
		{`=f\a\bb((f1)2)`, 5, `=a\b\cc((\b\cc1)2)`},
		// The call lies within other parts, on each side of them.
		{`=f\a7=g(f1)2`, 4, `=a\b7=c(\b71)2`},
		{`=f\a7-(f1)2`, 4, `=a\b7-(\b71)2`},
		{`=f\a7*1(f2)`, 5, `=a\b7*1(\b72)`},
		{`=f\a7?(f1)23`, 4, `=a\b7?(\b71)23`},
		{`=f\a7?1(f2)3`, 5, `=a\b7?1(\b72)3`},
		{`=f\a7?12(f3)`, 6, `=a\b7?12(\b73)`},
		{`=f\a7(f(f1))`, 3, `=a\b7(\b7(a1))`},
		{`=f\a7(f(f1))`, 5, `=a\b7(a(\b71))`},
		{`=f\a7((\g\c(f1)2)3)`, 7, `=a\b7((\c\d(\b71)2)3)`},
		{`=f\a7@bc(fc)`, 4, `=a\b7@cd(\b7d)`},
		// The function calls itself, also by this call.
		{"(@fn?n7(f-n1)2)", 0, "(@ab?b7(a-b1)2)"},
		{"(@fn?n7(f-n1)2)", 5, "(@ab?b7(@ab?b7(a-b1)-b1)2)"},
		{"=f@ab(ab)(f1)", 5, "=a@bc(bc)(@bc(bc)1)"},
		{"=f@ab(ab)(f1)", 2, "=a@bc(@bc(bc)c)(a1)"},
		{`(\a(aa)\a(aa))`, 2, `(\a(\b(bb)a)\b(bb))`},
		{`(\a(aa)\a(aa))`, 6, `(\a(aa)\b(\b(bb)b))`},
		// The call never happens, or the run is not done.
		{`\a(\bb1)`, 1, `\a(\bb1)`},
		{`=f\a7\b(f1)`, 4, `=a\b7\c(\b71)`},
		{`=f\a7?01(f2)`, 6, `=a\b7?01(\b72)`},
		{`=f\a(12)(f3)`, 5, `=a\b(12)(\b(12)3)`},
		{`=f\aa(?(12)ff3)`, 3, `=a\bb(\bb3)`},
		// A number may be called there too.
		{`(?0\aa71)`, 0, `(\aa1)`},
		{`=f\a(a1)(f?0\bb2)`, 2, `=a\b(\cc1)(a?0\cc2)`},
		// A name stands free in the function.
		{`=c3=f\a+ac(f1)`, 7, ""},
		{`(\a(\ba1)2)`, 2, ""},
		{`(\a((\b\ca1)2)3)`, 2, ""},
		{`(\a((\b\ca1)2)3)`, 3, ""},
		{`(\a((\b\ca1)2)3)`, 0, `(\a((\b\ca1)2)3)`},
		{`=g\aa=f@bc?c0(g(b-c1))(f2)`, 17, ""},
		{`=g\aa=f@bc?c0(g(b-c1))(f2)`, 8, `=a\bb=c@de?e0(\bb(d-e1))(c2)`},
		{`=g\aa=f@bc?c0(g(b-c1))(f2)`, 10, ""},
		// The call is not known.
		{`=a?0\bb\c1(a2)`, 6, ""},
		{`(?0\aa\bb1)`, 0, ""},
		{`(?0\aa\aa1)`, 0, ""},
		{"(12)", 0, ""},
		{`(1\aa)`, 0, ""},
		{`=f\a(a1)+(f\bb)(f\cc)`, 2, ""},
		{`=f\a(a1)+(f\bb)(f\cc)`, 6, `=a\b(b1)+(\b(b1)\cc)(a\dd)`},
		// The part is no call.
		{`(\f(f2)\a*aa)`, 1, ""},
		{`(\f(f2)\a*aa)`, 3, ""},
		{`(\f(f2)\a*aa)`, 5, ""},
		{`=f\aa(f1)`, 0, ""},
		{"7", 0, ""},
		{`\aa`, 0, ""},
		{"+12", 0, ""},
	} {
		checkUnfold(t, c.text, c.part, c.want)
		if _, ok := impl.Unique(c.text); ok && impl.IsClosed(c.text) {
			checkKnown(t, c.text)
		}
	}
}

func TestIndicesOfUnfoldKnown(t *testing.T) {
	for text, want := range map[string]map[int]string{
		"7":                {},
		`\aa`:              {},
		`(\f(f2)\a*aa)`:    {0: `(\a(a2)\b*bb)`, 2: `(\a(\b*bb2)\b*bb)`},
		`=f\aa=g\bb+7(f1)`: {8: `=a\bb=c\dd+7(\bb1)`},
		`=f\aa(f\bb)`:      {3: `=a\bb(\bb\cc)`},
	} {
		for _, index := range indicesAround(impl.SizeOf(text)) {
			checkUnfold(t, text, index, want[index])
		}
	}
}

// lastCall returns the index of the last call of a term.
func lastCall(text string) int {
	sites := callsOf(text)
	return sites[len(sites)-1]
}

// What is made may have 120 bytes, but not more.
func TestUnfoldedTermsThatAreLong(t *testing.T) {
	for numbers := 1; numbers < 29; numbers++ {
		fun := `\b` + sum(repeat("1", numbers))
		for _, arg := range []string{"1", "(a1)"} {
			want := "=a" + fun + "(" + fun + arg + ")"
			if len(want) > 120 {
				want = ""
			}
			text := "=a" + fun + "(a" + arg + ")"
			checkUnfold(t, text, callsOf(text)[0], want)
			checkKnown(t, text)
		}
	}
	for text, bytes := range map[string]int{
		`=a\b` + sum(repeat("1", 27)) + "(a1)":         115,
		`=a\b` + sum(repeat("1", 28)) + "(a1)":         119,
		`=a\b` + sum(repeat("1", 29)) + "(a1)":         123,
		`=a\b+?111` + sum(repeat("1", 26)) + "(a1)":    121,
		`=a\b` + sum(repeat("1", 27)) + "(a(a1))":      118,
		`=a\b+?111` + sum(repeat("1", 25)) + "(a(a1))": 120,
		`=a\b` + sum(repeat("1", 28)) + "(a(a1))":      122,
	} {
		made, ok := impl.UnfoldKnown(text, callsOf(text)[0])
		if ok != (bytes <= 120) || ok && len(made) != bytes || !ok && made != "" {
			t.Errorf("UnfoldKnown(%q) = %q, %v, want %d bytes", text, made, ok, bytes)
		}
	}
}

// What is made may have 24 parts within each other, but not more.
func TestUnfoldedTermsThatAreDeep(t *testing.T) {
	for deep := 2; deep <= 23; deep++ {
		fun := `\b` + strings.Repeat("+1", deep-2) + "b"
		for more := 0; more <= 21; more += 3 {
			around := "=a" + fun + strings.Repeat("+1", more)
			want := around + "(" + fun + "1)"
			if 2+more+deep > 24 {
				want = ""
			}
			text := around + "(a1)"
			checkUnfold(t, text, lastCall(text), want)
			checkKnown(t, text)
		}
	}
	for text, want := range map[string]string{
		`=a\b` + strings.Repeat("+1", 20) + "b(a1)": `=a\b` + strings.Repeat("+1", 20) + `b(\b` + strings.Repeat("+1", 20) + "b1)",
		`=a\b` + strings.Repeat("+1", 21) + "b(a1)": "",
		`=a\b7` + strings.Repeat("+1", 20) + "(a1)": `=a\b7` + strings.Repeat("+1", 20) + `(\b71)`,
		`=a\b7` + strings.Repeat("+1", 21) + "(a1)": "",
	} {
		checkUnfold(t, text, lastCall(text), want)
	}
}

// A function that stands twice afterwards binds the same names twice, and both are functions of their own from then on.
func TestUnfoldedTermsAreNotUnique(t *testing.T) {
	for text, unique := range map[string]bool{
		`=f\a+a1+(f2)(f3)`: false,
		`(\f(f2)\a*aa)`:    true,
		`(\aa1)`:           true,
		`(=f\aaf1)`:        true,
		"=f@ab(ab)(f1)":    false,
	} {
		made, ok := impl.UnfoldKnown(text, callsOf(text)[0])
		if !ok || impl.IsUnique(made) != unique {
			t.Errorf("UnfoldKnown(%q) = %q, %v, and IsUnique = %v", text, made, ok, impl.IsUnique(made))
		}
		checkKnown(t, made)
	}
}

// checkUnknown checks a text for which no function of chapter 8 has a result.
func checkUnknown(t *testing.T, text string) {
	t.Helper()
	for name, f := range map[string]func(t string) ([]int, bool){"KnownCalls": impl.KnownCalls, "EscapesIn": impl.EscapesIn, "DirectIn": impl.DirectIn} {
		if list, ok := f(text); len(list) != 0 || ok {
			t.Errorf("%s(%q) = %v, %v", name, text, list, ok)
		}
	}
	for name, f := range map[string]func(t string) (int, int, bool){"KnownShare": impl.KnownShare, "SparedClosures": impl.SparedClosures} {
		if some, all, ok := f(text); some != 0 || all != 0 || ok {
			t.Errorf("%s(%q) = %d, %d, %v", name, text, some, all, ok)
		}
	}
	for _, index := range append(indicesAround(max(0, impl.SizeOf(text))), 1, 2, 7) {
		checkUnfold(t, text, index, "")
	}
}

func TestKnownOfWhatIsNoClosedTerm(t *testing.T) {
	more := []string{`=a\bbc`, `(\a(ab)1)`, `(\aab)`, `@ab(ac)`, `=c\aa(c1)d`, `(\aa1) `, `(\aa1`, "{A}", "A0a:a/({A}1)", strings.Repeat("(", 100000), strings.Repeat(`\a`, 100000) + "a", strings.Repeat("+1", 22) + `(\aa1)`}
	for _, text := range slices.Concat(noTerms, noClosedTerms, more) {
		checkUnknown(t, text)
	}
}

// The runs of some of these end with EndDone, but nothing is known of what they call.
func TestKnownWhereNamesAreNotEnough(t *testing.T) {
	for text, calls := range map[string]int{
		strings.Repeat("=a1", 17) + "a":                       0,
		strings.Repeat(`\a`, 17) + "a":                        0,
		strings.Repeat("@ab", 9) + "a":                        0,
		strings.Repeat("=a1", 16) + `(\aa5)`:                  1,
		strings.Repeat("=a1", 15) + `(@aba5)`:                 1,
		"=f@fn?n7(f-n1)" + strings.Repeat("=a1", 14) + "(f3)": 4,
	} {
		if count, ok := impl.CountTerm(text); count.Calls != calls || !ok {
			t.Errorf("CountTerm(%q) = %v, %v", text, count, ok)
		}
		checkUnknown(t, text)
	}
	// With one binder less there are just enough.
	checkShareText(t, strings.Repeat("=a1", 16)+"a", "0 of 0, 0 of 0")
	checkShareText(t, strings.Repeat(`\a`, 16)+"a", "0 of 0, 0 of 1")
	checkShareText(t, strings.Repeat("=a1", 15)+`(\aa5)`, "1 of 1, 1 of 1")
	checkShareText(t, strings.Repeat("=a1", 14)+`(@aba5)`, "1 of 1, 0 of 1")
	checkShareText(t, "=f@fn?n7(f-n1)"+strings.Repeat("=a1", 13)+"(f3)", "4 of 4, 1 of 1")
}

// In grown terms, what is known is what the chapter says.
func TestGrownKnown(t *testing.T) {
	g := grower{rand.New(rand.NewSource(15))}
	checked := map[string]int{}
	for i := range 1800 {
		text := g.growFlowing("", 3+g.Intn(4))
		if i%2 == 0 {
			text = g.growCapturing(i / 2)
		}
		if !impl.IsClosed(text) {
			continue
		}
		if _, ok := impl.Unique(text); !ok {
			checkUnknown(t, text)
			checked["scarce"]++
			continue
		}
		k := checkKnown(t, text)
		checked["known"] += len(k.known)
		checked["unknown"] += len(callsOf(text)) - len(k.known)
		checked["escapes"] += len(k.escapes)
		checked["direct"] += len(k.direct)
		if x, _ := impl.RunTerm(text); x.End == impl.EndDone {
			checked["unfolded"] += unfoldOften(t, text)
		}
	}
	if checked["known"] < 1500 || checked["unknown"] < 700 || checked["escapes"] < 1700 || checked["direct"] < 1500 || checked["unfolded"] < 3500 || checked["scarce"] < 150 {
		t.Errorf("checked = %v", checked)
	}
}

// unfoldOften unfolds calls of a term one after the other as long as there are terms, and returns how many.
// The run of each of these terms ends like that of the first one, in no more steps than that of the one before.
func unfoldOften(t *testing.T, text string) int {
	t.Helper()
	want, _ := impl.RunTerm(text)
	before, _ := impl.CountTerm(text)
	for unfolded := range 12 {
		text = firstUnfolded(text, unfolded)
		if text == "" {
			return unfolded
		}
		x, _ := impl.RunTerm(text)
		after, _ := impl.CountTerm(text)
		if x != want || after.Steps > before.Steps || after.Calls > before.Calls {
			t.Errorf("%q comes to %v with %v, but before to %v with %v", text, x, after, want, before)
		}
		before = after
	}
	return 12
}

// firstUnfolded returns a term in which a known call is unfolded, the first one of which there is a term from a place on, or the empty string.
func firstUnfolded(text string, from int) string {
	sites, _ := impl.KnownCalls(text)
	for i := range sites {
		if made, ok := impl.UnfoldKnown(text, sites[(from+i)%len(sites)]); ok {
			return made
		}
	}
	return ""
}

// Texts that are nearly terms have results by all functions or by none.
func TestKnownOfChangedTexts(t *testing.T) {
	g := grower{rand.New(rand.NewSource(16))}
	some, none := 0, 0
	for i := range 800 {
		text := g.changed(g.growCapturing(i), `abcp019#\@()=+-*? `)
		if _, ok := impl.Unique(text); ok && impl.IsClosed(text) {
			checkKnown(t, text)
			some++
		} else {
			checkUnknown(t, text)
			none++
		}
	}
	if some < 30 || none < 250 {
		t.Errorf("%d texts have results, %d have none", some, none)
	}
}

// Whoever changes a result changes no other one.
func TestKnownIsNew(t *testing.T) {
	const text = `=f\a(a1)=g\b2+(fg)(f\cc)`
	lists := func() [][]int {
		known, _ := impl.KnownCalls(text)
		escapes, _ := impl.EscapesIn(text)
		direct, _ := impl.DirectIn(text)
		return [][]int{known, escapes, direct}
	}
	for _, list := range lists() {
		for i := range list[:cap(list)] {
			list[:cap(list)][i] = -7
		}
	}
	if again, want := lists(), [][]int{{9, 12}, {6, 14}, {1}}; !slices.EqualFunc(again, want, slices.Equal) {
		t.Errorf("the functions of %q return %v, want %v", text, again, want)
	}
}

// Whatever feeds a channel has ended when a function returns, or is about to end.
func TestKnownLeavesNothingRunning(t *testing.T) {
	before := runtime.NumGoroutine()
	for range 300 {
		impl.EscapesIn(`(\f(f2)\a*aa)`)
		impl.DirectIn(`(\f(f2)\a*aa)`)
		impl.SparedClosures(`(\f(f2)\a*aa)`)
		impl.EscapesIn("7")
		impl.DirectIn("(")
		impl.SparedClosures("(12)")
	}
	for range 200 {
		if runtime.NumGoroutine() <= before {
			return
		}
		time.Sleep(10 * time.Millisecond)
	}
	t.Errorf("%d goroutines are left of %d", runtime.NumGoroutine(), before)
}

// Several callers at the same time get what each of them gets alone.
func TestKnownAtTheSameTime(t *testing.T) {
	texts := []string{`(\f(f(f1))\j*j2)`, `=f\a+a1+(f2)(f3)`, `(\f(f2)\a*aa)`, "7", endless, "("}
	var wait sync.WaitGroup
	for i := range 8 * len(texts) {
		text := texts[i%len(texts)]
		want := knownText(text) + shareText(text)
		wait.Go(func() {
			if got := knownText(text) + shareText(text); got != want {
				t.Errorf("of %q at the same time: %q, want %q", text, got, want)
			}
		})
	}
	wait.Wait()
}
