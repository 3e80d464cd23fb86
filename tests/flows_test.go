package tests

import (
	"maps"
	"math"
	"math/rand"
	"slices"
	"strconv"
	"strings"
	"testing"

	"loop.example/flatfunctions/impl"
)

// A spotted piece is one with the indices of its kids.
type spotted struct {
	piece
	at []int
}

// spottedIn returns all pieces of a text, each at its index.
func spottedIn(text string) []spotted {
	var list []spotted
	var visit func(text string)
	visit = func(text string) {
		index := len(list)
		list = append(list, spotted{piece: pieceOf(text)})
		for _, kid := range list[index].kids {
			list[index].at = append(list[index].at, len(list))
			visit(kid)
		}
	}
	visit(text)
	return list
}

func (s spotted) isFunction() bool { return s.front == `\` || s.front == "@" }

// A flowing has, by the indices of parts in decimal and by names, which functions flow there.
type flowing map[string]map[int]bool

func (f flowing) at(index int) []int { return inOrder(f[strconv.Itoa(index)]) }

func inOrder(set map[int]bool) []int { return slices.Sorted(maps.Keys(set)) }

// add lets functions flow somewhere, and tells whether one of them is new there.
func (f flowing) add(to string, functions ...int) bool {
	if f[to] == nil {
		f[to] = map[int]bool{}
	}
	before := len(f[to])
	for _, fun := range functions {
		f[to][fun] = true
	}
	return len(f[to]) > before
}

// flowByText goes through all that the chapter says of a term with different bound names, until it says nothing new.
func flowByText(parts []spotted) flowing {
	f := flowing{}
	for news := true; news; {
		news = false
		for index := range parts {
			news = f.addOf(parts, index) || news
		}
	}
	return f
}

// addOf adds what the chapter says of one part, and tells whether some of it is new.
func (f flowing) addOf(parts []spotted, index int) bool {
	p, whole := parts[index], strconv.Itoa(index)
	news := false
	flow := func(to string, functions ...int) { news = f.add(to, functions...) || news }
	switch p.front {
	case `\`:
		flow(whole, index)
	case "@":
		flow(whole, index)
		flow(p.binds[:1], index)
	case "=":
		flow(p.binds, f.at(p.at[0])...)
		flow(whole, f.at(p.at[1])...)
	case "?":
		flow(whole, f.at(p.at[1])...)
		flow(whole, f.at(p.at[2])...)
	case "(":
		for _, fun := range f.at(p.at[0]) {
			flow(parts[fun].binds[len(parts[fun].binds)-1:], f.at(p.at[1])...)
			flow(whole, f.at(parts[fun].at[0])...)
		}
	}
	if strings.Contains(allNames, p.front) {
		flow(whole, inOrder(f[p.front])...)
	}
	return news
}

// checkList checks a function that is told no index.
func checkList(t *testing.T, name, text string, f func(t string) ([]int, bool), want []int) {
	t.Helper()
	if got, ok := f(text); !slices.Equal(got, want) || !ok {
		t.Errorf("%s(%q) = %v, %v, want %v", name, text, got, ok, want)
	}
}

// checkListAt checks a function for each of some indices, where want tells false for those that are not valid.
func checkListAt(t *testing.T, name, text string, f func(t string, index int) ([]int, bool), indices []int, want func(index int) ([]int, bool)) {
	t.Helper()
	for _, index := range indices {
		list, valid := want(index)
		if got, ok := f(text, index); !slices.Equal(got, list) || ok != valid {
			t.Errorf("%s(%q, %d) = %v, %v, want %v, %v", name, text, index, got, ok, list, valid)
		}
	}
}

// indicesAround returns the indices of so many parts, and some of none.
func indicesAround(parts int) []int {
	indices := []int{math.MinInt, -64, -2, -1, parts + 1, parts + 64, 1 << 32, math.MaxInt}
	for index := range parts + 1 {
		indices = append(indices, index)
	}
	return indices
}

// checkFlows checks all that chapter 7 tells of a closed term for which there are enough names, by the oracle.
func checkFlows(t *testing.T, text string) {
	t.Helper()
	unique, ok := impl.Unique(text)
	if !ok || !impl.IsClosed(text) {
		t.Fatalf("Unique(%q) = %q, %v", text, unique, ok)
	}
	parts := spottedIn(unique)
	f := flowByText(parts)
	checkListAt(t, "FlowTo", text, impl.FlowTo, indicesAround(len(parts)), func(index int) ([]int, bool) {
		return f.at(index), index >= 0 && index < len(parts)
	})
	for _, name := range strings.Split(allNames, "") {
		if got, ok := impl.NameFlow(text, name); !slices.Equal(got, inOrder(f[name])) || !ok {
			t.Errorf("NameFlow(%q, %q) = %v, %v, want %v", text, name, got, ok, inOrder(f[name]))
		}
	}
	checkCalls(t, text, parts, f)
	checkSums(t, text, parts, f)
	checkForeseen(t, text)
}

// checkCalls checks which parts are calls and what they may call.
func checkCalls(t *testing.T, text string, parts []spotted, f flowing) {
	t.Helper()
	var sites []int
	callers := map[int][]int{}
	for index, p := range parts {
		if p.front == "(" {
			sites = append(sites, index)
			for _, fun := range f.at(p.at[0]) {
				callers[fun] = append(callers[fun], index)
			}
		}
	}
	checkList(t, "CallSites", text, impl.CallSites, sites)
	checkListAt(t, "MayCall", text, impl.MayCall, indicesAround(len(parts)), func(index int) ([]int, bool) {
		if !slices.Contains(sites, index) {
			return nil, false
		}
		return f.at(parts[index].at[0]), true
	})
	checkListAt(t, "CallersOf", text, impl.CallersOf, indicesAround(len(parts)), func(index int) ([]int, bool) {
		return callers[index], index >= 0 && index < len(parts) && parts[index].isFunction()
	})
}

// checkSums checks CountFlows by the oracle and by FlowTo, and NeverCalled by CallersOf.
func checkSums(t *testing.T, text string, parts []spotted, f flowing) {
	t.Helper()
	want, sum := 0, 0
	var never []int
	for index, p := range parts {
		want += len(f.at(index))
		list, _ := impl.FlowTo(text, index)
		sum += len(list)
		if callers, _ := impl.CallersOf(text, index); p.isFunction() && len(callers) == 0 {
			never = append(never, index)
		}
	}
	if got := impl.CountFlows(text); got != want || sum != want {
		t.Errorf("CountFlows(%q) = %d, and the sum of FlowTo is %d, want %d", text, got, sum, want)
	}
	checkList(t, "NeverCalled", text, impl.NeverCalled, never)
}

// checkObserved checks ObservedCalls by the oracle of runs, and returns what this tells.
func checkObserved(t *testing.T, text string) told {
	t.Helper()
	run := runByText(text, nil)
	var want [][2]int
	for i, fun := range run.calls {
		if pair := [2]int{run.sites[i], fun}; !slices.Contains(want, pair) {
			want = append(want, pair)
		}
	}
	if got, ok := impl.ObservedCalls(text); !slices.Equal(got, want) || ok != (run.end == impl.EndDone) {
		t.Errorf("ObservedCalls(%q) = %v, %v, want %v, %v", text, got, ok, want, run.end == impl.EndDone)
	}
	return run
}

// checkForeseen checks that what is called in a run could be foreseen, and so could all functions to which parts are evaluated.
func checkForeseen(t *testing.T, text string) {
	t.Helper()
	run := checkObserved(t, text)
	never, _ := impl.NeverCalled(text)
	observed, _ := impl.ObservedCalls(text)
	for _, pair := range observed {
		may, _ := impl.MayCall(text, pair[0])
		callers, _ := impl.CallersOf(text, pair[1])
		if !slices.Contains(may, pair[1]) || !slices.Contains(callers, pair[0]) || slices.Contains(never, pair[1]) {
			t.Errorf("in %q the call %v is observed, but MayCall = %v, CallersOf = %v, NeverCalled = %v", text, pair, may, callers, never)
		}
	}
	if list, _ := impl.FlowTo(text, 0); run.isFun && !slices.Contains(list, run.fun) {
		t.Errorf("%q comes to the function %d, but FlowTo = %v", text, run.fun, list)
	}
	for pair := range run.came {
		if list, _ := impl.FlowTo(text, pair[0]); !slices.Contains(list, pair[1]) {
			t.Errorf("the part %d of %q comes to the function %d, but FlowTo = %v", pair[0], text, pair[1], list)
		}
	}
}

// listed returns a word for a list of functions: what it is of, and these.
func listed(what string, functions []int) string {
	var texts []string
	for _, fun := range functions {
		texts = append(texts, strconv.Itoa(fun))
	}
	return what + ":" + strings.Join(texts, ",")
}

// flowText tells which functions flow to the parts and names of a text, but for those to which none do.
func flowText(text string) string {
	var words []string
	for index := range impl.SizeOf(text) {
		if list, _ := impl.FlowTo(text, index); len(list) > 0 {
			words = append(words, listed(strconv.Itoa(index), list))
		}
	}
	for _, name := range strings.Split(allNames, "") {
		if list, _ := impl.NameFlow(text, name); len(list) > 0 {
			words = append(words, listed(name, list))
		}
	}
	return strings.Join(words, " ")
}

// callText tells which functions the calls of a text may call, and which are never called.
func callText(text string) string {
	var words []string
	sites, _ := impl.CallSites(text)
	for _, site := range sites {
		list, _ := impl.MayCall(text, site)
		words = append(words, listed(strconv.Itoa(site), list))
	}
	never, _ := impl.NeverCalled(text)
	return strings.Join(append(words, listed("never", never)), " ")
}

// A flowCase is a term with what flowText and callText tell of it, and its CountFlows.
type flowCase struct {
	text, flows, calls string
	count              int
}

func checkFlowCases(t *testing.T, cases []flowCase) {
	t.Helper()
	for _, c := range cases {
		if got := flowText(c.text); got != c.flows {
			t.Errorf("the flows of %q are %q, want %q", c.text, got, c.flows)
		}
		if got := callText(c.text); got != c.calls {
			t.Errorf("the calls of %q are %q, want %q", c.text, got, c.calls)
		}
		if got := impl.CountFlows(c.text); got != c.count {
			t.Errorf("CountFlows(%q) = %d, want %d", c.text, got, c.count)
		}
		checkFlows(t, c.text)
	}
}

func TestFlowsOfEachKindOfPart(t *testing.T) {
	checkFlowCases(t, []flowCase{
		{"7", "", "never:", 0},
		{"#42", "", "never:", 0},
		{`\aa`, "0:0", "never:0", 1},
		{`\a7`, "0:0", "never:0", 1},
		{`\a\ba`, "0:0 1:1", "never:0,1", 2},
		{"@abb", "0:0 a:0", "never:0", 1},
		{"@aba", "0:0 1:0 a:0", "never:0", 2},
		{"@ab7", "0:0 a:0", "never:0", 1},
		{`@ab\ca`, "0:0 1:1 2:0 a:0", "never:0,1", 3},
		{"=a7a", "", "never:", 0},
		{`=a\bba`, "0:1 1:1 3:1 a:1", "never:1", 3},
		{`=a\bb7`, "1:1 a:1", "never:1", 1},
		{`=a7\bb`, "0:2 2:2", "never:2", 2},
		{`=a\bb\cc`, "0:3 1:1 3:3 a:1", "never:1,3", 3},
		{`=a\bb=ca=dcd`, "0:1 1:1 3:1 4:1 5:1 6:1 7:1 a:1 c:1 d:1", "never:1", 7},
		{"?012", "", "never:", 0},
		{`?\aa78`, "1:1", "never:1", 1},
		{`?7\aa8`, "0:2 2:2", "never:2", 2},
		{`?78\aa`, "0:3 3:3", "never:3", 2},
		{`?\aa\bb\cc`, "0:3,5 1:1 3:3 5:5", "never:1,3,5", 5},
		{`=a?0\bb\cca`, "0:3,5 1:3,5 3:3 5:5 7:3,5 a:3,5", "never:3,5", 8},
		{"+12", "", "never:", 0},
		{`+\aa\bb`, "1:1 3:3", "never:1,3", 2},
		{`-\aa\bb`, "1:1 3:3", "never:1,3", 2},
		{`*\aa\bb`, "1:1 3:3", "never:1,3", 2},
		{`=a\bb+aa`, "1:1 4:1 5:1 a:1", "never:1", 3},
	})
}

func TestFlowsOfCalls(t *testing.T) {
	checkFlowCases(t, []flowCase{
		{"(12)", "", "0: never:", 0},
		{`(1\aa)`, "2:2", "0: never:2", 1},
		{`(\aa1)`, "1:1", "0:1 never:", 1},
		{`(\aa\bb)`, "0:3 1:1 2:3 3:3 a:3", "0:1 never:3", 4},
		{`(\a1\bb)`, "1:1 3:3 a:3", "0:1 never:3", 2},
		{`(\a\bb1)`, "0:2 1:1 2:2", "0:1 never:2", 3},
		{`(\a\ba\cc)`, "0:2 1:1 2:2 3:4 4:4 a:4", "0:1 never:2,4", 5},
		{"(@aba1)", "0:1 1:1 2:1 a:1", "0:1 never:", 3},
		{`(@abb\cc)`, "0:3 1:1 2:3 3:3 a:1 b:3", "0:1 never:3", 4},
		{`(@ab1\cc)`, "1:1 3:3 a:1 b:3", "0:1 never:3", 2},
		{`(?0\aa\bb\cc)`, "0:7 1:3,5 3:3 4:7 5:5 6:7 7:7 a:7 b:7", "0:3,5 never:7", 8},
		{`(\aa?0\bb\cc)`, "0:5,7 1:1 2:5,7 3:5,7 5:5 7:7 a:5,7", "0:1 never:5,7", 9},
		{`(+1\aa\bb)`, "3:3 5:5", "0: never:3,5", 2},
		{`(=a\bba\cc)`, "0:5 1:2 2:2 3:5 4:2 5:5 a:2 b:5", "0:2 never:5", 6},
		{`(\f(f(f1))\j*j2)`, "1:1 3:7 5:7 7:7 a:7", "0:1 2:7 4:7 never:", 4},
		{`(\f(f2)\a*aa)`, "1:1 3:5 5:5 a:5", "0:1 2:5 never:", 3},
		{`=a2=f\j+ja(f3)`, "3:3 8:3 b:3", "7:3 never:", 2},
	})
}

// What flows does so whether or not a part is ever evaluated.
func TestFlowsOfCallsThatNeverHappen(t *testing.T) {
	checkFlowCases(t, []flowCase{
		{`\a(\bb\cc)`, "0:0 1:4 2:2 3:4 4:4 b:4", "1:2 never:0,4", 5},
		{`\a(a\bb)`, "0:0 3:3", "1: never:0,3", 2},
		{`@ab(a\cc)`, "0:0 2:0 3:3 a:0 b:3", "1:0 never:3", 3},
		{`?01(\aa\bb)`, "0:6 3:6 4:4 5:6 6:6 a:6", "3:4 never:6", 5},
		{`?1(\aa\bb)2`, "0:5 2:5 3:3 4:5 5:5 a:5", "2:3 never:5", 5},
		{`=a\b(\cc\dd)1`, "1:1 2:5 3:3 4:5 5:5 a:1 c:5", "2:3 never:1,5", 5},
		{`((12)\aa)`, "4:4", "0: 1: never:4", 1},
		{`+1(\aa\bb)`, "2:5 3:3 4:5 5:5 a:5", "2:3 never:5", 4},
		{`=a\bb?0a(a\cc)`, "0:1,8 1:1 2:8 3:1,8 5:1 6:8 7:1 8:8 a:1 b:8", "6:1 never:8", 10},
		{`=a(12)(a\bb)`, "6:6", "1: 4: never:6", 1},
	})
}

// What flows to a name by one call flows on behind each other one.
func TestFlowsByTwoCalls(t *testing.T) {
	checkFlowCases(t, []flowCase{
		{`=a\bb=c(a\dd)(a\ee)`, "0:6,10 1:1 2:6,10 3:6,10 4:6,10 5:1 6:6 8:6,10 9:1 10:10 a:1 b:6,10 c:6,10", "4:1 8:1 never:6,10", 15},
		{`=a\b(b1)+(a\cc)(a\dd)`, "1:1 3:8,12 7:1 8:8 11:1 12:12 a:1 b:8,12", "2:8,12 6:1 10:1 never:", 7},
		{`+(\aa\bb)(\cc\dd)`, "1:4 2:2 3:4 4:4 6:9 7:7 8:9 9:9 a:4 c:9", "1:2 6:7 never:4,9", 8},
	})
}

func TestFlowsOfFunctionsThatReturnFunctions(t *testing.T) {
	checkFlowCases(t, []flowCase{
		{`((\a\bb1)\cc)`, "0:6 1:3 2:2 3:3 4:6 6:6 b:6", "0:3 1:2 never:6", 6},
		{`=a\b\cb((a1)a)`, "1:1 2:2 5:2 6:1 8:1 a:1 c:1", "4:2 5:1 never:", 5},
		{`(((\a\b\ca\dd)\ee)\ff)`, "0:7 1:5 2:4 3:3 4:4 5:5 6:7 7:7 9:9 11:11 a:7 b:9 c:11", "0:5 1:4 2:3 never:7,9,11", 10},
		{`((\aa\b\cc)1)`, "0:5 1:4 2:2 3:4 4:4 5:5 a:4", "0:4 1:2 never:5", 6},
	})
}

func TestFlowsOfFunctionsThatCallThemselves(t *testing.T) {
	checkFlowCases(t, []flowCase{
		{"(@fn?nf(f-n1)2)", "0:1 1:1 2:1 4:1 5:1 6:1 a:1", "0:1 5:1 never:", 6},
		{`(@ab?b1(a\cc)0)`, "1:1 3:7 6:1 7:7 a:1 b:7", "0:1 5:1 never:7", 4},
		{`(@ab?0b(a\cc)\dd)`, "0:7,9 1:1 2:7,9 4:7,9 5:7,9 6:1 7:7 9:9 a:1 b:7,9", "0:1 5:1 never:7,9", 12},
		{"(@ab(ba)@cd(dc))", "1:1 3:5 4:1 5:5 7:1 8:5 a:1 b:5 c:5 d:1", "0:1 2:5 6:1 never:", 6},
		{"@ab(aa)", "0:0 2:0 3:0 a:0 b:0", "1:0 never:", 3},
		{"@ab(ab)", "0:0 2:0 a:0", "1:0 never:", 2},
	})
}

func TestFlowsOfFunctionsThatAreCalledWithThemselves(t *testing.T) {
	checkFlowCases(t, []flowCase{
		{`=a\bb(aa)`, "0:1 1:1 2:1 3:1 4:1 5:1 a:1 b:1", "3:1 never:", 6},
		{`=a\b(bb)(aa)`, "1:1 3:1 4:1 6:1 7:1 a:1 b:1", "2:1 5:1 never:", 5},
		{`(\a(aa)\bb)`, "0:5 1:1 2:5 3:5 4:5 5:5 6:5 a:5 b:5", "0:1 2:5 never:", 7},
		{endless, "1:1 3:5 4:5 5:5 7:5 8:5 a:5 b:5", "0:1 2:5 6:5 never:", 6},
	})
}

// Names that are bound again are different ones, to which other functions flow.
func TestFlowsAreThoseOfUnique(t *testing.T) {
	checkFlowCases(t, []flowCase{
		{`=a\bb=a1a`, "1:1 a:1", "never:1", 1},
		{`=b\aab`, "0:1 1:1 3:1 a:1", "never:1", 3},
		{`=p\oop`, "0:1 1:1 3:1 a:1", "never:1", 3},
		{"@pop", "0:0 1:0 a:0", "never:0", 2},
		{`(\a(\aa1)\aa)`, "1:1 3:3 6:6 a:6", "0:1 2:3 never:6", 3},
		{`+(\aa\bb)(\aa1)`, "1:4 2:2 3:4 4:4 7:7 a:4", "1:2 6:7 never:4", 5},
		{`(\a=aaa\aa)`, "0:5 1:1 2:5 3:5 4:5 5:5 a:5 b:5", "0:1 never:5", 6},
	})
	for _, c := range [][2]string{
		{`(\f(f(f1))\j*j2)`, `(\a(a(a1))\a*a2)`},
		{`=a\bb=a1a`, `=k\oo=c1c`},
		{"(@fn?nf(f-n1)2)", "(@pa?ap(p-a1)2)"},
		{endless, `(\h(hh)\g(gg))`},
	} {
		one, two := flowText(c[0])+" "+callText(c[0]), flowText(c[1])+" "+callText(c[1])
		if one != two || impl.CountFlows(c[0]) != impl.CountFlows(c[1]) {
			t.Errorf("the flows of %q are %q, but those of %q %q", c[0], one, c[1], two)
		}
	}
}

func TestNameFlow(t *testing.T) {
	lets := strings.Repeat("=a1", 14)
	for _, c := range []struct {
		text, name string
		want       []int
	}{
		// A name that the term binds, but Unique of it does not, and one the other way round.
		{`=p\oop`, "p", nil},
		{`=p\oop`, "o", nil},
		{`=p\oop`, "a", []int{1}},
		{`=p\oop`, "b", nil},
		{`=b\aab`, "a", []int{1}},
		{`=b\aab`, "b", nil},
		{`(\p(p1)\aa)`, "a", []int{5}},
		{`(\p(p1)\aa)`, "b", nil},
		{`(\p(p1)\aa)`, "p", nil},
		{"7", "a", nil},
		{"7", "p", nil},
		// All names are bound.
		{lets + `=a\bb(aa)`, "n", nil},
		{lets + `=a\bb(aa)`, "o", []int{29}},
		{lets + `=a\bb(aa)`, "p", []int{29}},
		{lets + `=a\bba`, "p", nil},
	} {
		if got, ok := impl.NameFlow(c.text, c.name); !slices.Equal(got, c.want) || !ok {
			t.Errorf("NameFlow(%q, %q) = %v, %v, want %v", c.text, c.name, got, ok, c.want)
		}
	}
	for _, name := range append(slices.Clone(noNames), "pa", "a\x00", "P", strings.Repeat("a", 1000)) {
		for _, text := range []string{"7", `=a\bba`, `=p\oop`, `\aa`, lets + `=a\bb(aa)`} {
			if got, ok := impl.NameFlow(text, name); len(got) != 0 || ok {
				t.Errorf("NameFlow(%q, %q) = %v, %v", text, name, got, ok)
			}
		}
	}
}

func TestNameFlowOfAllBytes(t *testing.T) {
	for b := range 256 {
		name := string([]byte{byte(b)})
		got, ok := impl.NameFlow(`=a\bba`, name)
		if ok != ('a' <= b && b <= 'p') || (len(got) == 1) != (b == 'a') {
			t.Errorf("NameFlow of %q = %v, %v", name, got, ok)
		}
	}
}

func TestIndicesOfFlows(t *testing.T) {
	const text = `(\f(f(f1))\j*j2)`
	const other = `=a\bba`
	functions := map[string]func(t string, index int) ([]int, bool){"FlowTo": impl.FlowTo, "MayCall": impl.MayCall, "CallersOf": impl.CallersOf}
	for _, c := range []struct {
		name, text string
		index      int
		want       []int
		ok         bool
	}{
		{"FlowTo", text, 0, nil, true},
		{"FlowTo", text, 1, []int{1}, true},
		{"FlowTo", text, 3, []int{7}, true},
		{"FlowTo", text, 10, nil, true},
		{"FlowTo", other, 0, []int{1}, true},
		{"FlowTo", other, 2, nil, true},
		{"FlowTo", other, 3, []int{1}, true},
		{"FlowTo", "7", 0, nil, true},
		{"MayCall", text, 0, []int{1}, true},
		{"MayCall", text, 1, nil, false},
		{"MayCall", text, 2, []int{7}, true},
		{"MayCall", text, 3, nil, false},
		{"MayCall", text, 4, []int{7}, true},
		{"MayCall", text, 7, nil, false},
		{"MayCall", text, 10, nil, false},
		{"MayCall", "(12)", 0, nil, true},
		{"MayCall", "7", 0, nil, false},
		{"CallersOf", text, 0, nil, false},
		{"CallersOf", text, 1, []int{0}, true},
		{"CallersOf", text, 3, nil, false},
		{"CallersOf", text, 7, []int{2, 4}, true},
		{"CallersOf", text, 10, nil, false},
		{"CallersOf", other, 1, nil, true},
		{"CallersOf", `\aa`, 0, nil, true},
		{"CallersOf", `@ab(a1)`, 0, []int{1}, true},
		{"CallersOf", "7", 0, nil, false},
	} {
		if got, ok := functions[c.name](c.text, c.index); !slices.Equal(got, c.want) || ok != c.ok {
			t.Errorf("%s(%q, %d) = %v, %v, want %v, %v", c.name, c.text, c.index, got, ok, c.want, c.ok)
		}
	}
	for name, f := range functions {
		for _, text := range []string{text, other, "7", `\aa`, "(12)"} {
			size := impl.SizeOf(text)
			for _, index := range []int{-1, -2, -size, -64, math.MinInt, size, size + 1, size + 64, 128, 1 << 32, 1<<32 + 1, 1 << 62, math.MaxInt} {
				if got, ok := f(text, index); len(got) != 0 || ok {
					t.Errorf("%s(%q, %d) = %v, %v", name, text, index, got, ok)
				}
			}
		}
	}
}

func TestFlowsOfTermsWithoutFunctionsAndCalls(t *testing.T) {
	for _, text := range []string{"0", "#99", "+12", "=a1a", "=a1=b2*ab", "?0+12-34", sum(repeat("1", 60)), strings.Repeat("=a1", 16) + "a"} {
		checkFlowCases(t, []flowCase{{text, "", "never:", 0}})
		checkList(t, "CallSites", text, impl.CallSites, nil)
		checkList(t, "NeverCalled", text, impl.NeverCalled, nil)
	}
	for _, text := range []string{`\aa`, `+\aa@bcb`, `=a\bba`, `?\aa\bb\cc`} {
		functions, _ := impl.FunctionsIn(text)
		never, ok := impl.NeverCalled(text)
		if sites, sitesOk := impl.CallSites(text); len(sites) != 0 || !sitesOk || len(never) != len(functions) || !ok {
			t.Errorf("CallSites(%q) = %v, %v, and NeverCalled = %v, %v", text, sites, sitesOk, never, ok)
		}
	}
}

// There may be as many functions as there are names, and indices of more than 64 parts.
func TestFlowsOfLargeTerms(t *testing.T) {
	var all []int
	for fun := 2; fun < 60; fun += 4 {
		all = append(all, fun)
	}
	all = append(all, 60)
	many := strings.Repeat(`?0\a1`, 15) + `\a1`
	if list, ok := impl.FlowTo(many, 0); !slices.Equal(list, all) || !ok || impl.CountFlows(many) != 151 {
		t.Errorf("FlowTo(%q) = %v, %v, and CountFlows = %d", many, list, ok, impl.CountFlows(many))
	}
	for _, text := range []string{many, "(" + many + "1)", strings.Repeat(`\a`, 16) + "a", strings.Repeat("@ab", 8) + "a", "(" + strings.Repeat(`\a`, 15) + `a\aa)`} {
		checkFlows(t, text)
	}
	checkFlowCases(t, []flowCase{
		{"=a" + sum(repeat("1", 35)) + `(\bb\cc)`, "0:73 70:73 71:71 72:73 73:73 b:73", "70:71 never:73", 5},
		{"=a" + sum(repeat("1", 55)) + `(\bb\cc)`, "0:113 110:113 111:111 112:113 113:113 b:113", "110:111 never:113", 5},
	})
}

// What flows to parts that come earlier may have to flow on from there to later ones, and so on.
func TestFlowsOfLongWays(t *testing.T) {
	for _, text := range []string{
		`(\a(\b(\c(\d(\e(\f(\g(\h(h1)g)f)e)d)c)b)a)\ii)`,
		`=a\b(b1)=c\d(ad)=e\f(cf)=g\h(eh)(g\ii)`,
		`=a\b\c(cb)=d((a\ee)a)((a\ff)d)`,
		`=a\b\c\d((cb)d)(((aa)a)a)`,
		`=a@bc?c\dd\e((b-c1)e)((a3)\ff)`,
		`((\a\b(a(ab))\c\d(c(cd)))\ee)`,
		`(@ab?0(b(a\c(bc)))\d(da)\e(ee))`,
		`=i\aa=k\a\ba=o\a\b\c((ac)(bc))((((ok)k)i)(((ok)o)k))`,
	} {
		checkFlows(t, text)
	}
}

// checkNoFlows checks a text for which all functions but ObservedCalls have no result.
func checkNoFlows(t *testing.T, text string) {
	t.Helper()
	for name, f := range map[string]func(t string) ([]int, bool){"CallSites": impl.CallSites, "NeverCalled": impl.NeverCalled} {
		if list, ok := f(text); len(list) != 0 || ok {
			t.Errorf("%s(%q) = %v, %v", name, text, list, ok)
		}
	}
	for name, f := range map[string]func(t string, index int) ([]int, bool){"FlowTo": impl.FlowTo, "MayCall": impl.MayCall, "CallersOf": impl.CallersOf} {
		for _, index := range append(indicesAround(max(0, impl.SizeOf(text))), 1, 2, 7) {
			if list, ok := f(text, index); len(list) != 0 || ok {
				t.Errorf("%s(%q, %d) = %v, %v", name, text, index, list, ok)
			}
		}
	}
	for _, name := range []string{"", "a", "b", "p", "q", "ab"} {
		if list, ok := impl.NameFlow(text, name); len(list) != 0 || ok {
			t.Errorf("NameFlow(%q, %q) = %v, %v", text, name, list, ok)
		}
	}
	if n := impl.CountFlows(text); n != -1 {
		t.Errorf("CountFlows(%q) = %d", text, n)
	}
}

func TestFlowsOfWhatIsNoClosedTerm(t *testing.T) {
	more := []string{`=a\bbc`, `(\a(ab)\cc)`, `@ab(ac)`, `\aa `, `(\aa1`, "{A}", "A0a:a/({A}1)", strings.Repeat("(", 100000), strings.Repeat(`\a`, 100000) + "a", strings.Repeat("+1", 23) + `\aa`}
	for _, text := range slices.Concat(noTerms, noClosedTerms, more) {
		checkNoFlows(t, text)
		if pairs, ok := impl.ObservedCalls(text); len(pairs) != 0 || ok {
			t.Errorf("ObservedCalls(%q) = %v, %v", text, pairs, ok)
		}
	}
}

// ObservedCalls is not of Unique, so that it needs no names.
func TestFlowsWhereNamesAreNotEnough(t *testing.T) {
	for text, want := range map[string]string{
		strings.Repeat("=a1", 17) + "a":                       "",
		strings.Repeat(`\a`, 17) + "a":                        "",
		strings.Repeat("@ab", 9) + "a":                        "",
		strings.Repeat("=a1", 16) + `(\aa5)`:                  "32>33",
		strings.Repeat("=a1", 15) + `(@aba5)`:                 "30>31",
		"=f@fn?n7(f-n1)" + strings.Repeat("=a1", 14) + "(f3)": "38>1 5>1",
	} {
		if !impl.IsClosed(text) {
			t.Errorf("%q is no closed term", text)
		}
		checkNoFlows(t, text)
		checkObservedText(t, text, want)
	}
	// With one binder less there are just enough.
	checkFlows(t, strings.Repeat("=a1", 16)+"a")
	checkFlows(t, strings.Repeat("=a1", 15)+`(\aa5)`)
	checkFlows(t, strings.Repeat("=a1", 14)+`(@aba5)`)
	checkFlows(t, "=f@fn?n7(f-n1)"+strings.Repeat("=a1", 13)+"(f3)")
}

// checkObservedText checks ObservedCalls of a term whose run ends with EndDone.
func checkObservedText(t *testing.T, text, want string) {
	t.Helper()
	var words []string
	pairs, ok := impl.ObservedCalls(text)
	for _, pair := range pairs {
		words = append(words, strconv.Itoa(pair[0])+">"+strconv.Itoa(pair[1]))
	}
	if got := strings.Join(words, " "); got != want || !ok {
		t.Errorf("ObservedCalls(%q) = %q, %v, want %q", text, got, ok, want)
	}
	checkObserved(t, text)
}

func TestObservedCalls(t *testing.T) {
	for text, want := range map[string]string{
		"7":         "",
		`\aa`:       "",
		`\a(a1)`:    "",
		`@ab(ab)`:   "",
		`=a\bb1`:    "",
		`?01(\aa2)`: "",
		`?1(\aa2)3`: "",
		`(\aa1)`:    "0>1",
		`(\a1\bb)`:  "0>1",
		`(@abb\cc)`: "0>1",
		`?0(\aa1)2`: "2>3",
	} {
		checkObservedText(t, text, want)
	}
}

// A pair is there once, however often the call happens, and where it first does.
func TestObservedCallsThatHappenOften(t *testing.T) {
	for text, want := range map[string]string{
		"(@fn?n7(f-n1)0)":                  "0>1",
		"(@fn?n7(f-n1)1)":                  "0>1 5>1",
		"(@fn?n7(f-n1)2)":                  "0>1 5>1",
		"(@fn?n0(f-n1)#49)":                "0>1 5>1",
		`(@fn?n7+(f-n1)(f0)2)`:             "0>1 6>1 11>1",
		`=f\aa+(f1)(f2)`:                   "4>1 7>1",
		`=h\f(f1)+(h\a2)(h\b3)`:            "6>1 2>8 10>1 2>12",
		`=h\f(f1)=a\b2+(ha)+(h\c3)(ha)`:    "9>1 2>6 13>1 2>15 17>1",
		`=g\aa=h\bb=k\c(c0)+(kg)+(kh)(kg)`: "12>7 8>1 16>7 8>4 19>7",
	} {
		checkObservedText(t, text, want)
	}
}

// What a call is given is evaluated ahead of it, and what lies within it behind it.
func TestOrderOfObservedCalls(t *testing.T) {
	for text, want := range map[string]string{
		`(\f(f(f1))\j*j2)`:          "0>1 4>7 2>7",
		`(\f(f2)\a*aa)`:             "0>1 2>5",
		`(\aa(\bb1))`:               "3>4 0>1",
		`((\a\bb1)(\cc2))`:          "1>2 6>7 0>3",
		`=f\a(\bba)+(f1)(\cc2)`:     "7>1 2>3 10>11",
		`(\a(\aa1)\aa)`:             "0>1 2>3",
		`=f\aa=g\b(fb)+(g(f1))(g2)`: "11>1 9>4 5>1 14>4",
		`((@fn?n\aa(f-n1)2)(\bb3))`: "1>2 7>2 13>14 0>5",
		`=b(\a\ca1)?(b2)(b3)+(b4)0`: "1>2 7>3 14>3",
	} {
		checkObservedText(t, text, want)
	}
}

// Together with no result, there are no calls either that happened before.
func TestObservedCallsOfRunsThatAreNotDone(t *testing.T) {
	for text, end := range map[string]int{
		"(12)":                 impl.EndFault,
		`+1\aa`:                impl.EndFault,
		`(\aa(12))`:            impl.EndFault,
		`+(\aa1)(12)`:          impl.EndFault,
		`=f\aa+(f1)\bb`:        impl.EndFault,
		`((\aa1)2)`:            impl.EndFault,
		`(\a(a1)2)`:            impl.EndFault,
		endless:                impl.EndLong,
		`+(\aa1)` + endless:    impl.EndLong,
		"(@fn(fn)1)":           impl.EndLong,
		"(@fn?n0(f-n1)#50)":    impl.EndLong,
		`(\a1` + endless + `)`: impl.EndLong,
	} {
		if x, _ := impl.RunTerm(text); x.End != end {
			t.Errorf("RunTerm(%q) = %v", text, x)
		}
		if pairs, ok := impl.ObservedCalls(text); len(pairs) != 0 || ok {
			t.Errorf("ObservedCalls(%q) = %v, %v", text, pairs, ok)
		}
		checkFlows(t, text)
	}
	for steps := 1495; steps <= 1505; steps++ {
		text := padded(busy(), steps-busySteps)
		if run := checkObserved(t, text); (run.end == impl.EndDone) != (steps <= 1500) {
			t.Errorf("%q should make %d steps, but makes %v", text, steps, run.count)
		}
	}
}

// growFlowing returns a term with many calls, in which no names stand free but those around.
func (g grower) growFlowing(around string, nest int) string {
	if around != "" && (nest <= 0 || g.Intn(6) == 0) {
		return g.one(strings.Split(around, "")...)
	}
	if nest <= 0 {
		return g.one("1", `\aa`, `\a\ba`, "@ab(ab)")
	}
	kid := func(more string) string { return g.growFlowing(around+more, nest-1) }
	v := g.one("a", "b", "c")
	switch g.Intn(8) {
	case 0, 1, 2:
		return "(" + kid("") + kid("") + ")"
	case 3:
		return "=" + v + kid("") + kid(v)
	case 4:
		return "?" + g.one("0", "1") + kid("") + kid("")
	case 5:
		return "@d" + v + kid("d"+v)
	}
	return `\` + v + kid(v)
}

// In grown terms, functions flow as the chapter says it, and what happens could be foreseen.
func TestGrownFlows(t *testing.T) {
	g := grower{rand.New(rand.NewSource(13))}
	checked := map[string]int{}
	for i := range 2400 {
		text := g.growFlowing("", 3+g.Intn(4))
		if i%3 == 0 {
			text = g.growCapturing(i)
		}
		if !impl.IsClosed(text) {
			continue
		}
		if _, ok := impl.Unique(text); !ok {
			checkNoFlows(t, text)
			checkObserved(t, text)
			checked["scarce"]++
			continue
		}
		checkFlows(t, text)
		for _, site := range callsOf(text) {
			may, _ := impl.MayCall(text, site)
			checked[strconv.Itoa(min(len(may), 3))]++
		}
		if pairs, _ := impl.ObservedCalls(text); len(pairs) > 2 {
			checked["observed"]++
		}
	}
	if checked["0"] < 500 || checked["1"] < 1000 || checked["2"] < 100 || checked["3"] < 40 || checked["observed"] < 100 || checked["scarce"] < 50 {
		t.Errorf("checked = %v", checked)
	}
}

func callsOf(text string) []int {
	sites, _ := impl.CallSites(text)
	return sites
}

// Texts that are nearly terms have flows by all functions or by none.
func TestFlowsOfChangedTexts(t *testing.T) {
	g := grower{rand.New(rand.NewSource(14))}
	some, none := 0, 0
	for i := range 1500 {
		text := g.changed(g.growCapturing(i), `abcp019#\@()=+-*? `)
		if _, ok := impl.Unique(text); ok && impl.IsClosed(text) {
			checkFlows(t, text)
			some++
		} else {
			checkNoFlows(t, text)
			none++
		}
		if pairs, ok := impl.ObservedCalls(text); !impl.IsClosed(text) && (len(pairs) != 0 || ok) {
			t.Errorf("ObservedCalls(%q) = %v, %v", text, pairs, ok)
		}
	}
	if some < 60 || none < 500 {
		t.Errorf("%d texts have flows, %d have none", some, none)
	}
}

// Whoever changes a result changes no other one.
func TestFlowsAreNew(t *testing.T) {
	const text = `=a\b(b1)+(a\cc)(a\dd)`
	lists := func() [][]int {
		part, _ := impl.FlowTo(text, 3)
		name, _ := impl.NameFlow(text, "b")
		sites, _ := impl.CallSites(text)
		may, _ := impl.MayCall(text, 2)
		callers, _ := impl.CallersOf(text, 1)
		never, _ := impl.NeverCalled(`\a\bb`)
		return [][]int{part, name, sites, may, callers, never}
	}
	want := [][]int{{8, 12}, {8, 12}, {2, 6, 10}, {8, 12}, {6, 10}, {0, 1}}
	pairs, _ := impl.ObservedCalls(text)
	for i := range pairs[:cap(pairs)] {
		pairs[:cap(pairs)][i] = [2]int{-7, -7}
	}
	for _, list := range lists() {
		for i := range list[:cap(list)] {
			list[:cap(list)][i] = -7
		}
	}
	if again := lists(); !slices.EqualFunc(again, want, slices.Equal) {
		t.Errorf("the functions of %q return %v, want %v", text, again, want)
	}
	checkObservedText(t, text, "6>1 2>8 10>1 2>12")
}
