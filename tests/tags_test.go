package tests

import (
	"math/rand"
	"slices"
	"strconv"
	"strings"
	"testing"

	"loop.example/flatfunctions/impl"
)

// asksByText returns how many asks are made for tags, if for each one the names of an order are asked one after the other.
func asksByText(tags []string, order string) int {
	asks := 0
	for _, tag := range tags {
		asks += strings.Index(order, tag) + 1
	}
	return asks
}

// ordersOf returns all texts that have the letters of another one, each once.
func ordersOf(names string) []string {
	if names == "" {
		return []string{""}
	}
	var orders []string
	for i := range names {
		for _, rest := range ordersOf(names[:i] + names[i+1:]) {
			orders = append(orders, names[i:i+1]+rest)
		}
	}
	return orders
}

// someOrders returns all orders of names if they are few, and some if they are many.
func someOrders(names string) []string {
	if len(names) <= 4 {
		return ordersOf(names)
	}
	letters := strings.Split(names, "")
	slices.Reverse(letters)
	orders := []string{strings.Join(letters, "")}
	for i := range names {
		orders = append(orders, names[i:]+names[:i])
	}
	return orders
}

// noOrders returns texts that are no orders of names.
func noOrders(names string) []string {
	orders := []string{names + "M", names + " ", " " + names, names + "a", names + "A" + names, names + names + "0", names + "\x00", "\xff" + names, names + strings.Repeat("L", 100000)}
	other := strings.Trim("ABCDEFGHIJKLM", names)[:1]
	orders = append(orders, names+other, other+names)
	for i := range names {
		name := names[i : i+1]
		orders = append(orders, strings.ToLower(names), names+name, name+names, strings.ReplaceAll(names, name, ""))
		for _, instead := range []string{names[:1], other, "M", strings.ToLower(name), "\x00", "É"} {
			if instead != name {
				orders = append(orders, strings.ReplaceAll(names, name, instead))
			}
		}
	}
	return orders
}

// bestByText takes the name that is called most out of names, and so on, where of several the first one comes first.
func bestByText(names string, times map[string]int) string {
	best := ""
	for names != "" {
		most := 0
		for i := range names {
			if times[names[i:i+1]] > times[names[most:most+1]] {
				most = i
			}
		}
		best += names[most : most+1]
		names = names[:most] + names[most+1:]
	}
	return best
}

func namesOfCodes(p impl.Made) string {
	names := ""
	for _, c := range p.Codes {
		names += c.Name
	}
	return names
}

func checkOrder(t *testing.T, p impl.Made, order string, valid bool, cost int) {
	t.Helper()
	if got := impl.OrderValid(p, order); got != valid {
		t.Errorf("OrderValid(%q, %q) = %v", formatMadeByText(p), order, got)
	}
	if got := impl.AskCost(p, order); got != cost {
		t.Errorf("AskCost(%q, %q) = %d, want %d", formatMadeByText(p), order, got, cost)
	}
}

// checkTags checks all that chapter 9 tells of a program with records, by the oracle of its run, and returns what this tells.
func checkTags(t *testing.T, p impl.Made) madeTold {
	t.Helper()
	before, text, names := slices.Clone(p.Codes), formatMadeByText(p), namesOfCodes(p)
	run := runMadeByText(p)
	done := run.end == impl.EndDone
	times := map[string]int{}
	for _, tag := range run.tags {
		times[tag]++
	}
	var tags []int
	best := ""
	if done {
		best = bestByText(names, times)
		for i := range names {
			tags = append(tags, times[names[i:i+1]])
		}
	}
	if got, ok := impl.TagsOf(p); !slices.Equal(got, tags) || ok != done {
		t.Errorf("TagsOf(%q) = %v, %v, want %v, %v", text, got, ok, tags, done)
	}
	if got, ok := impl.BestOrder(p); got != best || ok != done {
		t.Errorf("BestOrder(%q) = %q, %v, want %q, %v", text, got, ok, best, done)
	}
	for _, order := range someOrders(names) {
		cost := -1
		if done {
			cost = asksByText(run.tags, order)
		}
		checkOrder(t, p, order, true, cost)
	}
	for _, order := range []string{names + "M", "A" + names, names + names + "L", strings.ToLower(names) + " "} {
		checkOrder(t, p, order, false, -1)
	}
	checkBest(t, p)
	if !slices.Equal(p.Codes, before) {
		t.Errorf("%v was changed to %v", before, p.Codes)
	}
	return run
}

// checkNoOrders checks many texts that are no orders of a program.
func checkNoOrders(t *testing.T, p impl.Made) {
	t.Helper()
	for _, order := range noOrders(namesOfCodes(p)) {
		checkOrder(t, p, order, false, -1)
	}
}

// checkBest checks what has to be true of the functions of the program among themselves.
func checkBest(t *testing.T, p impl.Made) {
	t.Helper()
	text := formatMadeByText(p)
	count, done := impl.CountMade(p)
	if !done {
		return
	}
	tags, _ := impl.TagsOf(p)
	calls := 0
	for _, times := range tags {
		calls += times
	}
	if calls != count.Calls || len(tags) != len(p.Codes) {
		t.Errorf("TagsOf(%q) = %v, but there are %d calls", text, tags, count.Calls)
	}
	best, _ := impl.BestOrder(p)
	least := impl.AskCost(p, best)
	if !impl.OrderValid(p, best) || least < calls {
		t.Errorf("OrderValid(%q, %q) = %v, and AskCost = %d for %d calls", text, best, impl.OrderValid(p, best), least, calls)
	}
	for _, order := range someOrders(best) {
		if cost := impl.AskCost(p, order); cost < least {
			t.Errorf("AskCost(%q, %q) = %d, but %d for the best order %q", text, order, cost, least, best)
		}
	}
}

// checkNoTags checks the results for a program that is not valid.
func checkNoTags(t *testing.T, p impl.Made) {
	t.Helper()
	if impl.MadeValid(p) {
		t.Errorf("%v is valid", p)
	}
	tags, tagsOk := impl.TagsOf(p)
	best, bestOk := impl.BestOrder(p)
	if len(tags) != 0 || tagsOk || best != "" || bestOk {
		t.Errorf("%v is not valid, but TagsOf, BestOrder = %v, %v, %q, %v", p, tags, tagsOk, best, bestOk)
	}
	for _, order := range []string{"", "A", "B", "AB", "BA", "a", "AA", "ABC", namesOfCodes(p)} {
		checkOrder(t, p, order, false, -1)
	}
}

// tagText tells what TagsOf and BestOrder return, and AskCost of the best order and of that of the program.
func tagText(p impl.Made) string {
	tags, ok := impl.TagsOf(p)
	best, bestOk := impl.BestOrder(p)
	if !ok || !bestOk {
		return "none"
	}
	texts := []string{best, strconv.Itoa(impl.AskCost(p, best)), strconv.Itoa(impl.AskCost(p, namesOfCodes(p)))}
	return listed("tags", tags) + " best:" + strings.Join(texts, ",")
}

// checkTagTexts checks programs by what tagText tells of them.
func checkTagTexts(t *testing.T, cases map[string]string) {
	t.Helper()
	for text, want := range cases {
		p := mustParseMade(t, text)
		if got := tagText(p); got != want {
			t.Errorf("the tags of %q are %q, want %q", text, got, want)
		}
		checkTags(t, p)
		checkNoOrders(t, p)
	}
}

func TestTagsOfProgramsWithoutCodes(t *testing.T) {
	checkTagTexts(t, map[string]string{
		"7":    "tags: best:,0,0",
		"+12":  "tags: best:,0,0",
		"=a1a": "tags: best:,0,0",
	})
}

func TestTags(t *testing.T) {
	checkTagTexts(t, map[string]string{
		// Codes of which no record is made.
		"A0a:a/7":                    "tags:0 best:A,0,0",
		"A0a:({B}a)/B0b:b/7":         "tags:0,0 best:AB,0,0",
		"B0a:a/A0a:a/7":              "tags:0,0 best:BA,0,0",
		"L0a:a/A0a:a/F0a:a/7":        "tags:0,0,0 best:LAF,0,0",
		"A0a:a/B0b:b/({B}1)":         "tags:0,1 best:BA,1,2",
		"A0a:a/B0b:b/C0c:c/({B}1)":   "tags:0,1,0 best:BAC,1,2",
		"A0a:a/B0b:b/?0({A}1)({B}1)": "tags:1,0 best:AB,1,1",
		"A0a:a/B0b:b/?1({A}1)({B}1)": "tags:0,1 best:BA,1,2",
		// Records that are made but not called.
		"A0a:a/{A}":                            "tags:0 best:A,0,0",
		"B0a:a/A0a:a/=a{A}{B}":                 "tags:0,0 best:BA,0,0",
		"A0a:a/B0b:b/({B}{A})":                 "tags:0,1 best:BA,1,2",
		"A0a:{B}/B0b:b/({A}1)":                 "tags:1,0 best:AB,1,1",
		"A0a:{B}/B0b:b/({A}{B})":               "tags:1,0 best:AB,1,1",
		"A1a:a/B0b:7/=b{B}=c{Ab}({B}c)":        "tags:0,1 best:BA,1,2",
		"A0a:a/B0b:b/=a{A}=b{A}=c{A}({B}1)":    "tags:0,1 best:BA,1,2",
		"A0a:a/B0b:b/=a{A}=b{A}=c{B}+(a1)(c1)": "tags:1,1 best:AB,3,3",
		// Calls of one code often, and of others never.
		"A0n:?n0(%-n1)/({A}9)":                 "tags:10 best:A,10,10",
		"A0a:a/B0n:?n0(%-n1)/({B}9)":           "tags:0,10 best:BA,10,20",
		"B0n:?n0(%-n1)/A0a:a/({B}9)":           "tags:10,0 best:BA,10,10",
		"A0a:a/B0b:b/C0n:?n0(%-n1)/({C}9)":     "tags:0,0,10 best:CAB,10,30",
		"A0a:a/C0b:b/B0n:?n0(%-n1)/({B}9)":     "tags:0,0,10 best:BAC,10,30",
		"A0n:?n0(%-n1)/B0b:({A}b)/({B}#48)":    "tags:49,1 best:AB,51,51",
		"B0n:({A}n)/A0n:?n0(%-n1)/({B}#48)":    "tags:1,49 best:AB,51,99",
		"A0n:?n0({B}-n1)/B0n:({A}n)/({A}9)":    "tags:10,9 best:AB,28,28",
		"B0n:({A}n)/A0n:?n0({B}-n1)/({A}9)":    "tags:9,10 best:AB,28,29",
		"A0n:?n0({B}-n1)/B0n:?n0({A}n)/({A}9)": "tags:9,9 best:AB,27,27",
		// Others in between.
		"A0a:a/B0b:b/C0c:c/+({A}1)+({B}1)({B}2)":                 "tags:1,2,0 best:BAC,4,5",
		"A0a:a/B0b:b/C0c:c/+({C}3)+({C}1)+({B}1)({C}2)":          "tags:0,1,3 best:CBA,5,11",
		"A0a:{Ba}/B1b:+.0b/C0c:c/+(({A}2)3)+({C}1)+({C}1)({C}2)": "tags:1,1,3 best:CAB,8,12",
		"A0a:a/B0b:b/(({A}{B})1)":                                "tags:1,1 best:AB,3,3",
		"A0a:a/B0b:b/(({B}{A})1)":                                "tags:1,1 best:AB,3,3",
		"A0a:(a2)/B0b:*bb/({A}{B})":                              "tags:1,1 best:AB,3,3",
	})
}

// What is called may be a field, an argument, the record itself or what another call comes to.
func TestTagsOfCallsFromEverywhere(t *testing.T) {
	checkTagTexts(t, map[string]string{
		"A1a:(.0a)/B0b:+b1/=b{B}({Ab}1)":                        "tags:1,1 best:AB,3,3",
		"A1a:(.0(.0a))/B0b:+b1/=b{B}({Ab}1)":                    "tags:1,2 best:BA,4,5",
		"A0a:(a(a1))/B0b:+b1/({A}{B})":                          "tags:1,2 best:BA,4,5",
		"A0a:?a7(%0)/({A}1)":                                    "tags:2 best:A,2,2",
		"B0b:b/A0a:?a7(%0)/({A}1)":                              "tags:0,2 best:AB,2,4",
		"A0a:{B}/B0b:b/((({A}1)2)3)":                            "none",
		"A0a:{B}/B0b:{C}/C0c:c/((({A}1)2)3)":                    "tags:1,1,1 best:ABC,6,6",
		"A0a:=b({B}a)b/B0b:b/=a({A}1)=b({B}2)+ab":               "tags:1,2 best:BA,4,5",
		"A0a:a/B0b:b/({A}({B}({A}({B}({B}1)))))":                "tags:2,3 best:BA,7,8",
		"A0a:a/B0b:b/=a?({B}1)({A}1)({B}2)a":                    "tags:0,2 best:BA,2,4",
		"A0a:a/B0b:b/*-({A}1)({B}2)?0({B}3)({A}4)":              "tags:1,2 best:BA,4,5",
		"A2a:+(.0a)(.1a)/B0b:b/C0c:c/=b{B}=c{C}+({Abc}1)({C}1)": "tags:1,1,2 best:CAB,7,9",
	})
}

// Of several names of which as many calls are made, the first one in the program comes first, whatever letter it is.
func TestBestOrderOfCodesWithTheSameCalls(t *testing.T) {
	for _, names := range ordersOf("ABCD") {
		for called, times := range map[string]string{
			"": "0000", "A": "1000", "B": "0100", "D": "0001", "BD": "0101", "AC": "1010", "ABCD": "1111", "BCD": "0111", "BBD": "0201", "DDBB": "0202", "DCBA": "1111", "DDCBBA": "1212", "DDDCBBA": "1213", "CCBAA": "2120",
		} {
			main := "7"
			for _, name := range strings.Split(called, "") {
				if name != "" {
					main = "({" + name + "}" + main + ")"
				}
			}
			p := mustParseMade(t, codesNamed(names)+main)
			byName := map[string]int{}
			for i := range 4 {
				byName["ABCD"[i:i+1]] = int(times[i] - '0')
			}
			if best, ok := impl.BestOrder(p); best != bestByText(names, byName) || !ok {
				t.Errorf("BestOrder of %q = %q, %v, where %q are called", names, best, ok, called)
			}
			checkTags(t, p)
		}
	}
}

func TestEveryOrderOfTwoAndThreeCodes(t *testing.T) {
	for text, costs := range map[string]map[string]int{
		"A0a:a/B0b:b/({A}1)":                            {"AB": 1, "BA": 2},
		"A0a:a/B0b:b/({B}1)":                            {"AB": 2, "BA": 1},
		"B0b:b/A0a:a/({B}1)":                            {"AB": 2, "BA": 1},
		"A0a:a/B0b:b/+({A}1)({B}1)":                     {"AB": 3, "BA": 3},
		"A0a:a/B0b:b/+({A}1)+({B}1)({B}1)":              {"AB": 5, "BA": 4},
		"A0a:(a2)/B0b:*bb/({A}{B})":                     {"AB": 3, "BA": 3},
		"A0a:a/B0b:b/7":                                 {"AB": 0, "BA": 0},
		"A0a:a/L0b:b/({L}({L}({L}1)))":                  {"AL": 6, "LA": 3},
		"A0a:a/B0b:b/C0c:c/7":                           {"ABC": 0, "ACB": 0, "BAC": 0, "BCA": 0, "CAB": 0, "CBA": 0},
		"A0a:a/B0b:b/C0c:c/({B}1)":                      {"ABC": 2, "ACB": 3, "BAC": 1, "BCA": 1, "CAB": 3, "CBA": 2},
		"A0a:a/B0b:b/C0c:c/({A}({B}({B}1)))":            {"ABC": 5, "ACB": 7, "BAC": 4, "BCA": 5, "CAB": 8, "CBA": 7},
		"C0c:c/A0a:a/B0b:b/({A}({B}({C}1)))":            {"ABC": 6, "ACB": 6, "BAC": 6, "BCA": 6, "CAB": 6, "CBA": 6},
		"A0n:?n0({B}n)/B0n:({C}n)/C0n:n/({A}4)":         {"ABC": 6, "ACB": 6, "BAC": 6, "BCA": 6, "CAB": 6, "CBA": 6},
		"A0n:?n0=m({B}n)(%-n1)/B0n:({C}n)/C0n:n/({A}4)": {"ABC": 25, "ACB": 25, "BAC": 26, "BCA": 27, "CAB": 26, "CBA": 27},
	} {
		p := mustParseMade(t, text)
		for order, cost := range costs {
			checkOrder(t, p, order, true, cost)
		}
		if len(costs) != len(ordersOf(namesOfCodes(p))) {
			t.Errorf("%q has other orders than %v", text, costs)
		}
		checkTags(t, p)
	}
}

func TestOrders(t *testing.T) {
	for text, orders := range map[string]map[string]bool{
		"7":                       {"": true, "A": false, "L": false, " ": false, "M": false},
		"A0a:a/7":                 {"": false, "A": true, "AA": false, "B": false, "a": false, " A": false, "A ": false, "AB": false, "A0": false},
		"C0a:a/7":                 {"": false, "C": true, "A": false, "CC": false, "ABC": false},
		"A0a:a/B0b:b/7":           {"": false, "A": false, "B": false, "AB": true, "BA": true, "AA": false, "BB": false, "AC": false, "ABA": false, "ABB": false, "BAC": false, "A B": false, "A,B": false, "ABM": false, "AM": false},
		"B0b:b/A0a:a/7":           {"AB": true, "BA": true, "A": false, "BB": false},
		"A0a:a/B0b:b/C0c:c/7":     {"ABC": true, "ACB": true, "BAC": true, "BCA": true, "CAB": true, "CBA": true, "AB": false, "ABB": false, "ABA": false, "ABD": false, "ABCD": false, "ABCA": false, "AAA": false, "abc": false},
		codesNamed(allSups) + "7": {allSups: true, "LKJIHGFEDCBA": true, "BADCFEHGJILK": true, allSups[1:]: false, allSups + "A": false, allSups + "M": false, "A" + allSups[:11]: false, allSups[:11] + "M": false, allSups[:11]: false, strings.ToLower(allSups): false},
	} {
		p := mustParseMade(t, text)
		for order, valid := range orders {
			if got := impl.OrderValid(p, order); got != valid {
				t.Errorf("OrderValid(%q, %q) = %v", text, order, got)
			}
			if got := impl.AskCost(p, order); (got == 0) != valid || !valid && got != -1 {
				t.Errorf("AskCost(%q, %q) = %d", text, order, got)
			}
		}
		checkTags(t, p)
		checkNoOrders(t, p)
	}
}

func TestOrdersOfAllBytes(t *testing.T) {
	p := mustParseMade(t, "A0a:a/B0b:b/({B}1)")
	none := mustParseMade(t, "7")
	for b := range 256 {
		other := string([]byte{byte(b)})
		for _, order := range []string{other, other + other, "AB" + other, other + "BA", "A" + other + "B"} {
			checkOrder(t, p, order, false, -1)
			checkOrder(t, none, order, false, -1)
		}
		cost := map[bool]int{true: 2, false: -1}
		checkOrder(t, p, "A"+other, b == 'B', cost[b == 'B'])
		if b == 'A' {
			checkOrder(t, p, "B"+other, true, 1)
		} else {
			checkOrder(t, p, "B"+other, false, -1)
		}
	}
}

// An order is one of a program also if its run faults or is too long, but nothing is told of the calls of this.
func TestTagsOfRunsThatAreNotDone(t *testing.T) {
	for text, end := range map[string]int{
		"(12)":                                 impl.EndFault,
		"A0a:a/(12)":                           impl.EndFault,
		"A0a:a/({A}(12))":                      impl.EndFault,
		"A0a:a/+({A}1)(12)":                    impl.EndFault,
		"A0a:a/+({A}1){A}":                     impl.EndFault,
		"A0a:a/?{A}12":                         impl.EndFault,
		"A0a:a/(({A}1)2)":                      impl.EndFault,
		"A0a:(a1)/B0b:b/({A}({B}2))":           impl.EndFault,
		"B0b:b/A0a:(12)/+({B}1)({A}2)":         impl.EndFault,
		"A0a:(aa)/({A}{A})":                    impl.EndLong,
		"A0a:(%a)/({A}1)":                      impl.EndLong,
		"A0n:?n0(%-n1)/({A}#50)":               impl.EndLong,
		"A0a:(aa)/B0b:b/+({B}1)({A}{A})":       impl.EndLong,
		"C0a:(%a)/A0a:a/B0b:b/({B}({C}1))":     impl.EndLong,
		codesNamed(allSups) + "(({L}1)({A}2))": impl.EndFault,
	} {
		p := mustParseMade(t, text)
		if run := checkTags(t, p); run.end != end {
			t.Errorf("%q ends with %d", text, run.end)
		}
		checkNoOrders(t, p)
		if got := tagText(p); got != "none" {
			t.Errorf("the tags of %q are %q", text, got)
		}
	}
	for steps := 1495; steps <= 1505; steps++ {
		p := mustParseMade(t, busyCodes+madePadded(steps))
		if run := checkTags(t, p); (run.end == impl.EndDone) != (steps <= 1500) {
			t.Errorf("%v makes %d steps, but is %v", p, steps, run)
		}
	}
	for n := 47; n < 53; n++ {
		p := mustParseMade(t, "B0b:b/A0n:?n0(%-n1)/({A}"+written(n)+")")
		if tags, ok := impl.TagsOf(p); ok != (n < 50) || ok && !slices.Equal(tags, []int{0, n + 1}) {
			t.Errorf("TagsOf(%v) = %v, %v", p, tags, ok)
		}
		checkTags(t, p)
	}
}

func TestTagsOfProgramsThatAreNotValid(t *testing.T) {
	a := impl.Code{Name: "A", Param: "a", Body: "a"}
	b := impl.Code{Name: "B", Param: "b", Body: "b"}
	for _, p := range []impl.Made{
		{},
		{Main: "a"},
		{Main: "{A}"},
		{Main: "\xff"},
		{Main: `\aa`},
		{Codes: []impl.Code{a}},
		{Codes: []impl.Code{a}, Main: "a"},
		{Codes: []impl.Code{a}, Main: "%"},
		{Codes: []impl.Code{a}, Main: "{B}"},
		{Codes: []impl.Code{a}, Main: "=a1{Aa}"},
		{Codes: []impl.Code{a, a}, Main: "7"},
		{Codes: []impl.Code{a, b}, Main: "({A}1"},
		{Codes: []impl.Code{a, b}, Main: "({A}c)"},
		{Codes: []impl.Code{a, b, a}, Main: "({A}1)"},
		{Codes: []impl.Code{{Name: "A", Param: "a", Body: "b"}}, Main: "7"},
		{Codes: []impl.Code{{Name: "A", Param: "a", Body: ""}}, Main: "7"},
		{Codes: []impl.Code{{Name: "A", Param: "a", Body: ".0"}}, Main: "7"},
		{Codes: []impl.Code{{Name: "A", Param: "", Body: "1"}}, Main: "7"},
		{Codes: []impl.Code{{Name: "A", Param: "ab", Body: "a"}}, Main: "7"},
		{Codes: []impl.Code{{Name: "A", Param: "a", Body: "a", Size: -1}}, Main: "7"},
		{Codes: []impl.Code{{Name: "A", Param: "a", Body: "a", Size: 10}}, Main: "7"},
		{Codes: []impl.Code{{Name: "", Param: "a", Body: "a"}}, Main: "7"},
		{Codes: []impl.Code{{Name: "M", Param: "a", Body: "a"}}, Main: "7"},
		{Codes: []impl.Code{{Name: "AB", Param: "a", Body: "a"}}, Main: "7"},
		{Codes: []impl.Code{a, {Name: "", Param: "a", Body: "a"}}, Main: "7"},
		{Codes: append(splitMadeByText(codesNamed(allSups)+"7").Codes, impl.Code{Name: "M", Param: "a", Body: "a"}), Main: "7"},
		{Codes: append(splitMadeByText(codesNamed(allSups)+"7").Codes, a), Main: "7"},
		{Codes: make([]impl.Code, 3), Main: "7"},
		{Codes: make([]impl.Code, 1000), Main: "7"},
		{Main: flatOfLength(401)},
		{Codes: []impl.Code{{Name: "A", Param: "a", Body: flatOfLength(401)}}, Main: "({A}1)"},
	} {
		checkNoTags(t, p)
	}
	for _, text := range noRecordTerms {
		checkNoTags(t, impl.Made{Codes: []impl.Code{{Name: "A", Param: "a", Size: 1, Body: "a"}}, Main: text})
		checkNoTags(t, impl.Made{Codes: []impl.Code{{Name: "A", Param: "a", Size: 1, Body: text}}, Main: "7"})
	}
}

// A cutting has what chapter 9 tells of the calls of a term: how many asks are made for all names, and for those of the cases alone.
type cutting struct {
	full, cut int
}

// casesByText returns the cases of the call at an index, and false if there is none.
func casesByText(text string, parts []spotted, f flowing, index int) (string, bool) {
	if index < 0 || index >= len(parts) || parts[index].front != "(" {
		return "", false
	}
	cases := ""
	for _, fun := range f.at(parts[index].at[0]) {
		cases += nameOfCode(text, fun)
	}
	return cases, true
}

// nameOfCode returns the name of the code that the function with an index becomes.
func nameOfCode(text string, fun int) string {
	at := slices.Index(functionsAt(text), fun)
	return string(rune('A' + at))
}

// converts reports whether there is a program with records of a closed term, by the oracle.
func converts(text string) bool {
	unique, ok := impl.Unique(text)
	return ok && impl.IsClosed(text) && madeValidByText(convertByText(unique))
}

// checkCases checks all that chapter 9 tells of a term for which there is a program with records, by the oracles.
func checkCases(t *testing.T, text string) cutting {
	t.Helper()
	unique, ok := impl.Unique(text)
	if !ok || !converts(text) {
		t.Fatalf("%q has no program with records", text)
	}
	parts := spottedIn(unique)
	f := flowByText(parts)
	for _, index := range indicesAround(len(parts)) {
		want, valid := casesByText(unique, parts, f, index)
		if got, ok := impl.CasesAt(text, index); got != want || ok != valid {
			t.Errorf("CasesAt(%q, %d) = %q, %v, want %q, %v", text, index, got, ok, want, valid)
		}
	}
	run := runByText(text, nil)
	want := cutting{full: -1, cut: -1}
	if run.end == impl.EndDone {
		want = cutting{}
	}
	names := namesOfCodes(convertByText(unique))
	for i, fun := range run.calls {
		tag := nameOfCode(unique, fun)
		cases, _ := casesByText(unique, parts, f, run.sites[i])
		if !strings.Contains(cases, tag) {
			t.Errorf("the call %d of %q is of %s, but may be of %q", run.sites[i], text, tag, cases)
		}
		want.full += asksByText([]string{tag}, names)
		want.cut += asksByText([]string{tag}, cases)
	}
	if got := (cutting{full: impl.FullCost(text), cut: impl.CutCost(text)}); got != want {
		t.Errorf("FullCost and CutCost of %q = %v, want %v", text, got, want)
	}
	checkCosts(t, text)
	return want
}

// checkCosts checks what has to be true of the functions of the program among themselves.
func checkCosts(t *testing.T, text string) {
	t.Helper()
	p, ok := impl.Convert(text)
	full, cut := impl.FullCost(text), impl.CutCost(text)
	if cost := impl.AskCost(p, namesOfCodes(p)); full != cost || !ok {
		t.Errorf("FullCost(%q) = %d, but AskCost of Convert is %d", text, full, cost)
	}
	count, done := impl.CountTerm(text)
	if cut > full || done && cut < count.Calls || (cut == -1) == done || (full == -1) == done {
		t.Errorf("CutCost(%q) = %d, and FullCost = %d, but CountTerm = %v, %v", text, cut, full, count, done)
	}
	called, _ := impl.CallsIn(text)
	tags, tagsOk := impl.TagsOf(p)
	if tagsOk != done || done && len(tags) != len(functionsAt(text)) {
		t.Errorf("TagsOf(%q) = %v, %v", formatMadeByText(p), tags, tagsOk)
	}
	for i, times := range tags {
		calls := 0
		for _, fun := range called {
			if fun == functionsAt(text)[i] {
				calls++
			}
		}
		if calls != times {
			t.Errorf("TagsOf of Convert(%q) = %v, but CallsIn = %v", text, tags, called)
		}
	}
	for _, site := range callsOf(text) {
		may, _ := impl.MayCall(text, site)
		cases, ok := impl.CasesAt(text, site)
		if len(cases) != len(may) || !ok {
			t.Errorf("CasesAt(%q, %d) = %q, %v, but MayCall = %v", text, site, cases, ok, may)
		}
		for i, fun := range may {
			if cases[i:i+1] != nameOfCode(text, fun) {
				t.Errorf("CasesAt(%q, %d) = %q, but MayCall = %v", text, site, cases, may)
			}
		}
	}
}

// checkNoCases checks a text for which there is no program with records.
func checkNoCases(t *testing.T, text string) {
	t.Helper()
	for _, index := range append(indicesAround(max(0, impl.SizeOf(text))), 1, 2, 7) {
		if cases, ok := impl.CasesAt(text, index); cases != "" || ok {
			t.Errorf("CasesAt(%q, %d) = %q, %v", text, index, cases, ok)
		}
	}
	if impl.CutCost(text) != -1 || impl.FullCost(text) != -1 {
		t.Errorf("CutCost(%q) = %d, and FullCost = %d", text, impl.CutCost(text), impl.FullCost(text))
	}
}

// caseText tells what CasesAt returns for all parts that are calls, and then CutCost and FullCost.
func caseText(text string) string {
	var words []string
	for _, site := range callsOf(text) {
		cases, _ := impl.CasesAt(text, site)
		words = append(words, strconv.Itoa(site)+":"+cases)
	}
	return strings.Join(append(words, strconv.Itoa(impl.CutCost(text)), "of", strconv.Itoa(impl.FullCost(text))), " ")
}

// checkCaseTexts checks terms by what caseText tells of them.
func checkCaseTexts(t *testing.T, cases map[string]string) {
	t.Helper()
	for text, want := range cases {
		if got := caseText(text); got != want {
			t.Errorf("the cases of %q are %q, want %q", text, got, want)
		}
		checkCases(t, text)
	}
}

func TestCases(t *testing.T) {
	checkCaseTexts(t, map[string]string{
		// No calls.
		"7":                             "0 of 0",
		`\aa`:                           "0 of 0",
		"=a1a":                          "0 of 0",
		`=f\aa7`:                        "0 of 0",
		`?0\aa@bcb`:                     "0 of 0",
		`=a\b\c\d17`:                    "0 of 0",
		sum(repeat("1", 60)):            "0 of 0",
		strings.Repeat("=a1", 16) + "a": "0 of 0",
		strings.Repeat(`\a`, 12) + "a":  "0 of 0",
		// Calls that never happen.
		`\a(\bb1)`:       "1:B 0 of 0",
		`\a(a\bb)`:       "1: 0 of 0",
		`?01(\aa2)`:      "3:A 0 of 0",
		`=f\a(\bba)7`:    "2:B 0 of 0",
		`?0\a(a1)(\bb2)`: "3: 6:B 0 of 0",
		// Calls that may come to no function.
		`=f\a(a1)7`:  "2: 0 of 0",
		`?01(23)`:    "3: 0 of 0",
		`@ab(b(bb))`: "1: 3: 0 of 0",
		// One.
		`(\aa1)`:               "0:A 1 of 1",
		`(@aba1)`:              "0:A 1 of 1",
		`(\f(f2)\a*aa)`:        "0:A 2:B 2 of 3",
		`=f\a+a1+(f2)(f3)`:     "6:A 9:A 2 of 2",
		`((\a\bb1)2)`:          "0:B 1:A 2 of 3",
		`=f\aa=g\bb(g1)`:       "6:B 1 of 2",
		`=f\aa=g\bb=h\cc(h1)`:  "9:C 1 of 3",
		`=a2=f\j+ja(f3)`:       "7:A 1 of 1",
		"(@fn?n7(f-n1)2)":      "0:A 5:A 3 of 3",
		`=g\aa(@fn?n7(f-n1)2)`: "3:B 8:B 3 of 6",
		`(?0\aa71)`:            "0:A 1 of 1",
		// Several.
		`=a?0\bb\c1(a2)`:                "7:AB 1 of 1",
		`=a?1\bb\c1(a2)`:                "7:AB 2 of 2",
		`=d\ee=a?0\bb\c1(a2)`:           "10:BC 1 of 2",
		`=d\ee=a?1\bb\c1(a2)`:           "10:BC 2 of 3",
		`(?0\aa?1\bb\cc1)`:              "0:ABC 1 of 1",
		`(?1\aa?0\bb\cc1)`:              "0:ABC 2 of 2",
		`(?1\aa?1\bb\cc1)`:              "0:ABC 3 of 3",
		`=a\b7(?1\c(a1)\d(a2)3)`:        "3:BC 7:A 11:A 3 of 4",
		`=f\a(a1)+(f\bb)(f\cc)`:         "2:BC 6:A 10:A 5 of 7",
		`=f\a(a1)=g\b2+(fg)+(fg)(f\cc)`: "2:BC 9:A 13:A 16:A 7 of 10",
		`=f\a\b(ab)+((f\cc)1)((f\dd)2)`: "3:CD 7:B 8:A 13:B 14:A 7 of 13",
		`=f\aa+(f1)(?0f\bb2)`:           "4:A 7:AB 2 of 2",
		`=f\aa+(f1)(?1f\bb2)`:           "4:A 7:AB 3 of 3",
		`(@fn?n7=g?n\aa\bb(f(g-n1))9)`:  "0:A 12:A 14:BC 28 of 37",
		// The names come in the order of the program, wherever the functions flow from.
		`=a\b7=c\d8(?0ca1)`:      "6:AB 2 of 2",
		`=a\b7=c\d8(?0ac1)`:      "6:AB 1 of 1",
		`=a\b7=c\d8=e\f9(?0ec1)`: "9:BC 2 of 3",
		`=a\b7=c\d8=e\f9(?0ea1)`: "9:AC 2 of 3",
	})
}

// The call at an index is that of the term and of Unique, whatever names the term binds.
func TestCasesOfTermsWhoseNamesAreChanged(t *testing.T) {
	for _, c := range [][2]string{
		{`(\f(f(f1))\j*j2)`, `(\a(a(a1))\b*b2)`},
		{`(\f(f2)\a*aa)`, `(\c(c2)\c*cc)`},
		{`=a?1\bb\c1(a2)`, `=p?1\oo\o1(p2)`},
		{`=f\aa+(f1)(?1f\ff2)`, `=f\aa+(f1)(?1f\bb2)`},
	} {
		if one, two := caseText(c[0]), caseText(c[1]); one != two {
			t.Errorf("the cases of %q are %q, but those of %q %q", c[0], one, c[1], two)
		}
		checkCases(t, c[0])
		checkCases(t, c[1])
	}
}

func TestIndicesOfCases(t *testing.T) {
	const text = `(\f(f2)\a*aa)`
	for index, want := range map[int]string{0: "A", 2: "B"} {
		if got, ok := impl.CasesAt(text, index); got != want || !ok {
			t.Errorf("CasesAt(%q, %d) = %q, %v", text, index, got, ok)
		}
	}
	size := impl.SizeOf(text)
	for _, index := range []int{-1 << 63, -1 << 32, -size, -2, -1, 1, 3, 4, 5, 6, 7, size - 1, size, size + 1, size + 64, 128, 1 << 32, 1<<32 + 2, 1 << 62, 1<<63 - 1} {
		if got, ok := impl.CasesAt(text, index); got != "" || ok {
			t.Errorf("CasesAt(%q, %d) = %q, %v", text, index, got, ok)
		}
	}
	// The last part of a term is never a call itself, but the last call may be close to it.
	for _, c := range []struct {
		text string
		last int
		want string
	}{{"(12)", 0, ""}, {"+1(12)", 2, ""}, {`?01(\aa2)`, 3, "A"}, {"=a" + sum(repeat("1", 50)) + `(\bb1)`, 100, "A"}} {
		if got, ok := impl.CasesAt(c.text, c.last); got != c.want || !ok {
			t.Errorf("CasesAt(%q, %d) = %q, %v, want %q", c.text, c.last, got, ok, c.want)
		}
		checkCases(t, c.text)
	}
}

// CasesAt tells of calls also if the run does not end, but no costs are told then.
func TestCasesOfRunsThatAreNotDone(t *testing.T) {
	checkCaseTexts(t, map[string]string{
		"(12)":                 "0: -1 of -1",
		`(1\aa)`:               "0: -1 of -1",
		`+1\aa`:                "-1 of -1",
		`?\aa12`:               "-1 of -1",
		`(\aa(12))`:            "0:A 3: -1 of -1",
		`+(\aa1)(12)`:          "1:A 5: -1 of -1",
		`=f\aa+(f1)\bb`:        "4:A -1 of -1",
		`((\aa1)2)`:            "0: 1:A -1 of -1",
		`(?0\aa\b(12)(34))`:    "0:AB 6: 9: -1 of -1",
		endless:                "0:A 2:B 6:B -1 of -1",
		`+(\aa1)` + endless:    "1:A 5:B 7:C 11:C -1 of -1",
		"(@fn(fn)1)":           "0:A 2:A -1 of -1",
		"(@fn?n0(f-n1)#50)":    "0:A 5:A -1 of -1",
		`(?0\a(aa)\bb\c(cc))`:  "0:AB 4:C 10:C -1 of -1",
		`(@fn?0(f\aa)(n1)\bb)`: "0:A 4:A 8:BC -1 of -1",
	})
	for steps := 1495; steps <= 1505; steps++ {
		text := padded(busy(), steps-busySteps)
		if costs := checkCases(t, text); (costs.cut >= 0) != (steps <= 1500) {
			t.Errorf("%q makes %d steps, and costs %v", text, steps, costs)
		}
	}
	for n := 47; n < 53; n++ {
		text := `=g\aa(@fn?n0(f-n1)` + written(n) + ")"
		want := cutting{full: 2 * (n + 1), cut: n + 1}
		if n >= 50 {
			want = cutting{full: -1, cut: -1}
		}
		if costs := checkCases(t, text); costs != want {
			t.Errorf("%q costs %v, want %v", text, costs, want)
		}
	}
}

// Nothing is told of terms without programs with records, though what they may call is known, and their runs end.
func TestCasesWhereThereIsNoProgram(t *testing.T) {
	for text, is := range termsWithManyFunctions() {
		if converts(text) != is {
			t.Errorf("%q has a program: %v", text, !is)
		}
		if is {
			checkCases(t, text)
		} else {
			checkNoCases(t, text)
		}
	}
	const lets = "=a1=b1=c1=d1=e1=f1=g1=h1=i1=j1"
	for text, calls := range map[string]int{
		sum(repeat(`(\a12)`, 13)):                       13,
		"(" + strings.Repeat(`\a`, 12) + `\a11)`:        1,
		lets + `(\p+p` + namesFrom("abcdefghij") + "2)": 1,
		lets + `(\k1\p` + namesFrom("abcdefghij") + ")": 1,
	} {
		count, done := impl.CountTerm(text)
		site := callsOf(text)[0]
		if may, ok := impl.MayCall(text, site); len(may) != 1 || !ok || count.Calls != calls || !done {
			t.Errorf("MayCall(%q, %d) = %v, %v, and CountTerm = %v, %v", text, site, may, ok, count, done)
		}
		checkNoCases(t, text)
	}
	// With one function or one field less there is one.
	checkCaseTexts(t, map[string]string{
		"(" + strings.Repeat(`\a`, 11) + `\a11)`:                                            "0:A 1 of 1",
		lets[:27] + `(\p+p` + namesFrom("abcdefghi") + "2)":                                 "18:A 1 of 1",
		lets + `(\p+p` + namesFrom("abcdefghi") + "2)":                                      "20:A 1 of 1",
		strings.Repeat("(", 11) + strings.Repeat(`\a`, 12) + "1" + strings.Repeat("1)", 11): "0:K 1:J 2:I 3:H 4:G 5:F 6:E 7:D 8:C 9:B 10:A 11 of 66",
	})
}

func TestCasesWhereNamesAreNotEnough(t *testing.T) {
	for text, calls := range map[string]int{
		strings.Repeat("=a1", 17) + "a":                       0,
		strings.Repeat("@ab", 9) + "a":                        0,
		strings.Repeat("=a1", 16) + `(\aa5)`:                  1,
		strings.Repeat("=a1", 15) + `(@aba5)`:                 1,
		"=f@fn?n7(f-n1)" + strings.Repeat("=a1", 14) + "(f3)": 4,
	} {
		if count, ok := impl.CountTerm(text); count.Calls != calls || !ok {
			t.Errorf("CountTerm(%q) = %v, %v", text, count, ok)
		}
		checkNoCases(t, text)
	}
	checkCaseTexts(t, map[string]string{
		strings.Repeat("=a1", 15) + `(\aa5)`:                  "30:A 1 of 1",
		strings.Repeat("=a1", 14) + `(@aba5)`:                 "28:A 1 of 1",
		"=f@fn?n7(f-n1)" + strings.Repeat("=a1", 13) + "(f3)": "5:A 36:A 4 of 4",
	})
}

func TestCasesOfWhatIsNoClosedTerm(t *testing.T) {
	more := []string{`=a\bbc`, `(\a(ab)1)`, `(\aab)`, `@ab(ac)`, `(\aa1) `, `(\aa1`, "{A}", "({A}1)", "A0a:a/({A}1)", "(A1)", strings.Repeat("(", 100000), strings.Repeat(`\a`, 100000) + "a", strings.Repeat("+1", 22) + `(\aa1)`}
	for _, text := range slices.Concat(noTerms, noClosedTerms, more) {
		checkNoCases(t, text)
	}
}

// In grown programs, tags are as often called as the oracle says, and no order asks less than the best one.
func TestGrownTags(t *testing.T) {
	g := grower{rand.New(rand.NewSource(17))}
	checked := map[string]int{}
	for range 1200 {
		p := growMade(g)
		run := checkTags(t, p)
		tags, _ := impl.TagsOf(p)
		slices.Sort(tags)
		called := 0
		for _, times := range tags {
			called += min(times, 1)
		}
		if run.end == impl.EndDone {
			checked["codes "+strconv.Itoa(min(called, 3))]++
		} else {
			checked["end "+strconv.Itoa(run.end)]++
		}
		if len(tags) > 2 && tags[len(tags)-1] > 2*tags[len(tags)-2] && called > 1 {
			checked["often"]++
		}
	}
	if checked["codes 0"] < 300 || checked["codes 1"] < 150 || checked["codes 2"] < 60 || checked["codes 3"] < 20 || checked["end 1"] < 80 || checked["end 2"] < 10 || checked["often"] < 15 {
		t.Errorf("checked = %v", checked)
	}
}

// In grown terms, each call asks for what it may call, and for no more than all names.
func TestGrownCases(t *testing.T) {
	g := grower{rand.New(rand.NewSource(18))}
	checked := map[string]int{}
	for i := range 2000 {
		text := g.growFlowing("", 3+g.Intn(4))
		if i%2 == 0 {
			text = g.growCapturing(i / 2)
		}
		if !impl.IsClosed(text) {
			continue
		}
		if !converts(text) {
			checkNoCases(t, text)
			checked["none"]++
			continue
		}
		costs := checkCases(t, text)
		count, _ := impl.CountTerm(text)
		switch {
		case costs.cut < 0:
			checked["ends not"]++
		case costs.cut < costs.full:
			checked["less"]++
		}
		if costs.cut > count.Calls {
			checked["more than calls"]++
		}
	}
	if checked["none"] < 100 || checked["ends not"] < 150 || checked["less"] < 300 || checked["more than calls"] < 40 {
		t.Errorf("checked = %v", checked)
	}
}

// Texts that are nearly terms have results by all functions or by none.
func TestCasesOfChangedTexts(t *testing.T) {
	g := grower{rand.New(rand.NewSource(19))}
	some, none := 0, 0
	for i := range 1000 {
		text := g.changed(g.growCapturing(i), `abcp019#\@()=+-*? `)
		if converts(text) {
			checkCases(t, text)
			some++
		} else {
			checkNoCases(t, text)
			none++
		}
	}
	if some < 40 || none < 300 {
		t.Errorf("%d texts have results, %d have none", some, none)
	}
}

// Whoever changes a result changes no other one, and what lies behind the end of the codes is neither read nor written.
func TestTagsAreNew(t *testing.T) {
	codes := slices.Clone(splitMadeByText("B0a:a/A0a:+a1/C0a:a/D0a:a/7").Codes)
	before := slices.Clone(codes)
	p := impl.Made{Codes: codes[:2], Main: "({A}({A}1))"}
	for range 2 {
		tags, ok := impl.TagsOf(p)
		if !slices.Equal(tags, []int{0, 2}) || !ok {
			t.Errorf("TagsOf(%v) = %v, %v", p, tags, ok)
		}
		for i := range tags[:cap(tags)] {
			tags[:cap(tags)][i] = -7
		}
	}
	if best, ok := impl.BestOrder(p); best != "AB" || !ok || impl.AskCost(p, "AB") != 2 || impl.AskCost(p, "BA") != 4 || impl.AskCost(p, "BACD") != -1 || !impl.OrderValid(p, "BA") {
		t.Errorf("BestOrder(%v) = %q, %v", p, best, ok)
	}
	if !slices.Equal(codes, before) {
		t.Errorf("%v was changed to %v", before, codes)
	}
}
