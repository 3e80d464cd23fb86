package tests

import (
	"math/rand"
	"slices"
	"strconv"
	"strings"
	"testing"

	"loop.example/flatfunctions/impl"
)

const allSups = "ABCDEFGHIJKL"

// A flatWorth is a number, or a lifted function with the arguments that it has.
type flatWorth struct {
	number int
	sup    string
	args   []flatWorth
}

// A flatOracle runs a flat program on its texts, in the words of chapter 5.
type flatOracle struct {
	program impl.Flat
	count   impl.Count
}

func runFlatByText(p impl.Flat) told {
	o := &flatOracle{program: p}
	w, err := o.evaluate(p.Main, 0, nil)
	switch err {
	case errFault:
		return told{end: impl.EndFault}
	case errLong:
		return told{end: impl.EndLong}
	}
	return told{isFun: w.sup != "", value: w.number, count: o.count}
}

// evaluate is told how many bodies a part lies within.
func (o *flatOracle) evaluate(text string, depth int, names map[string]flatWorth) (flatWorth, error) {
	if o.count.Steps++; o.count.Steps > 3000 {
		return flatWorth{}, errLong
	}
	p := pieceOf(text)
	if w, ok := names[text]; ok {
		return w, nil
	}
	if p.kids == nil && strings.Contains(allSups, text) {
		o.count.Closures++
		return flatWorth{sup: text}, nil
	}
	if p.kids == nil {
		n, err := strconv.Atoi(strings.TrimPrefix(text, "#"))
		return flatWorth{number: n}, err
	}
	one, err := o.evaluate(p.kids[0], depth, names)
	if err != nil {
		return flatWorth{}, err
	}
	switch p.front {
	case "=":
		return o.evaluate(p.kids[1], depth, boundTo(names, p.binds, one))
	case "?":
		if one.sup != "" {
			return flatWorth{}, errFault
		}
		return o.evaluate(p.kids[1+min(one.number, 1)], depth, names)
	}
	two, err := o.evaluate(p.kids[1], depth, names)
	if err != nil {
		return flatWorth{}, err
	}
	if p.front == "(" {
		return o.call(one, two, depth)
	}
	if one.sup != "" || two.sup != "" {
		return flatWorth{}, errFault
	}
	return flatWorth{number: runByText(p.front+written(one.number)+written(two.number), nil).value}, nil
}

func (o *flatOracle) call(fun, arg flatWorth, depth int) (flatWorth, error) {
	if fun.sup == "" {
		return flatWorth{}, errFault
	}
	args := append(slices.Clone(fun.args), arg)
	sup := supByText(o.program, fun.sup)
	if len(args) < len(sup.Params) {
		o.count.Captured++
		return flatWorth{sup: fun.sup, args: args}, nil
	}
	if depth == 50 {
		return flatWorth{}, errLong
	}
	o.count.Calls++
	o.count.Deepest = max(o.count.Deepest, depth+1)
	names := map[string]flatWorth{}
	for i, w := range args {
		names[sup.Params[i:i+1]] = w
	}
	return o.evaluate(sup.Body, depth+1, names)
}

// supByText returns the lifted function with a name, the zero value if there is none.
func supByText(p impl.Flat, name string) impl.Sup {
	for _, s := range p.Sups {
		if s.Name == name {
			return s
		}
	}
	return impl.Sup{}
}

// usedByText returns the names of the lifted functions that Main needs.
func usedByText(p impl.Flat) string {
	needed := p.Main
	for range p.Sups {
		for _, s := range p.Sups {
			if strings.Contains(needed, s.Name) {
				needed += s.Body
			}
		}
		needed = lettersOf(needed)
	}
	used := ""
	for _, s := range p.Sups {
		if strings.Contains(needed, s.Name) {
			used += s.Name
		}
	}
	return used
}

// lettersOf returns the names of lifted functions that are in a text, each once.
func lettersOf(text string) string {
	letters := ""
	for _, letter := range allSups {
		if strings.ContainsRune(text, letter) {
			letters += string(letter)
		}
	}
	return letters
}

func formatByText(p impl.Flat) string {
	text := ""
	for _, s := range p.Sups {
		text += s.Name + "[" + s.Params + "]" + s.Body + "/"
	}
	return text + p.Main
}

// flatLength returns how long the flat term at the front of a text is, -1 if there is none.
func flatLength(text string) int {
	return lengthBy(text, func(text string) int {
		if strings.Contains(allSups, text[:1]) {
			return 1
		}
		return -1
	})
}

// lengthBy returns how long the term at the front of a text is, where others tells it of what no term of chapter 1 begins with.
func lengthBy(text string, others func(text string) int) int {
	kids, at, back := 0, 1, ""
	nextIsIn := func(of string) bool { return len(text) > 1 && strings.Contains(of, text[1:2]) }
	switch {
	case text == "":
		return -1
	case strings.Contains("+-*", text[:1]):
		kids = 2
	case text[0] == '?':
		kids = 3
	case text[0] == '(':
		kids, back = 2, ")"
	case text[0] == '=' && nextIsIn(allNames):
		kids, at = 2, 2
	case text[0] == '#' && nextIsIn("123456789") && len(text) > 2 && strings.Contains("0123456789", text[2:3]):
		at = 3
	case !strings.Contains("0123456789"+allNames, text[:1]):
		return others(text)
	}
	for range kids {
		n := lengthBy(text[at:], others)
		if n < 0 {
			return -1
		}
		at += n
	}
	if !strings.HasPrefix(text[at:], back) {
		return -1
	}
	return at + len(back)
}

// isFlatByText reports whether a text is a flat term in which none but some names stand free and none but some lifted functions are read.
func isFlatByText(text, names, sups string) bool {
	if len(text) > 400 || flatLength(text) != len(text) || text == "" {
		return false
	}
	return strings.Trim(freeOf(text), names) == "" && strings.Trim(lettersOf(text), sups) == ""
}

func validByText(p impl.Flat) bool {
	names := ""
	for _, s := range p.Sups {
		names += s.Name
	}
	for i, s := range p.Sups {
		if len(s.Name) != 1 || !strings.Contains(allSups, s.Name) || strings.Index(names, s.Name) != i {
			return false
		}
		if s.Params == "" || len(s.Params) > 9 || strings.Trim(s.Params, allNames) != "" || !isFlatByText(s.Body, s.Params, names) {
			return false
		}
		for j := range s.Params {
			if strings.Count(s.Params, s.Params[j:j+1]) != 1 {
				return false
			}
		}
	}
	return isFlatByText(p.Main, "", names)
}

// splitByText returns what would be the flat program of a text.
func splitByText(text string) impl.Flat {
	pieces := strings.Split(text, "/")
	p := impl.Flat{Main: pieces[len(pieces)-1]}
	for _, piece := range pieces[:len(pieces)-1] {
		opening, closing := strings.Index(piece, "["), strings.Index(piece, "]")
		if opening < 0 || closing < opening {
			return impl.Flat{}
		}
		p.Sups = append(p.Sups, impl.Sup{Name: piece[:opening], Params: piece[opening+1 : closing], Body: piece[closing+1:]})
	}
	return p
}

func sameFlat(p, q impl.Flat) bool { return p.Main == q.Main && slices.Equal(p.Sups, q.Sups) }

// mustParse returns the flat program of a text that is one.
func mustParse(t *testing.T, text string) impl.Flat {
	t.Helper()
	p, ok := impl.ParseFlat(text)
	if !ok || !sameFlat(p, splitByText(text)) {
		t.Fatalf("ParseFlat(%q) = %q, %v", text, p, ok)
	}
	return p
}

// checkFlat checks all that the chapter tells of a flat program, and returns how its run ends.
func checkFlat(t *testing.T, p impl.Flat) told {
	t.Helper()
	before := slices.Clone(p.Sups)
	text := formatByText(p)
	if !impl.FlatValid(p) || impl.FormatFlat(p) != text {
		t.Fatalf("FlatValid and FormatFlat of %q = %v, %q", p, impl.FlatValid(p), impl.FormatFlat(p))
	}
	if q := mustParse(t, text); !sameFlat(p, q) {
		t.Errorf("ParseFlat(%q) = %q, want %q", text, q, p)
	}
	want := runFlatByText(p)
	if x, ok := impl.RunFlat(p); x != (impl.Result{End: want.end, IsFun: want.isFun, Value: want.value}) || !ok {
		t.Errorf("RunFlat(%q) = %v, %v, want %s", text, x, ok, want.text())
	}
	if n, ok := impl.CountFlat(p); n != want.count || ok != (want.end == impl.EndDone) {
		t.Errorf("CountFlat(%q) = %v, %v, want %v", text, n, ok, want.count)
	}
	if used, ok := impl.UsedSups(p); used != usedByText(p) || !ok {
		t.Errorf("UsedSups(%q) = %q, %v, want %q", text, used, ok, usedByText(p))
	}
	for _, name := range append(strings.Split(allSups, ""), "", "M", "a", "AB", "A ", "[", "/") {
		s, ok := impl.SupOf(p, name)
		if want := supByText(p, name); s != want || ok != (want.Name != "") {
			t.Errorf("SupOf(%q, %q) = %q, %v", text, name, s, ok)
		}
	}
	if !slices.Equal(p.Sups, before) {
		t.Errorf("%q was changed to %q", before, p.Sups)
	}
	return want
}

// checkFlatEnd checks a flat program whose result is told as its text, and all else by the oracle.
func checkFlatEnd(t *testing.T, text, want string) {
	t.Helper()
	if got := checkFlat(t, mustParse(t, text)); got.text() != want {
		t.Errorf("the oracle says %s of %q, want %s", got.text(), text, want)
	}
}

// checkNoFlat checks the results that the chapter states for a flat program that is not valid.
func checkNoFlat(t *testing.T, p impl.Flat) {
	t.Helper()
	x, xOk := impl.RunFlat(p)
	n, nOk := impl.CountFlat(p)
	used, usedOk := impl.UsedSups(p)
	if impl.FlatValid(p) || impl.FormatFlat(p) != "" || x != (impl.Result{}) || xOk || n != (impl.Count{}) || nOk || used != "" || usedOk {
		t.Errorf("%q is not valid, but FlatValid, FormatFlat, RunFlat, CountFlat, UsedSups = %v, %q, %v, %v, %q", p, impl.FlatValid(p), impl.FormatFlat(p), x, n, used)
	}
	for _, s := range append(slices.Clone(p.Sups), impl.Sup{Name: "A"}, impl.Sup{}) {
		if s, ok := impl.SupOf(p, s.Name); s != (impl.Sup{}) || ok {
			t.Errorf("%q is not valid, but SupOf = %q, %v", p, s, ok)
		}
	}
}

// checkNoFlatText checks the results for a text that is none of a flat program.
func checkNoFlatText(t *testing.T, text string) {
	t.Helper()
	if p, ok := impl.ParseFlat(text); p.Main != "" || len(p.Sups) != 0 || ok {
		t.Errorf("ParseFlat(%q) = %q, %v", text, p, ok)
	}
	checkNoFlat(t, splitByText(text))
}

// checkFlatText checks a text that may be one of a flat program.
func checkFlatText(t *testing.T, text string, valid bool) {
	t.Helper()
	if validByText(splitByText(text)) != valid {
		t.Errorf("the oracle says %v of %q", !valid, text)
	}
	if valid {
		checkFlat(t, mustParse(t, text))
	} else {
		checkNoFlatText(t, text)
	}
}

func TestFlatRunsAndCounts(t *testing.T) {
	for _, c := range []struct{ text, want, count, used string }{
		{"7", "7", "1 0 0 0 0", ""},
		{"#42", "42", "1 0 0 0 0", ""},
		{"=a#10*aa", "0", "5 0 0 0 0", ""},
		{"?012", "1", "3 0 0 0 0", ""},
		{"?-1112", "1", "5 0 0 0 0", ""},
		{"?1(12)2", "2", "3 0 0 0 0", ""},
		{"-01", "99", "3 0 0 0 0", ""},
		{"A[a]a/A", "function", "1 0 1 0 0", "A"},
		{"A[a]a/7", "7", "1 0 0 0 0", ""},
		{"A[a]a/(A5)", "5", "4 1 1 0 1", "A"},
		{"A[a]a/(AA)", "function", "4 1 2 0 1", "A"},
		{"A[a]a/((AA)5)", "5", "7 2 2 0 1", "A"},
		{"A[a](aa)/=a7(A=a8A)", "long", "", "A"},
		{"A[ab]+ab/((A2)3)", "5", "8 1 1 1 1", "A"},
		{"A[ab]+ab/(A2)", "function", "3 0 1 1 0", "A"},
		{"A[abc]-a-bc/(((A9)5)1)", "5", "12 1 1 2 1", "A"},
		{"A[ba]-ab/((A2)9)", "7", "8 1 1 1 1", "A"},
		{"A[abcdefghi]+i+h+g+f+e+d+c+ba/(((((((((A1)2)3)4)5)6)7)8)9)", "45", "36 1 1 8 1", "A"},
		{"A[a]B/B[bc]*bc/(((A0)6)7)", "42", "11 2 2 1 1", "AB"},
		{"A[a](Ba)/B[b]+b1/(A3)", "4", "9 2 2 0 2", "AB"},
		{"A[a]?a(B7)(A-a1)/B[b]b/(A2)", "7", "23 4 4 0 4", "AB"},
		{"A[ab]?b0+1((Aa)-b1)/=a9((Aa)3)", "3", "43 4 4 4 4", "A"},
		{"A[fn]?n1*n((ff)-n1)/((AA)4)", "24", "52 5 2 5 5", "A"},
		{"A[ab]a/B[c]c/C[a](Ca)/((A1)B)", "1", "6 1 2 1 1", "AB"},
		{"C[a]a/A[b](Cb)/B[c](Ac)/(A1)", "1", "7 2 2 0 2", "CA"},
		{"A[a]1/B[a]A/C[a]B/D[a]C/7", "7", "1 0 0 0 0", ""},
		{"A[a]1/B[a]A/C[a]B/D[a]C/?1C2", "2", "3 0 0 0 0", "ABC"},
		{"L[p]p/(L#99)", "99", "4 1 1 0 1", "L"},
	} {
		p := mustParse(t, c.text)
		checkFlatEnd(t, c.text, c.want)
		n, _ := impl.CountFlat(p)
		if got := impl.FormatCount(n); c.count != "" && got != c.count {
			t.Errorf("CountFlat(%q) = %q, want %q", c.text, got, c.count)
		}
		if used, _ := impl.UsedSups(p); used != c.used {
			t.Errorf("UsedSups(%q) = %q, want %q", c.text, used, c.used)
		}
	}
}

func TestLiftedFunctionsGetOneArgumentAfterTheOther(t *testing.T) {
	for text, want := range map[string]string{
		"A[abc]+a*bc/A":                    "function",
		"A[abc]+a*bc/(A1)":                 "function",
		"A[abc]+a*bc/((A1)2)":              "function",
		"A[abc]+a*bc/(((A1)2)3)":           "7",
		"A[abc]+a*bc/((((A1)2)3)4)":        "fault",
		"A[ab]A/(((A1)2)3)":                "function",
		"A[ab]A/((((A1)2)3)4)":             "function",
		"A[ab]b/(((A1)A)2)":                "function",
		"A[ab]b/((((A1)A)2)3)":             "3",
		"A[a]B/B[bc]-bc/((A1)9)":           "function",
		"A[a]B/B[bc]-bc/(((A1)9)4)":        "5",
		"A[a](Ba)/B[bc]-bc/((A9)4)":        "5",
		"A[ab](ab)/((AA)1)":                "function",
		"A[ab](ab)/(((AA)1)2)":             "fault",
		"A[ab](ba)/((A1)A)":                "function",
		"A[abc](a(bc))/B[d]+d1/(((AB)B)5)": "7",
		// What a name is where a lifted function is called, it is not in the body.
		"A[ab]=a9+ab/((A1)2)":      "11",
		"A[ab]+=a9ab/((A1)2)":      "11",
		"A[ab]a/=b5((A=b6b)b)":     "6",
		"A[a]+a=a9a/=a5+a(A1)":     "15",
		"A[a](Ba)/B[b]b/=b7(A1)":   "1",
		"A[b](Bb)/B[a]*a2/(A(A3))": "12",
		// Who gets an argument changes nothing for another one with the same arguments so far.
		"A[ab]-ab/=a(A9)+(a1)(a5)":                           "12",
		"A[abcde]d/=a(((A1)2)3)=b(a4)=c(a5)+*#10(b0)(c0)":    "45",
		"A[abcde]d/=a(((A1)2)3)=b(a4)=c(a5)+*#10(c0)(b0)":    "54",
		"A[abc]b/=a(A1)=b(a4)=c(a5)=d(a6)+*#10(b0)+(c0)(d0)": "51",
		"A[abcdefg]f/=a(((((A1)2)3)4)5)=b(a6)=c(a7)(b1)":     "6",
	} {
		checkFlatEnd(t, text, want)
	}
}

// Both sides are evaluated before a number is called or a lifted function is where a number is needed.
func TestFaultsOfFlatRuns(t *testing.T) {
	const sups, loop = "A[a](aa)/B[ab]A/", "(AA)"
	for main, want := range map[string]string{
		loop: "long", "(12)": "fault", "(1A)": "fault", "((12)A)": "fault", "(A(12))": "fault", "(A1)": "fault",
		"(1" + loop + ")": "long", "(" + loop + "1)": "long", "((12)" + loop + ")": "fault", "(" + loop + "(12))": "long",
		"?A12": "fault", "?(B1)12": "fault", "?A" + loop + "2": "fault", "?(12)11": "fault", "?" + loop + "11": "long",
		"?01(12)": "1", "?1(12)2": "2", "?0(12)2": "fault", "?01" + loop: "1", "?1" + loop + "2": "2", "?0A1": "function", "?11A": "function", "?0(B1)2": "function",
		"=aA1": "1", "=a1A": "function", "=a(12)1": "fault", "=a" + loop + "1": "long", "=a1(aA)": "fault", "=aA(aa)": "long", "=a(B1)(a(12))": "fault",
		"(B1)": "function", "((B1)2)": "function", "(((B1)2)3)": "fault", "((B1)(12))": "fault", "((B1)" + loop + ")": "long",
	} {
		checkFlatEnd(t, sups+main, want)
	}
	for _, sign := range []string{"+", "-", "*"} {
		for sides, want := range map[string]string{
			"1A": "fault", "A1": "fault", "AA": "fault", "0A": "fault", "A0": "fault", "(B1)2": "fault", "2(B1)": "fault", "A(12)": "fault", "(12)A": "fault",
			"A" + loop: "long", loop + "A": "long", "1" + loop: "long", loop + "1": "long", "(12)" + loop: "fault", loop + "(12)": "long",
		} {
			checkFlatEnd(t, sups+sign+sides, want)
		}
	}
}

const (
	busySups  = "A[n]?n0(A-n1)/B[a]1/C[ab]a/"
	supsSteps = 2869
)

// flatPadded returns a flat term behind busySups that makes so many steps, which are supsSteps, or at least two more.
func flatPadded(steps int) string {
	text, more := sum(repeat("(A#40)", 10)), steps-supsSteps
	if more%2 == 1 {
		text = "(B" + text + ")"
		more -= 3
	}
	return strings.Repeat("+1", more/2) + text
}

func TestLongestFlatRuns(t *testing.T) {
	if n, ok := impl.CountFlat(mustParse(t, busySups+flatPadded(supsSteps))); n.Steps != supsSteps || !ok {
		t.Fatalf("CountFlat = %v, %v", n, ok)
	}
	for around, more := range map[string]int{"X": 0, "=pX0": 2, "=pXp": 2, "=pXA": 2, "=pX?012": 4, "=pX+12": 4, "=pX(Bp)": 5, "?X01": 2, "=pX(C1)": 4, "=pX((Cp)0)": 7} {
		for steps := 2990; steps <= 3010; steps++ {
			p := mustParse(t, busySups+strings.Replace(around, "X", flatPadded(steps-more), 1))
			if want := checkFlat(t, p); (want.end == impl.EndDone) != (steps <= 3000) || steps <= 3000 && want.count.Steps != steps {
				t.Errorf("%q should make %d steps, but makes %v", p, steps, want)
			}
		}
	}
}

// A fault behind exactly 3000 steps is one, and one more step is too many.
func TestFaultsAtTheLastFlatStep(t *testing.T) {
	for around, more := range map[string]int{"(1X)": 2, "(X1)": 2, "+AX": 2, "*XA": 2, "-(C1)X": 4, "=pX(12)": 4} {
		for steps := 2990; steps <= 3010; steps++ {
			want := "fault"
			if steps > 3000 {
				want = "long"
			}
			checkFlatEnd(t, busySups+strings.Replace(around, "X", flatPadded(steps-more), 1), want)
		}
	}
}

func TestBodiesWithinEachOther(t *testing.T) {
	for n := 45; n < 55; n++ {
		for _, loop := range []string{"?n0(A-n1)", "?n0+1(A-n1)", "?n0=a(A-n1)a", "?n0(B(A-n1))", "?n0?(A-n1)01", "?n0((CA)(A-n1))"} {
			p := mustParse(t, "A[n]"+loop+"/B[a]a/C[ab]b/(A"+written(n)+")")
			if want := checkFlat(t, p); (want.end == impl.EndDone) != (n < 50) || n < 50 && want.count.Deepest != n+1 {
				t.Errorf("%q has %d bodies within each other, but is %v", p, n+1, want)
			}
		}
		// To get an argument is no body, unless it is the last one.
		for last, more := range map[string]int{"(B1)": 1, "(B(B1))": 1, "(C1)": 0, "((C1)2)": 1, "=c(C1)(c2)": 1, "C": 0, "(B(C1))": 1, "(CC)": 0, "(D1)": 2} {
			p := mustParse(t, "A[n]?n"+last+"(A-n1)/B[a]a/C[ab]a/D[a](Ba)/(A"+written(n)+")")
			if want := checkFlat(t, p); (want.end == impl.EndDone) != (n+1+more <= 50) {
				t.Errorf("%q has %d bodies within each other, but is %v", p, n+1+more, want)
			}
		}
	}
	for main, want := range map[string]string{
		// Bodies one behind the other do not lie within each other.
		"+(A#49)(A#49)": "0", "(A(A#49))": "0", "=a(A#49)(Aa)": "0", "(B(A#49))": "0", "((C(A#49))(A#49))": "0", "((C(A#49))(A#50))": "long",
		"(D#48)": "0", "(D#49)": "long", "(E#49)": "fault", "(E#50)": "long",
	} {
		checkFlatEnd(t, "A[n]?n0(A-n1)/B[a]a/C[ab]a/D[a](Aa)/E[n]?n(12)(E-n1)/"+main, want)
	}
}

// flatOfLength returns a flat term of so many bytes, which are 1, 3 or more.
func flatOfLength(bytes int) string {
	if bytes%2 == 1 {
		return strings.Repeat("+1", bytes/2) + "1"
	}
	return strings.Repeat("+1", bytes/2-2) + "?010"
}

func TestLengthsOfFlatTerms(t *testing.T) {
	for _, bytes := range []int{1, 3, 4, 119, 120, 121, 122, 397, 398, 399, 400, 401, 402, 403, 404, 1000, 1001, 100000} {
		text := flatOfLength(bytes)
		if len(text) != bytes {
			t.Fatalf("%d bytes instead of %d", len(text), bytes)
		}
		for _, around := range []string{"X", "A[a]X/1", "A[a]X/(A1)", "A[a]1/B[b]X/7", "A[a]1/X", "A[a]X/X"} {
			checkFlatText(t, strings.ReplaceAll(around, "X", text), bytes <= 400)
		}
		if 4 < bytes && bytes < 1000 {
			checkFlatText(t, "A[a]"+strings.Replace(text, "1", "a", 1)+"/"+strings.Replace(text, "1", "A", 1), bytes <= 400)
		}
	}
	most := impl.Flat{Main: flatOfLength(400)}
	for _, name := range strings.Split(allSups, "") {
		most.Sups = append(most.Sups, impl.Sup{Name: name, Params: allNames[7:], Body: flatOfLength(400)})
	}
	checkFlat(t, most)
}

// As many parts of a flat term may lie within each other as they like.
func TestDeepFlatTerms(t *testing.T) {
	for _, around := range [][2]string{
		{"(", "1)"}, {"(B", ")"}, {"=a", "1"}, {"=a1", ""}, {"+", "1"}, {"-1", ""}, {"*", "1"}, {"?", "11"}, {"?1", "1"}, {"?11", ""},
	} {
		for _, n := range []int{22, 23, 24, 25, 60, 90} {
			text := strings.Repeat(around[0], n) + "B" + strings.Repeat(around[1], n)
			checkFlatText(t, "B[a]a/"+text, true)
			checkFlatText(t, "A[b]"+text+"/B[b]"+strings.ReplaceAll(text, "B", "b")+"/(A1)", true)
		}
	}
	for _, deep := range []string{strings.Repeat("+", 199) + strings.Repeat("1", 200), strings.Repeat("=a1", 133) + "a", strings.Repeat("?", 133) + strings.Repeat("1", 267)} {
		checkFlatText(t, deep, true)
		checkFlatText(t, "A[a]"+deep+"/(A1)", true)
	}
}

// supsNamed returns lifted functions with the names of a text, one letter each.
func supsNamed(names string) string {
	text := ""
	for _, name := range strings.Split(names, "") {
		text += name + "[a]a/"
	}
	return text
}

func TestNamesOfLiftedFunctions(t *testing.T) {
	for names, valid := range map[string]bool{
		"A": true, "L": true, "LA": true, allSups: true, "LKJIHGFEDCBA": true, allSups[:11]: true,
		"AA": false, "ABA": false, "BAA": false, allSups + "A": false, allSups + "L": false, allSups + "M": false, allSups[:11] + "A": false, allSups + allSups: false, strings.Repeat("A", 1000): false,
		"M": false, "Z": false, "@": false, "a": false, "l": false, "1": false, " ": false, "\x00": false, "\xc1": false, "$": false, "]": false, "É": false, "A M": false,
	} {
		checkFlatText(t, supsNamed(names)+"7", valid)
		checkFlatText(t, supsNamed(names)+"("+names[:1]+"7)", valid)
	}
	for b := range 256 {
		name := string([]byte{byte(b)})
		valid := 'A' <= b && b <= 'L'
		checkFlatText(t, name+"[a]a/1", valid)
		if p := (impl.Flat{Sups: []impl.Sup{{Name: name, Params: "a", Body: "a"}}, Main: "(" + name + "1)"}); valid {
			checkFlat(t, p)
		} else {
			checkNoFlat(t, p)
		}
	}
	for _, name := range []string{"", "AB", "AA", "A ", " A", "A[", "A[a]a/B", "é", "\xff", strings.Repeat("A", 1000)} {
		checkNoFlat(t, impl.Flat{Sups: []impl.Sup{{Name: name, Params: "a", Body: "a"}}, Main: "7"})
	}
}

func TestParametersOfLiftedFunctions(t *testing.T) {
	for params, valid := range map[string]bool{
		"a": true, "p": true, "ab": true, "ba": true, "pa": true, allNames[:9]: true, allNames[7:]: true, "ihgfedcba": true,
		"": false, "aa": false, "aba": false, "abb": false, "abcdefgha": false, allNames[:10]: false, allNames: false, "abcdefghia": false, strings.Repeat("a", 1000): false,
		"q": false, "A": false, "1": false, "a ": false, " a": false, "a b": false, "a,b": false, "[a": false, "a]": false, "a/b": false, "é": false, "aé": false, "\x00": false, "`": false,
	} {
		p := impl.Flat{Sups: []impl.Sup{{Name: "A", Params: params, Body: "7"}}, Main: "(A1)"}
		if valid {
			checkFlat(t, p)
		} else {
			checkNoFlat(t, p)
		}
		checkFlatText(t, "A["+params+"]7/(A1)", valid)
	}
	for b := range 256 {
		param := string([]byte{byte(b)})
		checkFlatText(t, "A["+param+"]"+param+"/(A1)", 'a' <= b && b <= 'p')
		checkFlatText(t, "A[o"+param+"]o/(A1)", 'a' <= b && b <= 'p' && b != 'o')
	}
}

func TestNamesThatStandFreeInFlatPrograms(t *testing.T) {
	for text, valid := range map[string]bool{
		"A[a]a/1": true, "A[a]b/1": false, "A[a]+ab/1": false, "A[ab]+ab/1": true, "A[b]+ab/1": false, "A[a]=b1b/1": true, "A[a]=bbb/1": false, "A[a]=bab/1": true,
		"A[a]+=b1bb/1": false, "A[a]=a1a/1": true, "A[a]?1ab/1": false, "A[a]?ab1/1": false, "A[a]?b11/1": false, "A[a](ba)/1": false, "A[a](ab)/1": false,
		"A[a]a/B[b]a/1": false, "A[a]b/B[b]b/1": false, "A[a]1/a": false, "A[a]1/(Aa)": false, "A[a]1/=a1(Aa)": true, "A[a]1/=a(Aa)1": false, "A[a]1/+=a1aa": false,
		"a": false, "p": false, "=a1a": true, "=aa1": false, "=a1b": false, "=a1=b2+ab": true, "A[p]a/1": false, "A[abcdefghi]p/1": false, "A[abcdefghi]i/1": true,
	} {
		checkFlatText(t, text, valid)
	}
}

func TestLiftedFunctionsThatAreNotThere(t *testing.T) {
	for text, valid := range map[string]bool{
		"A": false, "L": false, "(A1)": false, "?1A2": false, "A[a]B/1": false, "A[a]A/1": true, "A[a]1/B": false, "A[a]1/A": true, "B[a]1/A": false, "B[a]A/B": false,
		"A[a]B/B[b]A/1": true, "A[a]B/B[b]C/1": false, "A[a]1/B[b]C/1": false, "A[a]1/B[b]1/+1C": false, "A[a]1/=aB1": false, "A[a](Aa)/(AL)": false, "A[a]1/(AM)": false, "M": false,
	} {
		checkFlatText(t, text, valid)
	}
}

// noFlatTerms are texts that are no flat terms.
var noFlatTerms = []string{
	"", " ", "q", "M", "Z", "é", "%", ".0", "{A}", "$0;", "\n", "\x00", "\xff\xfe", "1 ", " 1", "(A 1)", "(1 2)", "+ 12", "+1 2", "A ", "1\n", "1\x00", "(A\t1)",
	"12", "AA", "A1", "(12)3", "(12))", "=a123", "+123", "?1234", "(", ")", "()", "(1)", "(A)", "(123)", "(12", "(A1", "[12]", "A[a]", "=", "=a", "=a1", "=1aa", "=A11", "=aA", "==a11",
	"+", "-", "*", "+1", "+A", "?", "?1", "?12", "?AA", "#1", "#09", "#0", "#A1", "#1A", "+1#1", `\`, `\a`, "@", "@ab", "@aa1",
	`\aa`, `\a1`, `@aba`, `@fn(fn)`, `(\aa1)`, `(A\aa)`, `=a\aaa`, `=a1\ba`, `+1\aa`, `?01\aa`, `?0\aa1`, `=f@fn1(f1)`, `\AA`, "+1/1", "1/", "/1", "A[a]a",
}

func TestTextsThatAreNoFlatTerms(t *testing.T) {
	for _, text := range noFlatTerms {
		a := impl.Sup{Name: "A", Params: "a", Body: "a"}
		checkNoFlat(t, impl.Flat{Sups: []impl.Sup{a}, Main: text})
		checkNoFlat(t, impl.Flat{Sups: []impl.Sup{{Name: "A", Params: "a", Body: text}}, Main: "7"})
		checkNoFlat(t, impl.Flat{Sups: []impl.Sup{a, {Name: "B", Params: "a", Body: text}}, Main: "(A1)"})
		checkNoFlat(t, impl.Flat{Sups: []impl.Sup{{Name: "B", Params: "a", Body: text}, a}, Main: "7"})
		if !strings.Contains(text, "/") {
			checkNoFlatText(t, "A[a]a/"+text)
			checkNoFlatText(t, "A[a]"+text+"/7")
			checkNoFlatText(t, "A[a]a/B[a]"+text+"/(A1)")
		}
	}
	for b := range 256 {
		text := string([]byte{byte(b)})
		checkFlatText(t, "A[a]"+text+"/1", '0' <= b && b <= '9' || b == 'a' || b == 'A')
		checkFlatText(t, "A[a]a/=a1"+text, '0' <= b && b <= '9' || b == 'a' || b == 'A')
		checkFlatText(t, "A[a]a/(A1)"+text, false)
	}
}

func TestTextsThatAreNoFlatPrograms(t *testing.T) {
	for _, text := range []string{
		"", "/", "//", "[", "]", "[]/", "A[a]a", "A[a]a/", "A[a]/1", "A[a]/", "A[]1/1", "[a]a/1", "a]a/1", "Aa/1", "A[a/1", "Aa]a/1", "A]a[a/1", "A[aa/1", "A[[a]a/1", "A[a]]a/1", "A[a][a]a/1", "A(a)a/1",
		"A[a]a//1", "/A[a]a/1", "A[a]a/1/", "A[a]a/1/1", "1/1", "7/A[a]a/1", "A[a]a/1/B[b]b/1", "A[a]aB[b]b/1", "A [a]a/1", "A[a] a/1", "A[ a]a/1", "A[a ]a/1", "A[a]a /1", "A[a]a/ 1", " A[a]a/1", "A[a]a/1 ", "A[a]a\n1",
		"A[a]a/A[b]b/1", "A[a]a/B[b]b/A[c]c/1", strings.Repeat("A[a]a/", 1000) + "1", strings.Repeat("/", 1000), supsNamed(allSups) + "M[a]a/1", strings.Repeat("[", 100000), strings.Repeat("(", 100000),
		"AB[a]a/1", "A[a]a/AB[a]a/1", "A[a]a,B[b]b/1",
	} {
		checkNoFlatText(t, text)
	}
	checkNoFlat(t, impl.Flat{})
	checkNoFlat(t, impl.Flat{Sups: make([]impl.Sup, 1), Main: "7"})
	checkNoFlat(t, impl.Flat{Sups: make([]impl.Sup, 1000), Main: "7"})
	checkFlat(t, impl.Flat{Sups: []impl.Sup{}, Main: "7"})
}

// No text in front of a flat program's end is one, unless what is left of Main is a flat term.
func TestFlatProgramsEndWhereTheyEnd(t *testing.T) {
	for _, text := range []string{"A[ac]+ca/=a2=b(Aa)(b3)", "A[b]((BA)b)/B[abc](a(bc))/(A#10)", "A[a]?a12/B[bc]-bc/((BA)(A#42))"} {
		for cut := range len(text) {
			checkFlatText(t, text[:cut], false)
			checkFlatText(t, text[cut:], validByText(splitByText(text[cut:])))
		}
		for b := range 256 {
			checkFlatText(t, text+string([]byte{byte(b)}), false)
		}
	}
}

// liftByText returns the flat program of a closed term with different bound names, without its limits.
func liftByText(text string) impl.Flat {
	p := impl.Flat{}
	var flat func(text string, stands map[string]string) string
	flat = func(text string, stands map[string]string) string {
		piece := pieceOf(text)
		if piece.kids == nil {
			if u, ok := stands[text]; ok {
				return u
			}
			return text
		}
		if piece.front != `\` && piece.front != "@" {
			for i, kid := range piece.kids {
				piece.kids[i] = flat(kid, stands)
			}
			return piece.text()
		}
		names := strings.Split(freeOf(text), "")
		slices.Sort(names)
		index, last := len(p.Sups), len(piece.binds)-1
		name := string(rune('A' + index))
		here, there := name, name
		for _, captured := range names {
			here = "(" + here + flat(captured, stands) + ")"
			there = "(" + there + captured + ")"
		}
		p.Sups = append(p.Sups, impl.Sup{Name: name, Params: strings.Join(names, "") + piece.binds[last:]})
		body := flat(piece.kids[0], map[string]string{piece.binds[:last]: there})
		p.Sups[index].Body = body
		return here
	}
	p.Main = flat(text, nil)
	return p
}

// checkLift checks the flat program of a term, which is none if it has no text.
func checkLift(t *testing.T, text, want string) {
	t.Helper()
	p, ok := impl.Lift(text)
	if ok != (want != "") || !sameFlat(p, splitByText(want)) {
		t.Errorf("Lift(%q) = %q, %v, want %q", text, formatByText(p), ok, want)
	}
	if ok {
		checkLiftedRun(t, text, p)
	}
}

// checkLiftedRun checks that a flat program does what the term does of which it is made, and returns how both runs end.
func checkLiftedRun(t *testing.T, text string, p impl.Flat) (told, impl.Result) {
	t.Helper()
	end := checkFlat(t, p)
	x, ok := impl.RunTerm(text)
	if y, _ := impl.RunFlat(p); !ok || x != y && x.End != impl.EndLong && y.End != impl.EndLong {
		t.Errorf("RunTerm(%q) = %v, %v, but RunFlat(%q) = %v", text, x, ok, formatByText(p), y)
	}
	return end, x
}

// checkLiftByText checks Lift of a text by the oracle, and returns whether it has a flat program.
func checkLiftByText(t *testing.T, text string) bool {
	t.Helper()
	unique, ok := impl.Unique(text)
	if !ok || !impl.IsClosed(text) {
		checkLift(t, text, "")
		return false
	}
	want := liftByText(unique)
	if !validByText(want) {
		checkLift(t, text, "")
		return false
	}
	checkLift(t, text, formatByText(want))
	return true
}

func TestLift(t *testing.T) {
	for _, c := range [][2]string{
		{"7", "7"},
		{"#42", "#42"},
		{"+1*23", "+1*23"},
		{"=a1=b2+ab", "=a1=b2+ab"},
		{"?0(12)3", "?0(12)3"},
		{`\aa`, "A[a]a/A"},
		{`\a1`, "A[a]1/A"},
		{`(\aa1)`, "A[a]a/(A1)"},
		{`(\aa\bb)`, "A[a]a/B[b]b/(AB)"},
		{`\a\b1`, "A[a]B/B[b]1/A"},
		{`\a\ba`, "A[a](Ba)/B[ab]a/A"},
		{`((\a\b+ab2)3)`, "A[a](Ba)/B[ab]+ab/((A2)3)"},
		{`\a\b\c(a(bc))`, "A[a](Ba)/B[ab]((Ca)b)/C[abc](a(bc))/A"},
		{`\a\b\c(b(ac))`, "A[a](Ba)/B[ab]((Ca)b)/C[abc](b(ac))/A"},
		{`\a\b\cb`, "A[a]B/B[b](Cb)/C[bc]b/A"},
		{`\a\b\ca`, "A[a](Ba)/B[ab](Ca)/C[ac]a/A"},
		{`=a2=f\j+ja(f3)`, "A[ac]+ca/=a2=b(Aa)(b3)"},
		{`=a\aaa`, "A[b]b/=aAa"},
		{`=a\aa\ba`, "A[b]b/B[ac]a/=aA(Ba)"},
		{`?\a1\b2\c3`, "A[a]1/B[b]2/C[c]3/?ABC"},
		{`*(\a\b1\c2)(\d3\e4)`, "A[a]B/B[b]1/C[c]2/D[d]3/E[e]4/*(AC)(DE)"},
		{`(\a(\ba1)\c(\dc2))`, "A[a]((Ba)1)/B[ab]a/C[c]((Dc)2)/D[cd]c/(AC)"},
	} {
		checkLift(t, c[0], c[1])
		checkLiftByText(t, c[0])
	}
}

func TestLiftOfFunctionsThatCallThemselves(t *testing.T) {
	for _, c := range [][2]string{
		{"@fn(fn)", "A[b](Ab)/A"},
		{"@nf(fn)", "A[b](bA)/A"},
		{"@fn1", "A[b]1/A"},
		{"@fnf", "A[b]A/A"},
		{"@fnn", "A[b]b/A"},
		{"(@fn?n1*n(f-n1)5)", "A[b]?b1*b(A-b1)/(A5)"},
		{"=m1@fn(f+nm)", "A[ac]((Aa)+ca)/=a1(Aa)"},
		{"=m1=k2@fn(f+k+nm)", "A[abd](((Aa)b)+b+da)/=a1=b2((Aa)b)"},
		{"=m1@fn(f(fm))", "A[ac]((Aa)((Aa)a))/=a1(Aa)"},
		{"(@fn?n7(\\m(fm)-n1)2)", "A[b]?b7((BA)-b1)/B[ac](ac)/(A2)"},
		{`@fn\m(f(nm))`, "A[b]((BA)b)/B[abc](a(bc))/A"},
		{`@fn\mf`, "A[b](BA)/B[ac]a/A"},
		{`@fn\mm`, "A[b]B/B[c]c/A"},
		{`@fn(\mf(f\kf))`, "A[b]((BA)(A(CA)))/B[ac]a/C[ad]a/A"},
		{`@fn@gm(f(g(nm)))`, "A[b]((BA)b)/B[abd](a(((Ba)b)(bd)))/A"},
		{`@fn@gm(fg)`, "A[b](BA)/B[ad](a(Ba))/A"},
		{`@fn@gmg`, "A[b]B/B[d]B/A"},
		{`@fn@nf(fn)`, "A[b]B/B[d](dB)/A"},
		{`=p9@fn\m(f(m+np))`, "A[ac](((Ba)(Aa))c)/B[abcd](b(d+ca))/=a9(Aa)"},
		{`\a@fn\b(f(a(nb)))`, "A[a](Ba)/B[ac](((Ca)(Ba))c)/C[abcd](b(a(cd)))/A"},
	} {
		checkLift(t, c[0], c[1])
		checkLiftByText(t, c[0])
	}
}

// The names are those of Unique, and the parameters are in the order of the alphabet, wherever they stand.
func TestLiftOfTermsWhoseNamesAreChanged(t *testing.T) {
	for _, c := range [][2]string{
		{`\pp`, "A[a]a/A"},
		{"@pop", "A[b]A/A"},
		{"=p1p", "=a1a"},
		{`\a\aa`, "A[a]B/B[b]b/A"},
		{`\b\ab`, "A[a](Ba)/B[ab]a/A"},
		{`=a1=a2\aa`, "A[c]c/=a1=b2A"},
		{`=a1=a2\ba`, "A[bc]b/=a1=b2(Ab)"},
		{`(\aa\aa)`, "A[a]a/B[b]b/(AB)"},
		{`=c1=b2=a3\d+d+a+bc`, "A[abcd]+d+c+ba/=a1=b2=c3(((Aa)b)c)"},
		{`=c1=b2=a3\d+d+c+ba`, "A[abcd]+d+a+bc/=a1=b2=c3(((Aa)b)c)"},
		{`=c1=b2=a3\dc`, "A[ad]a/=a1=b2=c3(Aa)"},
		{`=c1=b2=a3\d(ac)`, "A[acd](ca)/=a1=b2=c3((Aa)c)"},
		{`\c\b\a(ca)`, "A[a](Ba)/B[ab](Ca)/C[ac](ac)/A"},
		{`\c\b\a(a(bc))`, "A[a](Ba)/B[ab]((Ca)b)/C[abc](c(ba))/A"},
		{`=k1(@fk?k0(f-k1)3)`, "A[c]?c0(A-c1)/=a1(A3)"},
		{`=f1@fn+f(fn)`, "A[c]+A(Ac)/=a1A"},
		{`@fn=f1f`, "A[b]=c1c/A"},
		{`@fn=ff(fn)`, "A[b]=cA(cb)/A"},
	} {
		checkLift(t, c[0], c[1])
		checkLiftByText(t, c[0])
	}
}

// termsWithManyFunctions returns closed terms, and whether they have 12 functions at most and names enough for Unique.
func termsWithManyFunctions() map[string]bool {
	terms := map[string]bool{}
	for n := 1; n <= 17; n++ {
		for _, text := range []string{sum(repeat(`\a1`, n)), sum(repeat(`(\a12)`, n)), strings.Repeat(`\a`, n) + "1"} {
			terms[text] = n <= 12
		}
		for _, text := range []string{sum(repeat(`@ab1`, n)), strings.Repeat(`@ab`, n) + "1"} {
			terms[text] = n <= 8
		}
	}
	return terms
}

func TestLiftOfManyFunctions(t *testing.T) {
	for text, lifts := range termsWithManyFunctions() {
		if !impl.TermValid(text) || checkLiftByText(t, text) != lifts {
			t.Errorf("Lift(%q) = %v", text, !lifts)
		}
	}
	nested := strings.Repeat(`\a`, 11)
	checkLift(t, nested+`\a1`, "A[a]B/B[b]C/C[c]D/D[d]E/E[e]F/F[f]G/G[g]H/H[h]I/I[i]J/J[j]K/K[k]L/L[l]1/A")
	checkLift(t, nested+`\a\a1`, "")
	checkLift(t, "(("+nested+`\a1`+")1)", "")
	// Names that are bound by lets are not enough either.
	checkLift(t, strings.Repeat("=a1", 16)+"a", "=a1=b1=c1=d1=e1=f1=g1=h1=i1=j1=k1=l1=m1=n1=o1=p1p")
	checkLift(t, strings.Repeat("=a1", 17)+"a", "")
	checkLift(t, strings.Repeat("=a1", 15)+`\aa`, "A[p]p/=a1=b1=c1=d1=e1=f1=g1=h1=i1=j1=k1=l1=m1=n1=o1A")
	checkLift(t, strings.Repeat("=a1", 16)+`\aa`, "")
}

func TestLiftOfFunctionsWithManyParameters(t *testing.T) {
	for n := 1; n <= 13; n++ {
		names := allNames[:n]
		lets := ""
		for _, name := range strings.Split(names, "") {
			lets += "=" + name + "1"
		}
		for _, text := range []string{lets + `\p` + namesFrom(names), lets + "@op" + namesFrom(names), lets + `(\p+p` + namesFrom(names) + "2)", lets + "(@op?p" + namesFrom(names) + "(o-p1)3)"} {
			if checkLiftByText(t, text) != (n+1 <= 9) {
				t.Errorf("Lift of %q with %d parameters = %v", text, n+1, n+1 > 9)
			}
		}
		// With the function itself as one of what a function within it captures.
		inside := lets + `@op\m(o` + namesFrom(names) + ")"
		if n <= 12 && checkLiftByText(t, inside) != (n+2 <= 9) {
			t.Errorf("Lift of %q with %d parameters = %v", inside, n+2, n+2 > 9)
		}
	}
}

// A body gets long where a function that captures many names calls itself often.
func TestLiftOfLongBodies(t *testing.T) {
	const lets = "=a1=b1=c1=d1=e1=f1=g1=h1"
	lengths := map[int]bool{}
	for selves := 10; selves <= 16; selves++ {
		for ones := range 14 {
			for _, form := range []string{"X", "(XX)", "?XX2"} {
				body := sum(slices.Concat(strings.Split("abcdefgh", ""), repeat("i", selves), repeat("1", ones)))
				body = strings.Replace(strings.Replace(form, "X", body, 1), "X", "1", 1)
				text := lets + "@ij" + body
				length := len(body) + 24*selves
				if len(text) > 120 || length < 380 || length > 420 {
					continue
				}
				lengths[length] = true
				if checkLiftByText(t, text) != (length <= 400) {
					t.Errorf("Lift of %q with a body of %d bytes = %v", text, length, length > 400)
				}
			}
		}
	}
	for _, length := range []int{398, 399, 400, 401, 402} {
		if !lengths[length] {
			t.Errorf("there is no body of %d bytes", length)
		}
	}
}

// As many parts of what is lifted may lie within each other as they like.
func TestLiftOfDeepTerms(t *testing.T) {
	const lets = "=a1=b1=c1=d1=e1=f1=g1=h1"
	for n := 1; n <= 15; n++ {
		text := lets + strings.Repeat("+1", n) + "(@op" + namesFrom("abcdefgh") + "0)"
		if impl.TermValid(text) && !checkLiftByText(t, text) {
			t.Errorf("Lift(%q) = false", text)
		}
	}
	checkLift(t, strings.Repeat("+1", 22)+`\aa`, "A[a]a/"+strings.Repeat("+1", 22)+"A")
	checkLift(t, strings.Repeat("+1", 23)+`\aa`, "")
	checkLift(t, "=a1=b2"+strings.Repeat("+1", 16)+`(\c+c+ab3)`, "A[abc]+c+ab/=a1=b2"+strings.Repeat("+1", 16)+"(((Aa)b)3)")
}

func TestLiftOfWhatIsNoClosedTerm(t *testing.T) {
	for _, text := range slices.Concat(noTerms, noClosedTerms, []string{"A", "(A1)", `\aA`, "A[a]a/A", strings.Repeat("(", 100000), strings.Repeat(`\a`, 100000) + "a"}) {
		checkLift(t, text, "")
	}
}

// Where one of both runs is too long, they may end differently.
func TestLiftedRunsThatAreTooLongInOneWay(t *testing.T) {
	for text, want := range map[string][2]string{
		"(@fn?n0(f-n1)#49)":                    {"0", "0"},
		"(@fn?n0(f-n1)#50)":                    {"long", "long"},
		`=g@fn?n0(f-n1)(g#49)`:                 {"0", "0"},
		`=m1=k2(@fn?n+mk(f-n1)#49)`:            {"3", "3"},
		busy():                                 {"6", "6"},
		padded(busy(), 1500-busySteps):         {"8", "8"},
		padded(busy(), 1502-busySteps):         {"long", "9"},
		"+" + padded(busy(), 20) + `\aa`:       {"long", "fault"},
		endless:                                {"long", "long"},
		`(\a\b(ab)1)`:                          {"function", "function"},
		`((\a\b(ab)1)2)`:                       {"fault", "fault"},
		`=f@fn?n0(f-n1)+(f#49)+(f#49)+(f#49)0`: {"0", "0"},
	} {
		p, ok := impl.Lift(text)
		x, _ := impl.RunTerm(text)
		y, _ := impl.RunFlat(p)
		if !ok || impl.FormatResult(x) != want[0] || impl.FormatResult(y) != want[1] {
			t.Errorf("RunTerm and RunFlat of %q = %s, %s, want %q", text, impl.FormatResult(x), impl.FormatResult(y), want)
		}
		checkLiftByText(t, text)
	}
}

// growCapturing returns one of several forms of terms, in some of which there are lets around that functions capture.
func (g grower) growCapturing(form int) string {
	switch form % 5 {
	case 3:
		return `=b#42=d\aa=e1` + g.grow(g.one(kinds...), map[string]string{"b": "n", "d": ">nn", "e": "n"}, 4+g.Intn(6))
	case 4:
		text := growWith(g.Rand, "abcd", 3+g.Intn(5))
		for _, name := range freeOf(text) {
			text = "=" + string(name) + g.one("1", `\aa`, "@ab(ab)", `\a\b(ba)`) + text
		}
		return text
	}
	return g.grow(g.one(kinds...), nil, 4+g.Intn(6))
}

// Grown terms come to the same with lifted functions as with closures.
func TestLiftOfGrownTerms(t *testing.T) {
	g := grower{rand.New(rand.NewSource(9))}
	ends, sups, captured := map[string]int{}, map[int]int{}, 0
	for i := range 6000 {
		text := g.growCapturing(i)
		if !impl.IsClosed(text) || !checkLiftByText(t, text) {
			continue
		}
		p, _ := impl.Lift(text)
		sups[len(p.Sups)]++
		if n, _ := impl.CountFlat(p); n.Captured > 0 {
			captured++
		}
		x, _ := impl.RunTerm(text)
		ends[strings.TrimLeft(impl.FormatResult(x), "0123456789")]++
	}
	if ends[""] < 600 || ends["function"] < 800 || ends["fault"] < 200 || ends["long"] < 50 || captured < 400 || sups[1] < 400 || sups[3] < 200 || sups[6] < 30 {
		t.Errorf("ends = %v, lifted functions = %v, of which %d get arguments before the last one", ends, sups, captured)
	}
}

// flatKinds are the kinds of values in grown flat programs.
var flatKinds = []string{"n", ">nn", ">n>nn", ">>nnn", ">n>n>nn", ">>nn>nn"}

// growFlat returns a flat term of a kind, where kindOf tells the kinds of names and lifted functions.
func (g grower) growFlat(kind string, kindOf map[string]string, nest int) string {
	if g.Intn(100) == 0 {
		kind = g.one(flatKinds...)
	}
	var have []string
	for _, name := range strings.Split(allNames+allSups, "") {
		if kindOf[name] == kind {
			have = append(have, name)
		}
	}
	if len(have) > 0 && (nest < 2 || g.Intn(4) == 0) {
		return g.one(have...)
	}
	its, name := g.one("n", "n", ">nn"), g.name()
	pick := g.Intn(6)
	switch {
	case nest >= 2 && pick == 0:
		return "=" + name + g.growFlat(its, kindOf, nest-1) + g.growFlat(kind, boundTo(kindOf, name, its), nest-1)
	case nest >= 2 && pick == 1:
		return "?" + g.growFlat("n", kindOf, nest-1) + g.growFlat(kind, kindOf, nest-1) + g.growFlat(kind, kindOf, nest-1)
	case nest >= 2 && pick < 5 && slices.Contains(flatKinds, ">"+its+kind):
		return "(" + g.growFlat(">"+its+kind, kindOf, nest-1) + g.growFlat(its, kindOf, nest-1) + ")"
	case kind != "n" && len(have) > 0:
		return g.one(have...)
	case kind == "n" && nest >= 2:
		return g.one("+", "-", "*") + g.growFlat("n", kindOf, nest-1) + g.growFlat("n", kindOf, nest-1)
	}
	return g.one("0", "1", "2", "#42")
}

// growProgram grows a flat program, in which most lifted functions read only those that are behind them.
// The last ones have each kind once, and as many parameters as they can, so that their bodies are numbers.
func growProgram(g grower) impl.Flat {
	names := strings.Split(allSups, "")
	g.Shuffle(len(names), func(i, j int) { names[i], names[j] = names[j], names[i] })
	names = names[g.Intn(7):]
	all, last := map[string]string{}, len(names)-5
	for i, name := range names {
		all[name] = flatKinds[1+max(i-last, 0)]
		if i < last {
			all[name] = g.one(flatKinds[1:]...)
		}
	}
	p := impl.Flat{Main: g.growFlat(g.one("n", "n", ">nn", ">n>nn"), all, 3+g.Intn(3))}
	for i, name := range names {
		kind, params, inside := all[name], "", map[string]string{}
		for j, other := range names {
			if j > i || g.Intn(10) == 0 {
				inside[other] = all[other]
			}
		}
		for k, at := range g.Perm(16)[:3] {
			if kind == "n" || i < last && k > g.Intn(3) {
				break
			}
			param := allNames[at : at+1]
			inside[param], kind = splitKind(kind)
			params += param
		}
		p.Sups = append(p.Sups, impl.Sup{Name: name, Params: params, Body: g.growFlat(kind, inside, 1+g.Intn(4))})
	}
	return p
}

func TestGrownFlatPrograms(t *testing.T) {
	g := grower{rand.New(rand.NewSource(10))}
	ends, captured := map[string]int{}, 0
	for range 3000 {
		p := growProgram(g)
		if !validByText(p) {
			checkNoFlat(t, p)
			continue
		}
		want := checkFlat(t, p)
		ends[strings.TrimLeft(want.text(), "0123456789")]++
		if want.count.Captured > 0 && want.count.Calls > 0 {
			captured++
		}
	}
	if ends[""] < 500 || ends["function"] < 500 || ends["fault"] < 500 || ends["long"] < 50 || captured < 200 {
		t.Errorf("ends = %v, %d programs have calls with too few arguments", ends, captured)
	}
}

// changed returns a text with one or two bytes more, less, or other ones, which are often some that are likely.
func (g grower) changed(text, likely string) string {
	for range 1 + g.Intn(2) {
		at := g.Intn(len(text))
		some := likely[g.Intn(len(likely)):][:1]
		switch g.Intn(4) {
		case 0:
			text = text[:at] + some + text[at:]
		case 1:
			text = text[:at] + text[at+1:] + "1"
		case 2:
			text = text[:at] + some + text[at+1:]
		case 3:
			to := g.Intn(len(text))
			text = text[:at] + text[to:to+1] + text[at+1:]
		}
	}
	return text
}

// Whatever is changed in the text of a flat program, it is one or none by the oracle too.
func TestChangedFlatPrograms(t *testing.T) {
	g := grower{rand.New(rand.NewSource(11))}
	const likely = "abpqABLM019#()=+?[]/ \\"
	valid := 0
	for range 16000 {
		text := g.changed(formatByText(growProgram(g)), likely)
		p := splitByText(text)
		want := validByText(p) && formatByText(p) == text
		if q, ok := impl.ParseFlat(text); ok != want || ok && !sameFlat(p, q) || !ok && !sameFlat(q, impl.Flat{}) {
			t.Errorf("ParseFlat(%q) = %q, %v", text, q, ok)
		}
		if impl.FlatValid(p) != validByText(p) {
			t.Errorf("FlatValid(%q) = %v", p, impl.FlatValid(p))
		}
		if want {
			valid++
		}
	}
	if valid < 400 {
		t.Errorf("%d of the texts are valid", valid)
	}
}

// Whoever changes a result changes no other one, nor what it was made of.
func TestFlatProgramsAreNew(t *testing.T) {
	const text, term = "A[ab]a/B[c]c/C[a](Ca)/((A1)B)", `((\a\b+ab2)3)`
	parsed, _ := impl.ParseFlat(text)
	lifted, _ := impl.Lift(term)
	for _, list := range [][]impl.Sup{parsed.Sups, lifted.Sups} {
		for i := range list[:cap(list)] {
			list[:cap(list)][i] = impl.Sup{Name: "x"}
		}
	}
	if again, ok := impl.ParseFlat(text); impl.FormatFlat(again) != text || !ok {
		t.Errorf("ParseFlat(%q) = %q, %v", text, again, ok)
	}
	if again, ok := impl.Lift(term); impl.FormatFlat(again) != "A[a](Ba)/B[ab]+ab/((A2)3)" || !ok {
		t.Errorf("Lift(%q) = %q, %v", term, again, ok)
	}
}

// What lies behind the end of the lifted functions is neither read nor written.
func TestFlatProgramsWithRoomBehindThem(t *testing.T) {
	sups := make([]impl.Sup, 20)
	for i := range sups {
		sups[i] = impl.Sup{Name: "A", Params: "", Body: strconv.Itoa(i)}
	}
	sups[0] = impl.Sup{Name: "B", Params: "a", Body: "+a1"}
	before := slices.Clone(sups)
	p := impl.Flat{Sups: sups[:1], Main: "(B2)"}
	if want := checkFlat(t, p); want.text() != "3" {
		t.Errorf("the oracle says %v of %q", want, p)
	}
	if !slices.Equal(sups, before) {
		t.Errorf("%q was changed to %q", before, sups)
	}
}

func TestLimitsOfFlatPrograms(t *testing.T) {
	if impl.MaxSups != 12 || impl.MaxFlat != 400 {
		t.Errorf("MaxSups, MaxFlat = %d, %d", impl.MaxSups, impl.MaxFlat)
	}
}
