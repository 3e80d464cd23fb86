package tests

import (
	"errors"
	"math"
	"math/rand"
	"slices"
	"strconv"
	"strings"
	"testing"

	"loop.example/flatfunctions/impl"
)

// noClosedTerms are terms in which a name stands free.
var noClosedTerms = []string{"a", "p", `\ab`, "=aa1", "=a1b", "@fn(fm)", "(1a)", "?01a", `(\aaa)`, "+1(2b)"}

// endless is a term that goes on too long.
const endless = `(\a(aa)\a(aa))`

// A told value is what chapter 3 tells of a run: among others the index of the function that it comes to, and those of the functions that are called.
// Sites are the indices of the parts that call these, made are those of the functions that are evaluated, each time again, and came are the pairs of a part and a function to which it is evaluated.
type told struct {
	end   int
	isFun bool
	value int
	fun   int
	count impl.Count
	calls []int
	sites []int
	made  []int
	came  map[[2]int]bool
}

// A worth is a number, or a function with its index and what its free names are.
type worth struct {
	number int
	text   string
	index  int
	names  map[string]worth
}

var (
	errFault = errors.New("fault")
	errLong  = errors.New("long")
)

// An oracle runs texts in the words of the chapter, where a closure has nothing but its free names.
type oracle struct {
	told
}

func runByText(text string, names map[string]worth) told {
	o := &oracle{told{came: map[[2]int]bool{}}}
	w, err := o.evaluate(text, 0, 0, names)
	switch err {
	case errFault:
		return told{end: impl.EndFault}
	case errLong:
		return told{end: impl.EndLong}
	}
	o.isFun, o.value, o.fun = w.text != "", w.number, w.index
	return o.told
}

// evaluate is told the index of a part, and how many calls it lies within.
func (o *oracle) evaluate(text string, index, depth int, names map[string]worth) (w worth, err error) {
	defer func() {
		if err == nil && w.text != "" {
			o.came[[2]int{index, w.index}] = true
		}
	}()
	if o.count.Steps == 1500 {
		return worth{}, errLong
	}
	o.count.Steps++
	p := pieceOf(text)
	switch text[0] {
	case '\\', '@':
		w := worth{text: text, index: index, names: map[string]worth{}}
		for _, name := range freeOf(text) {
			w.names[string(name)] = names[string(name)]
		}
		o.count.Closures++
		o.count.Captured += len(w.names)
		o.made = append(o.made, index)
		return w, nil
	case '?':
		return o.choose(p, index, depth, names)
	case '(', '=', '+', '-', '*':
		return o.pair(p, index, depth, names)
	}
	if w, ok := names[text]; ok {
		return w, nil
	}
	n, err := strconv.Atoi(strings.TrimPrefix(text, "#"))
	return worth{number: n}, err
}

func boundTo[What any](names map[string]What, name string, what What) map[string]What {
	more := map[string]What{name: what}
	for other, what := range names {
		if other != name {
			more[other] = what
		}
	}
	return more
}

func partsIn(text string) int {
	n := 1
	for _, kid := range pieceOf(text).kids {
		n += partsIn(kid)
	}
	return n
}

// functionsAt returns the indices of all functions in a text.
func functionsAt(text string) []int {
	var list []int
	var visit func(part string, index int)
	visit = func(part string, index int) {
		if part[0] == '\\' || part[0] == '@' {
			list = append(list, index)
		}
		index++
		for _, kid := range pieceOf(part).kids {
			visit(kid, index)
			index += partsIn(kid)
		}
	}
	visit(text, 0)
	return list
}

func (o *oracle) choose(p piece, index, depth int, names map[string]worth) (worth, error) {
	asked, err := o.evaluate(p.kids[0], index+1, depth, names)
	if err != nil {
		return worth{}, err
	}
	if asked.text != "" {
		return worth{}, errFault
	}
	at := index + 1 + partsIn(p.kids[0])
	if asked.number == 0 {
		return o.evaluate(p.kids[1], at, depth, names)
	}
	return o.evaluate(p.kids[2], at+partsIn(p.kids[1]), depth, names)
}

func (o *oracle) pair(p piece, index, depth int, names map[string]worth) (worth, error) {
	one, err := o.evaluate(p.kids[0], index+1, depth, names)
	if err != nil {
		return worth{}, err
	}
	if p.front == "=" {
		names = boundTo(names, p.binds, one)
	}
	two, err := o.evaluate(p.kids[1], index+1+partsIn(p.kids[0]), depth, names)
	if err != nil || p.front == "=" {
		return two, err
	}
	if p.front == "(" {
		return o.call(index, one, two, depth+1)
	}
	if one.text != "" || two.text != "" {
		return worth{}, errFault
	}
	n := map[string]int{"+": one.number + two.number, "-": one.number - two.number, "*": one.number * two.number}[p.front]
	for n > 99 {
		n -= 100
	}
	for n < 0 {
		n += 100
	}
	return worth{number: n}, nil
}

func (o *oracle) call(site int, fun, arg worth, depth int) (worth, error) {
	if fun.text == "" {
		return worth{}, errFault
	}
	if depth > 50 {
		return worth{}, errLong
	}
	o.count.Calls++
	o.count.Deepest = max(o.count.Deepest, depth)
	o.calls = append(o.calls, fun.index)
	o.sites = append(o.sites, site)
	p := pieceOf(fun.text)
	names := boundTo(fun.names, p.binds[len(p.binds)-1:], arg)
	if len(p.binds) == 2 {
		names = boundTo(names, p.binds[:1], fun)
	}
	return o.evaluate(p.kids[0], fun.index+1, depth, names)
}

func (w told) text() string {
	switch {
	case w.end == impl.EndFault:
		return "fault"
	case w.end == impl.EndLong:
		return "long"
	case w.isFun:
		return "function"
	}
	return strconv.Itoa(w.value)
}

// checkRun checks all that chapter 3 tells of a closed term.
func checkRun(t *testing.T, text string, want told) {
	t.Helper()
	x, ok := impl.RunTerm(text)
	if x != (impl.Result{End: want.end, IsFun: want.isFun, Value: want.value}) || !ok {
		t.Errorf("RunTerm(%q) = %v, %v, want %s", text, x, ok, want.text())
	}
	if got := impl.FormatResult(x); got != want.text() {
		t.Errorf("FormatResult of %q = %q, want %q", text, got, want.text())
	}
	if x, ok := impl.RunWith(text, nil); x != (impl.Result{End: want.end, IsFun: want.isFun, Value: want.value}) || !ok {
		t.Errorf("RunWith(%q) = %v, %v, want %s", text, x, ok, want.text())
	}
	if n, ok := impl.CountTerm(text); n != want.count || ok != (want.end == impl.EndDone) {
		t.Errorf("CountTerm(%q) = %v, %v, want %v", text, n, ok, want.count)
	}
	if calls, ok := impl.CallsIn(text); !slices.Equal(calls, want.calls) || ok != (want.end == impl.EndDone) {
		t.Errorf("CallsIn(%q) = %v, %v, want %v", text, calls, ok, want.calls)
	}
	for _, k := range append(functionsAt(text), -1, 0, 1, partsIn(text)) {
		if impl.IsUsed(text, k) != slices.Contains(want.calls, k) {
			t.Errorf("IsUsed(%q, %d) = %v", text, k, impl.IsUsed(text, k))
		}
	}
	if !impl.SameRun(text, text) {
		t.Errorf("SameRun(%q) with itself = false", text)
	}
}

// checkEnd checks a closed term whose result is told as its text, and all else by the oracle.
func checkEnd(t *testing.T, text, want string) {
	t.Helper()
	w := runByText(text, nil)
	if w.text() != want {
		t.Errorf("the oracle says %s of %q, want %s", w.text(), text, want)
	}
	checkRun(t, text, w)
}

func TestRunsAndCounts(t *testing.T) {
	for _, c := range []struct {
		text, want, count string
		calls             []int
	}{
		{"0", "0", "1 0 0 0 0", nil},
		{"#99", "99", "1 0 0 0 0", nil},
		{`\aa`, "function", "1 0 1 0 0", nil},
		{`@fn(fn)`, "function", "1 0 1 0 0", nil},
		{`\a` + endless, "function", "1 0 1 0 0", nil},
		{"=a7a", "7", "3 0 0 0 0", nil},
		{"?012", "1", "3 0 0 0 0", nil},
		{"?#1012", "2", "3 0 0 0 0", nil},
		{`(\aa5)`, "5", "4 1 1 0 1", []int{1}},
		{`(\a\aa5)`, "function", "4 1 2 0 1", []int{1}},
		{`(\a\ba5)`, "function", "4 1 2 1 1", []int{1}},
		{`((\a\ba5)6)`, "5", "7 2 2 1 1", []int{2, 3}},
		{`=a2=b3=f\c+a+a+bc(f1)`, "8", "16 1 1 2 1", []int{5}},
		{`=f\a\b\c+a+bc(((f1)2)3)`, "6", "16 3 3 3 1", []int{1, 2, 3}},
		{`=f\aa=g\b(fb)(g1)`, "1", "11 2 2 1 2", []int{4, 1}},
		{`=f\a+a1=g\b(fb)+(g1)(f5)`, "8", "20 3 2 1 2", []int{6, 1, 1}},
		{`=f\a\bb+((f1)2)((f3)4)`, "6", "17 4 3 0 1", []int{1, 2, 1, 2}},
		{`(@fn?n7(f-n1)2)`, "7", "20 3 1 0 3", []int{1, 1, 1}},
		{`=m1(@fn?nm(f-nm)2)`, "1", "22 3 1 1 3", []int{3, 3, 3}},
		{`=m1(@fn?n\k(f(mk))(f-n1)1)`, "function", "15 2 2 3 2", []int{3, 3}},
		{`=a2=f\j+ja(f3)`, "5", "10 1 1 1 1", []int{3}},
		{`(\f(f2)\a*aa)`, "4", "9 2 2 0 2", []int{1, 5}},
	} {
		checkEnd(t, c.text, c.want)
		n, _ := impl.CountTerm(c.text)
		if got := impl.FormatCount(n); got != c.count {
			t.Errorf("CountTerm(%q) = %q, want %q", c.text, got, c.count)
		}
		if calls, _ := impl.CallsIn(c.text); !slices.Equal(calls, c.calls) {
			t.Errorf("CallsIn(%q) = %v, want %v", c.text, calls, c.calls)
		}
	}
}

// Whatever a name is where a function is called, in the function it is what it was where the function was evaluated.
func TestNamesAreWhatTheyWereInClosures(t *testing.T) {
	for text, want := range map[string]string{
		`=a2=f\j+ja=a9(f3)`:                   "5",
		`=a2=f\j+ja(\a(fa)9)`:                 "11",
		`=a2=f\j+ja(\j(f3)9)`:                 "5",
		`=a1=f\b\ca=a2((f3)4)`:                "1",
		`=f\a\b-ab((f9)2)`:                    "7",
		`=f\a\b-ab=a5=b6((f9)2)`:              "7",
		`=f\a\aa((f1)2)`:                      "2",
		`=f=a8\b+ba=a1(f0)`:                   "8",
		`=f(\a\ba7)=a1=b2(f3)`:                "7",
		`=f\a\ba=g(f1)=h(f2)+(g9)(h9)`:        "3",
		`=f\a\ba=g(f1)=h(f2)-(h9)(g9)`:        "1",
		`=a1=f\ba=a2=g\ba+(f9)*#10(g9)`:       "21",
		`=a1=a+a1=a+a1a`:                      "3",
		`=a5+=a1aa`:                           "6",
		`=a5+(\aa1)a`:                         "6",
		`=a5=b=a1aa`:                          "5",
		`(\a(\b(\c(\d*+abc1)#10)3)4)`:         "70",
		`=k\a\ba=o\a\b\c((ac)(bc))(((ok)k)7)`: "7",
	} {
		checkEnd(t, text, want)
	}
}

func TestFunctionsThatCallThemselves(t *testing.T) {
	for text, want := range map[string]string{
		`(@fn?n1*n(f-n1)5)`:               "20",
		`(@fn?n0+n(f-n1)#10)`:             "55",
		`(@fn?n0?-n11+(f-n1)(f-n2)8)`:     "21",
		`=g@fn?n0+n(f-n1)=f\a9(g3)`:       "6",
		`=f\a9(@fn?n0+1(f-n1)4)`:          "4",
		`=n9(@fn?n0+1(f-n1)4)`:            "4",
		`(@fn\f(f1)2)`:                    "function",
		`((@fn\f(f1)2)\a+a3)`:             "4",
		`((@fn\n?n7(fn)2)0)`:              "7",
		`((@fn\n?n8(f0)2)1)`:              "function",
		`(((@fn\m?mn(f+n1)2)1)0)`:         "3",
		`=m3=g@fn?nm(f-n1)=m4(g2)`:        "3",
		`(@fn@nf?fn(nf)2)`:                "function",
		`((@fn@nf?f5(n-f1)2)3)`:           "5",
		`(@fnf1)`:                         "function",
		`((((@fnf1)2)3)4)`:                "function",
		`=e@ab?b1(@de?e0(a-e1)-b1)(e4)`:   "1",
		`=o@ab?b1(@de?e9(a-e1)-b1)(o5)`:   "9",
		`(@fn?n0(f-n1)#49)`:               "0",
		`=i@gf@hj?j0(f(h-j1))((i\a+a2)5)`: "10",
	} {
		checkEnd(t, text, want)
	}
}

// written returns the text of a number as a term.
func written(n int) string {
	if n < 10 {
		return strconv.Itoa(n)
	}
	return "#" + strconv.Itoa(n)
}

func TestNumbersStayFromZeroToNinetyNine(t *testing.T) {
	for x := range 100 {
		for y := range 100 {
			pair := written(x) + written(y)
			for text, exact := range map[string]int{"+" + pair: x + y, "-" + pair: x - y, "*" + pair: x * y} {
				want := (exact + 100) % 100
				if got, ok := impl.RunTerm(text); got != (impl.Result{Value: want}) || !ok {
					t.Errorf("RunTerm(%q) = %v, %v, want %d", text, got, ok, want)
				}
			}
		}
	}
	for text, want := range map[string]string{
		"+#991": "0", "+#99#99": "98", "-01": "99", "-0#99": "1", "*#99#99": "1", "*#50#50": "0", "*#25#41": "25",
		"+-011": "0", "*-01-02": "2", "?+#99112": "1", "?-1112": "1", "?*#10#1012": "1", "?-0112": "2",
	} {
		checkEnd(t, text, want)
	}
}

// Both sides are evaluated before a number is called or a closure is where a number is needed.
func TestFaultsBehindBothSides(t *testing.T) {
	for text, want := range map[string]string{
		"(12)":                  "fault",
		`(1\aa)`:                "fault",
		`((\aa1)2)`:             "fault",
		"=a1(aa)":               "fault",
		"(1(12))":               "fault",
		"((12)1)":               "fault",
		"(1" + endless + ")":    "long",
		"(" + endless + "1)":    "long",
		"((12)" + endless + ")": "fault",
		"(" + endless + "(12))": "long",
		`(\aa(12))`:             "fault",
		`(\a1(12))`:             "fault",
		`(\a1` + endless + `)`:  "long",
		`=a(12)1`:               "fault",
		`=a` + endless + `1`:    "long",
		`=a1(12)`:               "fault",
		`=a1` + endless:         "long",
		`=a\aa1`:                "1",
		`?\aa12`:                "fault",
		`?@abb12`:               "fault",
		`?\aa` + endless + `1`:  "fault",
		`?\aa1` + endless:       "fault",
		`?\aa(12)(12)`:          "fault",
		`?` + endless + `12`:    "long",
		`?` + endless + `(12)1`: "long",
		`?(12)` + endless + `1`: "fault",
		`?0(12)1`:               "fault",
		`?01(12)`:               "1",
		`?3(12)1`:               "1",
		`?31(12)`:               "fault",
		`?01` + endless:         "1",
		`?7` + endless + `2`:    "2",
		`?0` + endless + `2`:    "long",
		`?71` + endless:         "long",
		`?0\aa1`:                "function",
		`?1\aa1`:                "1",
		`?11\aa`:                "function",
		`\a(12)`:                "function",
	} {
		checkEnd(t, text, want)
	}
}

func TestFaultsInSumsDifferencesAndProducts(t *testing.T) {
	for _, sign := range []string{"+", "-", "*"} {
		for sides, want := range map[string]string{
			`1\aa`:               "fault",
			`\aa1`:               "fault",
			`0\aa`:               "fault",
			`\aa0`:               "fault",
			`\aa\aa`:             "fault",
			`@fn(fn)1`:           "fault",
			`1@fn(fn)`:           "fault",
			`\aa(12)`:            "fault",
			`(12)\aa`:            "fault",
			`(12)1`:              "fault",
			`1(12)`:              "fault",
			`\aa` + endless:      "long",
			endless + `\aa`:      "long",
			`1` + endless:        "long",
			endless + `1`:        "long",
			`0` + endless:        "long",
			`(12)` + endless:     "fault",
			endless + `(12)`:     "long",
			`+1\aa` + endless:    "fault",
			endless + `+1\aa`:    "long",
			`(\a\aa1)(\b\bb2)`:   "fault",
			`=f\aa(f1)?\aa12`:    "fault",
			`(@fn(fn)0)\aa`:      "long",
			`\aa(@fn?n0(f-n1)9)`: "fault",
		} {
			checkEnd(t, sign+sides, want)
		}
	}
}

// padded returns a term that makes so many steps more, which are at least 2.
func padded(text string, more int) string {
	if more%2 == 1 {
		text = `(\a1` + text + ")"
		more -= 3
	}
	if more == 0 {
		return text
	}
	return "+" + sum(repeat("1", more/2)) + text
}

// chain returns calls of a name with one another's results.
func chain(name string, calls int, arg string) string {
	return strings.Repeat("("+name, calls) + arg + strings.Repeat(")", calls)
}

// busy returns a short term that makes busySteps steps, with calls that lie three within each other at most.
func busy() string {
	return `=f\a` + sum(repeat("1", 6)) + `=g\a` + chain("f", 6, "a") + `=h\a` + chain("g", 3, "a") + chain("h", 6, "1")
}

const busySteps = 1483

func TestLongestRuns(t *testing.T) {
	if n, ok := impl.CountTerm(busy()); n.Steps != busySteps || n.Deepest != 3 || !ok {
		t.Fatalf("CountTerm(%q) = %v, %v", busy(), n, ok)
	}
	for steps := busySteps + 2; steps <= 1510; steps++ {
		text := padded(busy(), steps-busySteps)
		want := runByText(text, nil)
		if (want.end == impl.EndDone) != (steps <= 1500) || steps <= 1500 && want.count.Steps != steps {
			t.Fatalf("%q should make %d steps, but makes %v", text, steps, want.count)
		}
		checkRun(t, text, want)
	}
}

// A fault behind exactly 1500 steps is one, and one more step is too many.
func TestFaultsAtTheLastStep(t *testing.T) {
	for around, more := range map[string]int{`(1X)`: 2, `(X1)`: 2, `+\aaX`: 2, `*X\aa`: 2, `-(\b\bb1)X`: 5, `?(\b\bb1)0X`: 1} {
		for steps := 1490; steps <= 1510; steps++ {
			want := "fault"
			if steps > 1500 && around[0] != '?' {
				want = "long"
			}
			checkEnd(t, strings.Replace(around, "X", padded(busy(), steps-more-busySteps), 1), want)
		}
	}
}

// Whatever is evaluated last, it is a step.
func TestLastSteps(t *testing.T) {
	for text, more := range map[string]int{"=pX0": 2, "=pXp": 2, `=pX\oo`: 2, `=pX@mnp`: 2, "=pX?012": 4, "=pX+12": 4, `=pX(\o1p)`: 5, "?X01": 2} {
		for steps := 1490; steps <= 1510; steps++ {
			whole := strings.Replace(text, "X", padded(busy(), steps-more-busySteps), 1)
			want := runByText(whole, nil)
			if (want.end == impl.EndDone) != (steps <= 1500) || steps <= 1500 && want.count.Steps != steps {
				t.Errorf("%q should make %d steps, but makes %v", whole, steps, want.count)
			}
			checkRun(t, whole, want)
		}
	}
}

func TestCallsWithinEachOther(t *testing.T) {
	for _, loop := range []string{`@fn?n0(f-n1)`, `@fn?n0+1(f-n1)`, `@fn?n0=a(f-n1)a`, `@fn?n0?(f-n1)01`, `@fn?n0(\a0(f-n1))`, `@fn?n0(f(\k-k1n))`} {
		for n := 45; n < 55; n++ {
			want := told{end: impl.EndLong}
			if n < 50 {
				want = runByText("("+loop+"#"+strconv.Itoa(n)+")", nil)
				if want.end != impl.EndDone || want.count.Deepest != n+1 {
					t.Errorf("the oracle says %v of %d calls by %q", want, n, loop)
				}
			}
			checkRun(t, "("+loop+"#"+strconv.Itoa(n)+")", want)
		}
	}
	for text, want := range map[string]string{
		// Calls one behind the other do not lie within each other.
		`=f@fn?n0(f-n1)+(f#49)(f#49)`:        "0",
		`=f@fn?n0(f-n1)+(f#49)+(f#49)(f#48)`: "0",
		`=f@fn?n0(f-n1)(f(f#49))`:            "0",
		`=f@fn?n0(f-n1)=a(f#49)(fa)`:         "0",
		`=f@fn?n\aa(f-n1)((f#49)5)`:          "5",
		`=f@fn?n0(f-n1)(\a(fa)#48)`:          "0",
		`=f@fn?n0(f-n1)(\a(fa)#49)`:          "long",
		`=f@fn?n0(f-n1)(\a(\b(fb)a)#47)`:     "0",
		`=f@fn?n0(f-n1)(\a(\b(fb)a)#48)`:     "long",
		`=f@fn?n0(f-n1)(\a9(f#49))`:          "9",
		`=f@fn?n0(f-n1)(\a9(f#50))`:          "long",
		// What is called within fifty calls is a function, a number, or behind a fault.
		`(@fn?n(\aa1)(f-n1)#48)`:    "1",
		`(@fn?n(\aa1)(f-n1)#49)`:    "long",
		`(@fn?n(12)(f-n1)#49)`:      "fault",
		`(@fn?n(12)(f-n1)#50)`:      "long",
		`(@fn?n(\aa(12))(f-n1)#49)`: "fault",
		`(@fn?n\aa(f-n1)#49)`:       "function",
		`(@fn?n+n\aa(f-n1)#49)`:     "fault",
		`(@fn(fn)1)`:                "long",
		`(@fn+1(fn)1)`:              "long",
		endless:                     "long",
	} {
		checkEnd(t, text, want)
	}
	if n, ok := impl.CountTerm(`=f\a+a1` + chain("f", 20, "0")); n.Deepest != 1 || n.Calls != 20 || !ok {
		t.Errorf("arguments lie within calls: %v", n)
	}
}

func checkRunWith(t *testing.T, text string, values []int, want string) {
	t.Helper()
	given := slices.Clone(values)
	x, ok := impl.RunWith(text, values)
	if impl.FormatResult(x) != want || !ok {
		t.Errorf("RunWith(%q, %v) = %v, %v, want %s", text, values, x, ok, want)
	}
	if !slices.Equal(values, given) {
		t.Errorf("RunWith(%q) changed %v to %v", text, given, values)
	}
}

func TestRunWith(t *testing.T) {
	for _, c := range []struct {
		text   string
		values []int
		want   string
	}{
		{"a", []int{0}, "0"},
		{"p", []int{99}, "99"},
		{"7", []int{}, "7"},
		{"-ba", []int{2, 9}, "7"},
		{"-ab", []int{2, 9}, "93"},
		{"-pc", []int{2, 9}, "7"},
		{"+aa", []int{3}, "6"},
		{"+a=a5a", []int{1}, "6"},
		{"+=a5aa", []int{1}, "6"},
		{"=a+aaa", []int{4}, "8"},
		{`(\a*ab+aa)`, []int{3, 5}, "30"},
		{`=f\b-ab=a9(f2)`, []int{6}, "4"},
		{`\ba`, []int{3}, "function"},
		{`(\ba9)`, []int{3}, "3"},
		{`(@fn?na(f-n1)3)`, []int{8}, "8"},
		{`(@ab?bc(a-b1)3)`, []int{8}, "8"},
		{"?a12", []int{0}, "1"},
		{"?a12", []int{1}, "2"},
		{"(ab)", []int{1, 2}, "fault"},
		{"(a" + endless + ")", []int{1}, "long"},
		{`(@fn?n0(f-n1)a)`, []int{49}, "0"},
		{`(@fn?n0(f-n1)a)`, []int{50}, "long"},
		{namesFrom(allNames), []int{0, 1, 2, 3, 4, 5, 6, 7, 8, 9, 10, 11, 12, 13, 14, 15}, "20"},
	} {
		checkRunWith(t, c.text, c.values, c.want)
	}
	for _, c := range []struct {
		text   string
		values []int
	}{
		{"a", nil}, {"a", []int{}}, {"a", []int{1, 2}}, {"+ab", []int{1}}, {"+ab", []int{1, 2, 3}}, {"+aa", []int{1, 1}}, {"7", []int{7}}, {`\aa`, []int{1}}, {"=a1a", []int{1}},
		{"a", []int{-1}}, {"a", []int{100}}, {"a", []int{math.MinInt}}, {"a", []int{math.MaxInt}}, {"+ab", []int{1, 100}}, {"+ab", []int{-1, 1}}, {`\ba`, []int{100}},
		{"?0ab", []int{1, 100}}, {"(ab)", []int{1, -1}}, {endless[:5], nil}, {"", nil}, {"(", nil}, {"q", []int{1}}, {"12", nil},
	} {
		if x, ok := impl.RunWith(c.text, c.values); x != (impl.Result{}) || ok {
			t.Errorf("RunWith(%q, %v) = %v, %v", c.text, c.values, x, ok)
		}
	}
}

func TestFormatOfResultsAndCounts(t *testing.T) {
	for x, want := range map[impl.Result]string{
		{}:                       "0",
		{Value: 10}:              "10",
		{Value: 99}:              "99",
		{Value: -5}:              "-5",
		{Value: 1000}:            "1000",
		{IsFun: true}:            "function",
		{IsFun: true, Value: 4}:  "function",
		{End: 1}:                 "fault",
		{End: 1, IsFun: true}:    "fault",
		{End: 1, Value: 3}:       "fault",
		{End: 2}:                 "long",
		{End: 2, IsFun: true}:    "long",
		{End: 2, Value: 3}:       "long",
		{End: 3}:                 "",
		{End: 3, IsFun: true}:    "",
		{End: 4, Value: 3}:       "",
		{End: -1}:                "",
		{End: -1, IsFun: true}:   "",
		{End: math.MaxInt}:       "",
		{End: math.MinInt}:       "",
		{Value: math.MinInt64}:   "-9223372036854775808",
		{End: 0, Value: 1 << 40}: "1099511627776",
	} {
		if got := impl.FormatResult(x); got != want {
			t.Errorf("FormatResult(%v) = %q, want %q", x, got, want)
		}
	}
	for x, want := range map[impl.Count]string{
		{}: "0 0 0 0 0",
		{Steps: 1, Calls: 2, Closures: 3, Captured: 4, Deepest: 5}:        "1 2 3 4 5",
		{Steps: 1500, Calls: 100, Closures: 20, Captured: 3, Deepest: 50}: "1500 100 20 3 50",
		{Steps: -1, Calls: -20, Captured: 7, Deepest: math.MaxInt64}:      "-1 -20 0 7 9223372036854775807",
	} {
		if got := impl.FormatCount(x); got != want {
			t.Errorf("FormatCount(%v) = %q, want %q", x, got, want)
		}
	}
}

func TestSameRun(t *testing.T) {
	for _, c := range []struct {
		one, two string
		want     bool
	}{
		{"3", "+12", true}, {"3", "4", false}, {"0", "+#991", true}, {"0", `\aa`, false}, {`\aa`, `\ab`, false}, {`\aa`, `@ab1`, true}, {`\aa`, `(\a\ba5)`, true},
		{"(12)", "+1\\aa", true}, {"(12)", "0", false}, {"(12)", endless, false}, {endless, "(@fn(fn)1)", true}, {endless, "0", false}, {endless, `\aa`, false},
		{"a", "a", false}, {"a", "1", false}, {"1", "a", false}, {`\ab`, `\aa`, false}, {"(", "(", false}, {"(", "1", false}, {"0", "", false}, {"", "", false}, {"(1a)", "(12)", false},
	} {
		if impl.SameRun(c.one, c.two) != c.want || impl.SameRun(c.two, c.one) != c.want {
			t.Errorf("SameRun(%q, %q) = %v", c.one, c.two, !c.want)
		}
	}
}

func TestRunsOfWhatIsNoClosedTerm(t *testing.T) {
	for _, text := range append(slices.Clone(noTerms), noClosedTerms...) {
		x, xOk := impl.RunTerm(text)
		n, nOk := impl.CountTerm(text)
		calls, callsOk := impl.CallsIn(text)
		if x != (impl.Result{}) || xOk || n != (impl.Count{}) || nOk || len(calls) != 0 || callsOk {
			t.Errorf("%q is no closed term, but RunTerm, CountTerm, CallsIn = %v, %v, %v", text, x, n, calls)
		}
		for k := -1; k < 5; k++ {
			if impl.IsUsed(text, k) {
				t.Errorf("IsUsed(%q, %d) = true", text, k)
			}
		}
		if impl.SameRun(text, text) || impl.SameRun(text, "0") || impl.SameRun("0", text) {
			t.Errorf("SameRun(%q) = true", text)
		}
	}
	for _, text := range noTerms {
		if x, ok := impl.RunWith(text, nil); x != (impl.Result{}) || ok {
			t.Errorf("RunWith(%q) = %v, %v", text, x, ok)
		}
	}
}

func TestLimitsAndEndsOfRuns(t *testing.T) {
	if impl.MaxSteps != 1500 || impl.MaxDeep != 50 || impl.MaxNumber != 99 {
		t.Errorf("MaxSteps, MaxDeep, MaxNumber = %d, %d, %d", impl.MaxSteps, impl.MaxDeep, impl.MaxNumber)
	}
	if impl.EndDone != 0 || impl.EndFault != 1 || impl.EndLong != 2 {
		t.Errorf("EndDone, EndFault, EndLong = %d, %d, %d", impl.EndDone, impl.EndFault, impl.EndLong)
	}
}

func TestCallsAreNew(t *testing.T) {
	const text = `=f\a\bb+((f1)2)((f3)4)`
	calls, _ := impl.CallsIn(text)
	for i := range calls[:cap(calls)] {
		calls[:cap(calls)][i] = -7
	}
	if again, _ := impl.CallsIn(text); !slices.Equal(again, []int{1, 2, 1, 2}) {
		t.Errorf("CallsIn(%q) = %v", text, again)
	}
}

// kinds are some of the kinds of values: "n" for numbers, and ">" and two kinds for functions from the first one to the second one.
var kinds = []string{"n", "n", ">nn", ">nn", ">n>nn", ">>nnn"}

// A grower grows terms of which most have the kinds that they need, so that they run for a while.
type grower struct {
	*rand.Rand
}

func (g grower) one(of ...string) string { return of[g.Intn(len(of))] }

func (g grower) name() string { return g.one("a", "b", "c", "d", "e") }

// grow returns a text of a kind, where kindOf tells the kinds of the names around.
func (g grower) grow(kind string, kindOf map[string]string, nest int) string {
	if g.Intn(80) == 0 {
		kind = g.one(kinds...)
	}
	if names := namesOf(kind, kindOf); len(names) > 0 && (nest < 3 || g.Intn(4) == 0) {
		return g.one(names...)
	}
	if nest < 3 {
		return g.small(kind, kindOf, nest)
	}
	its, name := g.one(kinds...), g.name()
	switch g.Intn(7) {
	case 0, 1:
		return "=" + name + g.grow(its, kindOf, nest-1) + g.grow(kind, boundTo(kindOf, name, its), nest-1)
	case 2, 3:
		return "(" + g.grow(">"+its+kind, kindOf, nest-1) + g.grow(its, kindOf, nest-1) + ")"
	case 4:
		return "?" + g.grow("n", kindOf, nest-2) + g.grow(kind, kindOf, nest-1) + g.grow(kind, kindOf, nest-1)
	case 5:
		return "(" + g.loop(kind, kindOf, nest) + g.one("1", "2", "4", "9", "#20", "#50") + ")"
	}
	return g.small(kind, kindOf, nest)
}

// small returns a number, an operation or a function.
func (g grower) small(kind string, kindOf map[string]string, nest int) string {
	if kind == "n" {
		if nest < 2 || g.Intn(3) == 0 {
			return g.one("0", "1", "2", "3", "#10", "#99")
		}
		return g.one("+", "-", "*") + g.grow("n", kindOf, nest-1) + g.grow("n", kindOf, nest-1)
	}
	from, to := splitKind(kind)
	v, w := g.name(), g.name()
	inside := boundTo(boundTo(kindOf, w, kind), v, from)
	if v == w || g.Intn(2) == 0 {
		return `\` + v + g.grow(to, boundTo(kindOf, v, from), nest-1)
	}
	return "@" + w + v + g.grow(to, inside, nest-1)
}

// loop returns a function that calls itself with one less until it is 0.
func (g grower) loop(to string, kindOf map[string]string, nest int) string {
	v, w, u := g.one("a", "b"), g.one("c", "d"), g.name()
	inside := boundTo(boundTo(kindOf, w, ">n"+to), v, "n")
	first := g.grow(to, inside, nest-3)
	return "@" + w + v + "?" + v + first + "=" + u + "(" + w + "-" + v + "1)" + g.grow(to, boundTo(inside, u, to), nest-2)
}

// namesOf returns the names of a kind, in the order of the alphabet.
func namesOf(kind string, kindOf map[string]string) []string {
	var names []string
	for _, name := range strings.Split(allNames, "") {
		if kindOf[name] == kind {
			names = append(names, name)
		}
	}
	return names
}

func splitKind(kind string) (from, to string) {
	at := 1
	for open := 1; open > 0; at++ {
		if kind[at] == '>' {
			open++
		} else {
			open--
		}
	}
	return kind[1:at], kind[at:]
}

// Grown terms run as the chapter says it; and with other bound names they do the same.
func TestGrownRuns(t *testing.T) {
	g := grower{rand.New(rand.NewSource(6))}
	ends := map[string]int{}
	for range 12000 {
		text := g.grow(g.one(kinds...), nil, 4+g.Intn(5))
		if !impl.IsClosed(text) {
			continue
		}
		want := runByText(text, nil)
		checkRun(t, text, want)
		ends[strings.TrimLeft(want.text(), "0123456789")]++
		if want.count.Captured > 3 && want.count.Deepest > 2 {
			ends["busy"]++
		}
		if other, ok := impl.Unique(text); ok {
			checkRun(t, other, want)
		}
	}
	if ends[""] < 1500 || ends["function"] < 2000 || ends["fault"] < 100 || ends["long"] < 200 || ends["busy"] < 200 {
		t.Errorf("ends = %v", ends)
	}
}

// A term with numbers for its free names runs like the term in which these are put.
func TestGrownRunsWithNumbers(t *testing.T) {
	g := grower{rand.New(rand.NewSource(7))}
	checked := 0
	for range 10000 {
		text := g.grow(g.one(kinds...), map[string]string{"b": "n", "d": "n", "p": "n"}, 4+g.Intn(4))
		free, ok := impl.FreeOf(text)
		if !ok || free == "" {
			continue
		}
		var values []int
		names, whole := map[string]worth{}, text
		for _, name := range strings.Split(free, "") {
			n := g.Intn(100)
			values = append(values, n)
			names[name] = worth{number: n}
			whole, _ = impl.Put(whole, name, written(n))
		}
		want := runByText(text, names).text()
		checkRunWith(t, text, values, want)
		// What is put may be too long to be a term.
		if impl.IsClosed(whole) {
			checkEnd(t, whole, want)
			checked++
		}
	}
	if checked < 2000 {
		t.Errorf("only %d were checked", checked)
	}
}
