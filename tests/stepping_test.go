package tests

import (
	"math"
	"math/rand"
	"slices"
	"strconv"
	"strings"
	"testing"

	"loop.example/flatfunctions/impl"
)

// noStates are texts that are no states, however long terms may be.
var noStates = append([]string{
	"", " ", "q", "(", "(1", "(12", "()", "#09", "#0", "#1", "@aa1", "=a1", "+1", "?11", "12", `\`, `\a`, "1 ", " 1", "$0;", "(12))", "1\x00", "A", "{A}",
	strings.Repeat("+1", 749), strings.Repeat("+1", 749) + "11", strings.Repeat("+1", 749) + "a", strings.Repeat(`\a`, 700) + "b", strings.Repeat(`\a`, 749) + "#10",
	strings.Repeat("+1", 750) + "1", strings.Repeat("(1", 375) + "1" + strings.Repeat(")", 376), strings.Repeat("(", 100000), strings.Repeat(`\a`, 100000) + "a",
}, noClosedTerms...)

// A move is what chapter 4 tells of a state: its next part, if there is one, and what a step makes of it.
// If there is no step, next and rule are empty.
type move struct {
	redex, next, rule string
	stuck             bool
}

func isValueText(text string) bool { return strings.Contains(`\@#0123456789`, text[:1]) }

func isNumberText(text string) bool { return strings.Contains("#0123456789", text[:1]) }

// spotOf returns where the next part of a state begins and ends.
func spotOf(text string) (from, to int) {
	p := pieceOf(text)
	kids := p.kids
	if p.front == "=" || p.front == "?" {
		kids = kids[:1]
	}
	at := len(p.front) + len(p.binds)
	for _, kid := range kids {
		if !isValueText(kid) {
			from, to := spotOf(kid)
			return at + from, at + to
		}
		at += len(kid)
	}
	return 0, len(text)
}

// mustPutByText puts what is closed, for which there are always enough names.
func mustPutByText(text, name, u string) string {
	made, ok := putByText(text, name, u)
	if !ok {
		panic("not enough names")
	}
	return made
}

// ruleByText returns what the next part becomes and the name of the rule, both empty if no rule fits.
func ruleByText(redex string) (made, rule string) {
	p := pieceOf(redex)
	switch p.front {
	case "=":
		return mustPutByText(p.kids[1], p.binds, p.kids[0]), "let"
	case "(":
		fun := pieceOf(p.kids[0])
		switch fun.front {
		case `\`:
			return mustPutByText(fun.kids[0], fun.binds, p.kids[1]), "call"
		case "@":
			made := mustPutByText(fun.kids[0], fun.binds[:1], p.kids[0])
			return mustPutByText(made, fun.binds[1:], p.kids[1]), "self"
		}
	case "?":
		if p.kids[0] == "0" {
			return p.kids[1], "zero"
		}
		if isNumberText(p.kids[0]) {
			return p.kids[2], "other"
		}
	case "+", "-", "*":
		if isNumberText(p.kids[0]) && isNumberText(p.kids[1]) {
			return written(runByText(redex, nil).value), "number"
		}
	}
	return "", ""
}

func moveByText(text string) move {
	if isValueText(text) {
		return move{}
	}
	from, to := spotOf(text)
	made, rule := ruleByText(text[from:to])
	if rule == "" {
		return move{redex: text[from:to], stuck: true}
	}
	next := text[:from] + made + text[to:]
	if len(next) > 1500 {
		return move{redex: text[from:to]}
	}
	return move{redex: text[from:to], next: next, rule: rule}
}

func checkMove(t *testing.T, text string, want move) {
	t.Helper()
	if !impl.StateValid(text) {
		t.Errorf("StateValid(%q) = false", text)
	}
	if redex, ok := impl.RedexOf(text); redex != want.redex || ok != (want.redex != "") {
		t.Errorf("RedexOf(%q) = %q, %v, want %q", text, redex, ok, want.redex)
	}
	if next, rule, ok := impl.StepOf(text); next != want.next || rule != want.rule || ok != (want.rule != "") {
		t.Errorf("StepOf(%q) = %q, %q, %v, want %q, %q", text, next, rule, ok, want.next, want.rule)
	}
	if impl.IsStuck(text) != want.stuck {
		t.Errorf("IsStuck(%q) = %v", text, !want.stuck)
	}
}

// checkTold checks a move that is told by hand, and the oracle with it.
func checkTold(t *testing.T, text string, want move) {
	t.Helper()
	if got := moveByText(text); got != want {
		t.Errorf("the oracle says %v of %q, want %v", got, text, want)
	}
	checkMove(t, text, want)
}

func TestStepsByEachRule(t *testing.T) {
	for _, c := range [][3]string{
		{"let", "=a1a", "1"},
		{"let", "=a#42+aa", "+#42#42"},
		{"let", "=a12", "2"},
		{"let", `=a\bba`, `\bb`},
		{"let", `=a@bc(bc)(a1)`, "(@bc(bc)1)"},
		{"let", "=a2=b3+ab", "=b3+2b"},
		{"let", "=a1=aaa", "=a1a"},
		{"let", "=a1=a2a", "=a2a"},
		{"let", `=a1\aa`, `\aa`},
		{"let", `=a1\b+ab`, `\b+1b`},
		{"let", "=a1@abb", "@abb"},
		{"let", "=a1@ba+ab", "@ba+ab"},
		{"let", "=a1@bc+ac", "@bc+1c"},
		{"let", "=a1?aaa", "?111"},
		{"call", `(\aa5)`, "5"},
		{"call", `(\a15)`, "1"},
		{"call", `(\a(aa)\a(aa))`, `(\a(aa)\a(aa))`},
		{"call", `(\a\b+ab3)`, `\b+3b`},
		{"call", `(\a\aa3)`, `\aa`},
		{"call", `(\a=aaa3)`, "=a3a"},
		{"call", `(\a*aa@bcc)`, "*@bcc@bcc"},
		{"self", "(@fn12)", "1"},
		{"self", "(@fnn2)", "2"},
		{"self", "(@fnf2)", "@fnf"},
		{"self", "(@fn(fn)2)", "(@fn(fn)2)"},
		{"self", "(@nf(fn)2)", "(2@nf(fn))"},
		{"self", "(@fn?n0(f-n1)2)", "?20(@fn?n0(f-n1)-21)"},
		{"self", `(@fn\n(fn)2)`, `\n(@fn\n(fn)n)`},
		{"self", `(@fn\f(fn)2)`, `\f(f2)`},
		{"self", `(@fn\m(fn)\aa)`, `\m(@fn\m(fn)\aa)`},
		{"self", `(@fn@nf(fn)2)`, "@nf(fn)"},
		{"self", "(@fn=nn(fn)2)", "=n2(@fn=nn(fn)n)"},
		{"self", "(@fn(nn)@fn(ff))", "(@fn(ff)@fn(ff))"},
		{"zero", "?012", "1"},
		{"zero", `?0\a(aa)(12)`, `\a(aa)`},
		{"zero", "?0(12)3", "(12)"},
		{"other", "?112", "2"},
		{"other", "?912", "2"},
		{"other", "?#9912", "2"},
		{"other", "?#1012", "2"},
		{"other", `?1(12)@aba`, "@aba"},
		{"other", "?51(12)", "(12)"},
		{"number", "+12", "3"},
		{"number", "-12", "#99"},
		{"number", "*34", "#12"},
		{"number", "+#991", "0"},
		{"number", "+#99#99", "#98"},
		{"number", "*#99#99", "1"},
		{"number", "-#10#10", "0"},
		{"number", "-#101", "9"},
		{"number", "+19", "#10"},
	} {
		checkTold(t, c[1], move{redex: c[1], next: c[2], rule: c[0]})
	}
}

// What is put has no free names, so that no part needs other names for it.
func TestWhatIsPutIsClosed(t *testing.T) {
	for _, c := range [][3]string{
		{"let", `=a\bb\b(ab)`, `\b(\bbb)`},
		{"let", `=a\b\c(bc)\b\c(a(bc))`, `\b\c(\b\c(bc)(bc))`},
		{"let", `=a\bb=ba(ab)`, `=b\bb(\bbb)`},
		{"let", `=a@bc(bc)@cb(a(bc))`, `@cb(@bc(bc)(bc))`},
		{"call", `(\a\b\c(a(bc))\b\cb)`, `\b\c(\b\cb(bc))`},
		{"self", `(@fn\m\n(f(mn))\m\n(mn))`, `\m\n(@fn\m\n(f(mn))(mn))`},
		{"self", `(@fn\a(n(fa))@nf(fn))`, `\a(@nf(fn)(@fn\a(n(fa))a))`},
		{"let", `=p\a\b\c\d\e\f\g\h\i\j\k\l\m\n\oa\a\b\c\d\e\f\g\h\i\j\k\l\m\n\op`, `\a\b\c\d\e\f\g\h\i\j\k\l\m\n\o\a\b\c\d\e\f\g\h\i\j\k\l\m\n\oa`},
	} {
		checkTold(t, c[1], move{redex: c[1], next: c[2], rule: c[0]})
	}
}

// The kids that are evaluated are both of calls, sums, differences and products, in order, and the first one of lets and choices.
func TestNextParts(t *testing.T) {
	for _, c := range []struct{ text, redex, next, rule string }{
		{"(+12+34)", "+12", "(3+34)", "number"},
		{"(1+34)", "+34", "(17)", "number"},
		{`(\aa+34)`, "+34", `(\aa7)`, "number"},
		{`(+\aa1+34)`, `+\aa1`, "", ""},
		{`((\aa\bb)+12)`, `(\aa\bb)`, `(\bb+12)`, "call"},
		{`(=a1\ba2)`, `=a1\ba`, `(\b12)`, "let"},
		{`(?0\aa\b12)`, `?0\aa\b1`, `(\aa2)`, "zero"},
		{`(\a(12)(\bb3))`, `(\bb3)`, `(\a(12)3)`, "call"},
		{"++12+34", "+12", "+3+34", "number"},
		{"-5*34", "*34", "-5#12", "number"},
		{"*(\\aa1)?012", `(\aa1)`, "*1?012", "call"},
		{"*#42?012", "?012", "*#421", "zero"},
		{`-\aa(\aa1)`, `(\aa1)`, `-\aa1`, "call"},
		{`+\aa(12)`, "(12)", "", ""},
		{"=a+12+aa", "+12", "=a3+aa", "number"},
		{"=a=b1b+12", "=b1b", "=a1+12", "let"},
		{"=a1+23", "=a1+23", "+23", "let"},
		{`=a\b+12(12)`, `=a\b+12(12)`, "(12)", "let"},
		{"?+12+34+56", "+12", "?3+34+56", "number"},
		{"?0+34+56", "?0+34+56", "+34", "zero"},
		{"?7+34+56", "?7+34+56", "+56", "other"},
		{"??012+34+56", "?012", "?1+34+56", "zero"},
		{"?(12)+34+56", "(12)", "", ""},
		{`(\a+121)`, `(\a+121)`, "+12", "call"},
		{"(@ab+121)", "(@ab+121)", "+12", "self"},
		{"+1+1+1+11", "+11", "+1+1+12", "number"},
		{"++++11111", "+11", "+++2111", "number"},
		{"-(1=a?+0123*45)6", "+01", "-(1=a?123*45)6", "number"},
		{`((\a\b\c1(\dd2))+12)`, `(\dd2)`, `((\a\b\c12)+12)`, "call"},
		{`(((\a\b\c17)8)9)`, `(\a\b\c17)`, `((\b\c18)9)`, "call"},
	} {
		checkTold(t, c.text, move{redex: c.redex, next: c.next, rule: c.rule, stuck: c.rule == ""})
	}
}

func TestStuckStates(t *testing.T) {
	values := []string{"0", "1", "#42", `\aa`, "@fn(fn)"}
	for _, one := range values {
		for _, two := range values {
			numbers := isNumberText(one) && isNumberText(two)
			for text, stuck := range map[string]bool{
				"(" + one + two + ")": isNumberText(one),
				"+" + one + two:       !numbers,
				"-" + one + two:       !numbers,
				"*" + one + two:       !numbers,
				"?" + one + two + "3": !isNumberText(one),
				"?" + one + "3" + two: !isNumberText(one),
				"=a" + one + two:      false,
				`\a(1` + two + ")":    false,
			} {
				for _, around := range []string{"X", "(X1)", "(1X)", `(\bbX)`, "+X1", `-\bbX`, "=bX(12)", "?X(12)(12)", "*(\\bb(X5))6"} {
					whole := strings.Replace(around, "X", text, 1)
					m := moveByText(whole)
					if m.stuck != stuck && (around == "X" || !isValueText(text)) {
						t.Errorf("the oracle says %v of %q", m, whole)
					}
					checkMove(t, whole, m)
				}
			}
		}
	}
	for _, text := range []string{"(12)", `+1\aa`, `+\aa1`, `?\aa12`, "?@abb(12)(12)", "*(12)3", `+\aa\bb`, `-@abb1`, "=a(12)1", `(\aa(12))`, "((12)1)"} {
		m := moveByText(text)
		if !m.stuck || m.redex == "" || m.next != "" {
			t.Errorf("the oracle says %v of %q", m, text)
		}
		checkMove(t, text, m)
	}
}

func TestValuesHaveNoNextPart(t *testing.T) {
	for _, text := range []string{"0", "9", "#10", "#99", `\aa`, `\a(12)`, `\a+12`, "@fn(fn)", "@fn=a12", `\a` + endless, `\a?\bb12`, strings.Repeat(`\a`, 700) + "+11"} {
		checkTold(t, text, move{})
	}
}

// longState returns a state of so many bytes, which are 1, 3 or more.
func longState(bytes int) string {
	if bytes%2 == 1 {
		return strings.Repeat("+1", (bytes-1)/2) + "1"
	}
	return strings.Repeat("+1", (bytes-4)/2) + "=a11"
}

func checkNoState(t *testing.T, text string) {
	t.Helper()
	redex, redexOk := impl.RedexOf(text)
	next, rule, nextOk := impl.StepOf(text)
	if impl.StateValid(text) || redex != "" || redexOk || next != "" || rule != "" || nextOk || impl.IsStuck(text) {
		t.Errorf("%q is no state, but StateValid, RedexOf, StepOf, IsStuck = %v, %q, %q, %q, %v", text, impl.StateValid(text), redex, next, rule, impl.IsStuck(text))
	}
}

// A state may be longer than a term, up to 1500 bytes.
func TestLengthsOfStates(t *testing.T) {
	for _, bytes := range []int{1, 3, 4, 119, 120, 121, 122, 500, 1498, 1499, 1500, 1501, 1502, 1503, 1504, 3000, 100001} {
		text := longState(bytes)
		if len(text) != bytes {
			t.Fatalf("%d bytes instead of %d", len(text), bytes)
		}
		if bytes <= 1500 {
			checkMove(t, text, moveByText(text))
		} else {
			checkNoState(t, text)
		}
		checkState(t, strings.Repeat("+", bytes/2)+strings.Repeat("1", bytes/2+1), bytes/2*2+1 <= 1500)
		checkState(t, strings.Repeat(`\a`, bytes/2)+"1", bytes/2*2+1 <= 1500)
		checkState(t, strings.Repeat(`\a`, bytes/2)+"b", false)
		checkState(t, `\b`+strings.Repeat(`\a`, bytes/2)+"b", bytes/2*2+3 <= 1500)
	}
}

func checkState(t *testing.T, text string, want bool) {
	t.Helper()
	if !want {
		checkNoState(t, text)
	} else if !impl.StateValid(text) {
		t.Errorf("StateValid(%q) = false", text)
	}
}

// As many parts of a state may lie within each other as they like.
func TestDeepStates(t *testing.T) {
	for _, around := range [][2]string{
		{`\a`, ""}, {"@ab", ""}, {"(", "1)"}, {`(\bb`, ")"}, {"=a", "1"}, {"=a1", ""},
		{"+", "1"}, {"-1", ""}, {"*", "1"}, {"?", "11"}, {"?1", "1"}, {"?11", ""},
	} {
		for _, n := range []int{1, 23, 24, 25, 60, 200, 300} {
			text := strings.Repeat(around[0], n) + "+11" + strings.Repeat(around[1], n)
			if len(text) > 1500 {
				continue
			}
			if impl.TermValid(text) != (n+2 <= 24 && len(text) <= 120) {
				t.Errorf("TermValid(%q) = %v", text, impl.TermValid(text))
			}
			checkMove(t, text, moveByText(text))
		}
	}
}

// A step after which a state would be longer than 1500 bytes is none, but the state is not stuck.
func TestStepsThatGrowTooLong(t *testing.T) {
	for _, c := range []struct {
		around string
		shell  int // how many bytes stay around what is put into
	}{
		{"=a#42X", 0}, {`(\aX#42)`, 0}, {"(@baX#42)", 0}, {"+1=a#42X", 2}, {`(\bb(\aX#42))`, 5}, {"(=a#42X1)", 3}, {"?=a#42X11", 3}, {"=b=a#42X1", 3},
	} {
		for _, k := range []int{10, 100, 300} {
			for bytes := 1495; bytes <= 1505; bytes++ {
				body := strings.Repeat("+a", k) + longState(bytes-c.shell-4*k)
				text := strings.Replace(c.around, "X", body, 1)
				m := moveByText(text)
				if len(text) > 1500 || m.redex == "" || m.stuck || bytes <= 1500 && len(m.next) != bytes || bytes > 1500 && m.next != "" {
					t.Fatalf("the oracle says %v of %q, which should become %d bytes long", m, text, bytes)
				}
				checkMove(t, text, m)
			}
		}
	}
}

func TestFunctionsThatPutThemselves(t *testing.T) {
	lengths := map[int]bool{}
	for _, k := range []int{1, 2, 3} {
		for _, u := range []string{"1", "#10", `\aa`, `\a+1a`, `\a+11`} {
			for pad := 300; pad < 750; pad++ {
				fun := "@on" + strings.Repeat("+o", k) + "+n" + longState(pad)
				bytes := k*len("+"+fun) + len("+"+u) + pad
				if bytes < 1495 || bytes > 1505 {
					continue
				}
				lengths[bytes] = true
				text := "(" + fun + u + ")"
				m := moveByText(text)
				if m.redex != text || bytes <= 1500 && len(m.next) != bytes || bytes > 1500 && m.next != "" {
					t.Fatalf("the oracle says %v of %q, which should become %d bytes long", m, text, bytes)
				}
				checkMove(t, text, m)
			}
		}
	}
	if !lengths[1499] || !lengths[1500] || !lengths[1501] {
		t.Errorf("lengths are %v", lengths)
	}
	// In one step it would be more than a million bytes long.
	long := "(@on" + strings.Repeat("+o", 745) + "11)"
	checkMove(t, long, move{redex: long})
}

// statesByText returns the states of a run, the closed term first.
func statesByText(text string) []string {
	states := []string{text}
	for len(states) <= 300 {
		m := moveByText(text)
		if m.next == "" {
			break
		}
		text = m.next
		states = append(states, text)
	}
	return states
}

// endByText returns how a run ends whose last state is a text.
func endByText(text string) impl.Result {
	switch {
	case isNumberText(text):
		n, _ := strconv.Atoi(strings.TrimPrefix(text, "#"))
		return impl.Result{Value: n}
	case isValueText(text):
		return impl.Result{IsFun: true}
	case moveByText(text).stuck:
		return impl.Result{End: impl.EndFault}
	}
	return impl.Result{End: impl.EndLong}
}

// checkPutting checks all that the chapter tells of the run of a closed term, and returns its states.
func checkPutting(t *testing.T, text string) []string {
	t.Helper()
	states := statesByText(text)
	checkLastState(t, text, states)
	checkStatesAfter(t, text, states, 0, 1, 2, len(states)/2, len(states)-1, len(states), 299, 300, 301, 302, -1, -300, math.MaxInt, math.MinInt)
	return states
}

// checkLastState checks how a run ends that goes through states.
func checkLastState(t *testing.T, text string, states []string) {
	t.Helper()
	last := states[len(states)-1]
	end := endByText(last)
	puts := len(states) - 1
	if end.End != impl.EndDone {
		puts = -1
	}
	x, ok := impl.RunByPutting(text)
	if x != end || !ok {
		t.Errorf("RunByPutting(%q) = %v, %v, want %v", text, x, ok, end)
	}
	if n := impl.CountPuts(text); n != puts {
		t.Errorf("CountPuts(%q) = %d, want %d", text, n, puts)
	}
	if s, ok := impl.LastState(text); s != last || !ok {
		t.Errorf("LastState(%q) = %q, %v, want %q", text, s, ok, last)
	}
	y, ok := impl.RunTerm(text)
	if !ok || y != x && x.End != impl.EndLong && y.End != impl.EndLong {
		t.Errorf("RunByPutting(%q) = %v, but RunTerm = %v, %v", text, x, y, ok)
	}
}

func checkStatesAfter(t *testing.T, text string, states []string, steps ...int) {
	t.Helper()
	for _, k := range steps {
		want := ""
		if 0 <= k && k < len(states) {
			want = states[k]
		}
		if s, ok := impl.StateAfter(text, k); s != want || ok != (want != "") {
			t.Errorf("StateAfter(%q, %d) = %q, %v, want %q", text, k, s, ok, want)
		}
	}
}

func TestRunsByPutting(t *testing.T) {
	for _, c := range []struct {
		text, want, last string
		puts             int
	}{
		{"7", "7", "7", 0},
		{"#42", "42", "#42", 0},
		{`\aa`, "function", `\aa`, 0},
		{"@fn(12)", "function", "@fn(12)", 0},
		{"=a2+a(\\b*ba3)", "8", "8", 4},
		{`=a2=f\j+ja(f3)`, "5", "5", 4},
		{`(\a\b(ab)1)`, "function", `\b(1b)`, 1},
		{`(\f(f2)\a*aa)`, "4", "4", 3},
		{"(@fn?n1*n(f-n1)3)", "6", "6", 14},
		{"(@fn?n0(f-n1)#99)", "0", "0", 299},
		{`=a\aa=b\b(ab)(b3)`, "3", "3", 4},
		{"=a1=b2=c3-c*ab", "1", "1", 5},
		{"(12)", "fault", "(12)", -1},
		{`+1\aa`, "fault", `+1\aa`, -1},
		{`?(\a@fna1)23`, "fault", "?@fn123", -1},
		{"=a1(a2)", "fault", "(12)", -1},
		{"+(12)" + endless, "fault", "+(12)" + endless, -1},
		{"+" + endless + "(12)", "long", "+" + endless + "(12)", -1},
		{endless, "long", endless, -1},
		{"(@fn(fn)1)", "long", "(@fn(fn)1)", -1},
		{"(@fn+1(fn)1)", "long", strings.Repeat("+1", 300) + "(@fn+1(fn)1)", -1},
	} {
		x, ok := impl.RunByPutting(c.text)
		if impl.FormatResult(x) != c.want || !ok {
			t.Errorf("RunByPutting(%q) = %v, %v, want %s", c.text, x, ok, c.want)
		}
		if n := impl.CountPuts(c.text); n != c.puts {
			t.Errorf("CountPuts(%q) = %d, want %d", c.text, n, c.puts)
		}
		if s, ok := impl.LastState(c.text); s != c.last || !ok {
			t.Errorf("LastState(%q) = %q, %v, want %q", c.text, s, ok, c.last)
		}
		checkPutting(t, c.text)
	}
}

func TestAllStatesOfARun(t *testing.T) {
	const text = "=b7=f@fn?nb+1(f-n1)(f1)"
	states := strings.Fields(`=b7=f@fn?nb+1(f-n1)(f1) =f@fn?n7+1(f-n1)(f1) (@fn?n7+1(f-n1)1) ?17+1(@fn?n7+1(f-n1)-11) +1(@fn?n7+1(f-n1)-11)
		+1(@fn?n7+1(f-n1)0) +1?07+1(@fn?n7+1(f-n1)-01) +17 8`)
	for k := -2; k < 310; k++ {
		checkStatesAfter(t, text, states, k)
	}
	rules := strings.Fields("let let self other number self zero number")
	for i, rule := range rules {
		if next, got, ok := impl.StepOf(states[i]); next != states[i+1] || got != rule || !ok {
			t.Errorf("StepOf(%q) = %q, %q, %v, want %q, %q", states[i], next, got, ok, states[i+1], rule)
		}
	}
}

// counted returns a term whose run makes so many steps, which are at least 299, and comes to how many more than 299 they are.
func counted(steps int) string {
	return strings.Repeat("+1", steps-299) + "(@fn?n0(f-n1)#99)"
}

func TestRunsOfThreeHundredSteps(t *testing.T) {
	for _, c := range []struct{ text, want, last string }{
		{counted(299), "0", "0"},
		{counted(300), "1", "1"},
		{counted(301), "long", "+11"},
		{counted(302), "long", "+1+11"},
		{counted(303), "long", "+1+1+11"},
		{`=a\aa` + counted(299), "0", "0"},
		{`=a\aa` + counted(300), "long", "+10"},
		{"?" + counted(299) + `\aa1`, "function", `\aa`},
		{"?" + counted(300) + `0\aa`, "long", `?10\aa`},
		{"=a" + counted(299) + `\aa`, "function", `\aa`},
		{"=a" + counted(299) + `(12)`, "fault", "(12)"},
		{"=a" + counted(300) + `(12)`, "long", "=a1(12)"},
		{"(" + counted(299) + "2)", "fault", "(02)"},
		{"(" + counted(300) + "2)", "fault", "(12)"},
		{"(" + counted(301) + "2)", "long", "(+112)"},
		{`*\aa` + counted(300), "fault", `*\aa1`},
		{`*\aa` + counted(301), "long", `*\aa+11`},
		{`?(\a\aa` + counted(299) + ")12", "fault", `?\aa12`},
		{`?(\a\aa` + counted(300) + ")12", "long", `?(\a\aa1)12`},
	} {
		x, ok := impl.RunByPutting(c.text)
		if s, _ := impl.LastState(c.text); impl.FormatResult(x) != c.want || !ok || s != c.last {
			t.Errorf("RunByPutting(%q) = %v, %v and LastState %q, want %s, %q", c.text, x, ok, s, c.want, c.last)
		}
		checkPutting(t, c.text)
	}
	for steps, want := range map[int]int{299: 299, 300: 300, 301: -1, 302: -1} {
		if n := impl.CountPuts(counted(steps)); n != want {
			t.Errorf("CountPuts(%q) = %d, want %d", counted(steps), n, want)
		}
	}
}

// Where one of both runs is too long, they may end differently.
func TestRunsThatAreTooLongInOneWay(t *testing.T) {
	doubling := `=a\pp`
	for _, names := range []string{"ab", "bc", "cd", "de", "ef", "fg", "gh", "hi"} {
		doubling += "=" + names[1:] + `\p(` + names[:1] + "(" + names[:1] + "p))"
	}
	for text, want := range map[string][2]string{
		"(@fn?n0(f-n1)#49)":                  {"0", "0"},
		"(@fn?n0(f-n1)#50)":                  {"0", "long"},
		"(@fn?n0(f-n1)#99)":                  {"0", "long"},
		"(@fn?n(12)(f-n1)#60)":               {"fault", "long"},
		`(@fn?n\aa(f-n1)#60)`:                {"function", "long"},
		"=f@fn?n0(f-n1)+(f#49)(f#49)":        {"0", "0"},
		"=f@fn?n0(f-n1)+(f#49)+(f#49)0":      {"long", "0"},
		"=f@fn?n0(f-n1)?(f#49)?(f#49)(01)11": {"long", "fault"},
		"=f@fn?n0(f-n1)?(f#49)=g(f#49)f1":    {"long", "function"},
		doubling + "1":                       {"long", "1"},
		doubling + "(12)":                    {"long", "fault"},
		doubling + "i":                       {"long", "function"},
	} {
		if !impl.IsClosed(text) {
			t.Fatalf("%q is no closed term", text)
		}
		x, _ := impl.RunByPutting(text)
		y, _ := impl.RunTerm(text)
		if impl.FormatResult(x) != want[0] || impl.FormatResult(y) != want[1] {
			t.Errorf("RunByPutting and RunTerm of %q = %v, %v, want %v", text, x, y, want)
		}
		checkPutting(t, text)
	}
	// The run stops where it would grow too long, long before 300 steps.
	states := checkPutting(t, doubling+"1")
	if last := states[len(states)-1]; len(states) > 20 || len(last) < 120 || impl.IsStuck(last) {
		t.Errorf("%d states, the last one %q", len(states), last)
	}
}

func checkNoRun(t *testing.T, text string) {
	t.Helper()
	x, xOk := impl.RunByPutting(text)
	last, lastOk := impl.LastState(text)
	if x != (impl.Result{}) || xOk || last != "" || lastOk || impl.CountPuts(text) != -1 {
		t.Errorf("%q is no closed term, but RunByPutting, LastState, CountPuts = %v, %q, %d", text, x, last, impl.CountPuts(text))
	}
	for _, k := range []int{-1, 0, 1, 300, 301} {
		if s, ok := impl.StateAfter(text, k); s != "" || ok {
			t.Errorf("StateAfter(%q, %d) = %q, %v", text, k, s, ok)
		}
	}
}

func TestRunsByPuttingOfWhatIsNoClosedTerm(t *testing.T) {
	for _, text := range slices.Concat(noTerms, noClosedTerms, noStates) {
		checkNoRun(t, text)
	}
	// States that are too long or too deep for terms have steps, but no runs.
	for _, text := range []string{longState(121), longState(122), longState(1500), strings.Repeat("+1", 24) + "1", strings.Repeat(`\a`, 24) + "1"} {
		checkNoRun(t, text)
		checkMove(t, text, moveByText(text))
	}
}

func TestTextsThatAreNoStates(t *testing.T) {
	for _, text := range noStates {
		checkNoState(t, text)
	}
	for _, text := range []string{"?0a1", "?01a", "=a1b", "=aa1", `(\ab1)`, `(\aa\ab)`, "@ab(ac)", "+1(2p)", longState(1499)[:1498] + "a"} {
		checkNoState(t, text)
	}
	for b := range 256 {
		text := string([]byte{byte(b)})
		checkState(t, text, '0' <= b && b <= '9')
		checkNoState(t, "(12)"+text)
	}
}

func TestLimitsOfSteps(t *testing.T) {
	if impl.MaxGrown != 1500 || impl.MaxPuts != 300 {
		t.Errorf("MaxGrown, MaxPuts = %d, %d", impl.MaxGrown, impl.MaxPuts)
	}
}

// Grown terms come to the same by putting as with closures, by steps that the oracle makes too.
func TestGrownRunsByPutting(t *testing.T) {
	g := grower{rand.New(rand.NewSource(8))}
	ends, rules := map[string]int{}, map[string]int{}
	for range 1600 {
		text := g.grow(g.one(kinds...), nil, 4+g.Intn(5))
		if !impl.IsClosed(text) {
			continue
		}
		states := statesByText(text)
		checkLastState(t, text, states)
		checkStatesAfter(t, text, states, g.Intn(len(states)), len(states)-1, len(states))
		ends[strings.TrimLeft(impl.FormatResult(endByText(states[len(states)-1])), "0123456789")]++
		for i := 0; i < len(states); i += 1 + i/20 {
			m := moveByText(states[i])
			checkMove(t, states[i], m)
			rules[m.rule]++
		}
	}
	if ends[""] < 300 || ends["function"] < 300 || ends["fault"] < 30 || ends["long"] < 50 {
		t.Errorf("ends = %v", ends)
	}
	for _, rule := range []string{"let", "call", "self", "zero", "other", "number"} {
		if rules[rule] < 200 {
			t.Errorf("rules = %v", rules)
		}
	}
}
