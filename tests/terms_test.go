package tests

import (
	"math/rand"
	"slices"
	"strconv"
	"strings"
	"testing"

	"loop.example/flatfunctions/impl"
)

// A facts value is all that chapter 1 tells of a term.
type facts struct {
	size, depth int
	parts       []string
	free, bound string
	functions   []string
	value       bool
}

func checkFacts(t *testing.T, text string, want facts) {
	t.Helper()
	parts, partsOk := impl.PartsOf(text)
	free, freeOk := impl.FreeOf(text)
	bound, boundOk := impl.BoundOf(text)
	functions, functionsOk := impl.FunctionsIn(text)
	if !impl.TermValid(text) || !partsOk || !freeOk || !boundOk || !functionsOk {
		t.Fatalf("%q is a term, but was read as %v %v %v %v %v", text, impl.TermValid(text), partsOk, freeOk, boundOk, functionsOk)
	}
	if got := impl.SizeOf(text); got != want.size {
		t.Errorf("SizeOf(%q) = %d, want %d", text, got, want.size)
	}
	if got := impl.DepthOf(text); got != want.depth {
		t.Errorf("DepthOf(%q) = %d, want %d", text, got, want.depth)
	}
	if !slices.Equal(parts, want.parts) {
		t.Errorf("PartsOf(%q) = %q, want %q", text, parts, want.parts)
	}
	if free != want.free {
		t.Errorf("FreeOf(%q) = %q, want %q", text, free, want.free)
	}
	if bound != want.bound {
		t.Errorf("BoundOf(%q) = %q, want %q", text, bound, want.bound)
	}
	if !slices.Equal(functions, want.functions) {
		t.Errorf("FunctionsIn(%q) = %q, want %q", text, functions, want.functions)
	}
	if got := impl.IsValue(text); got != want.value {
		t.Errorf("IsValue(%q) = %v", text, got)
	}
	if got := impl.IsClosed(text); got != (want.free == "") {
		t.Errorf("IsClosed(%q) = %v", text, got)
	}
}

// checkNoTerm checks the results that the chapter states for a text that is no term.
func checkNoTerm(t *testing.T, text string) {
	t.Helper()
	parts, partsOk := impl.PartsOf(text)
	free, freeOk := impl.FreeOf(text)
	bound, boundOk := impl.BoundOf(text)
	functions, functionsOk := impl.FunctionsIn(text)
	if impl.TermValid(text) || impl.IsClosed(text) || impl.IsValue(text) {
		t.Errorf("%q is no term, but TermValid, IsClosed, IsValue = %v, %v, %v", text, impl.TermValid(text), impl.IsClosed(text), impl.IsValue(text))
	}
	if impl.SizeOf(text) != -1 || impl.DepthOf(text) != -1 || impl.CountFree(text, "a") != -1 || impl.CountFree(text, "q") != -1 {
		t.Errorf("%q is no term, but SizeOf, DepthOf, CountFree = %d, %d, %d", text, impl.SizeOf(text), impl.DepthOf(text), impl.CountFree(text, "a"))
	}
	if len(parts) != 0 || partsOk || len(functions) != 0 || functionsOk {
		t.Errorf("%q is no term, but PartsOf, FunctionsIn = %q, %q", text, parts, functions)
	}
	if free != "" || freeOk || bound != "" || boundOk {
		t.Errorf("%q is no term, but FreeOf, BoundOf = %q, %q", text, free, bound)
	}
}

func TestFactsOfTerms(t *testing.T) {
	words := strings.Fields
	for text, want := range map[string]facts{
		"7":                {1, 1, words("7"), "", "", nil, true},
		"#42":              {1, 1, words("#42"), "", "", nil, true},
		"p":                {1, 1, words("p"), "p", "", nil, false},
		"(12)":             {3, 2, words("(12) 1 2"), "", "", nil, false},
		"-#101":            {3, 2, words("-#101 #10 1"), "", "", nil, false},
		"*ba":              {3, 2, words("*ba b a"), "ab", "", nil, false},
		"?a1b":             {4, 2, words("?a1b a 1 b"), "ab", "", nil, false},
		`\a1`:              {2, 2, words(`\a1 1`), "", "a", words(`\a1`), true},
		"=b1c":             {3, 2, words("=b1c 1 c"), "c", "b", nil, false},
		`=a2=f\j+ja(f3)`:   {10, 5, words(`=a2=f\j+ja(f3) 2 =f\j+ja(f3) \j+ja +ja j a (f3) f 3`), "", "afj", words(`\j+ja`), false},
		"@fn?n1*n(f-n1)":   {11, 6, words("@fn?n1*n(f-n1) ?n1*n(f-n1) n 1 *n(f-n1) n (f-n1) f -n1 n 1"), "", "fn", words("@fn?n1*n(f-n1)"), true},
		`(\f(f2)\a*aa)`:    {9, 4, words(`(\f(f2)\a*aa) \f(f2) (f2) f 2 \a*aa *aa a a`), "", "af", words(`\f(f2) \a*aa`), false},
		`\a\ba`:            {3, 3, words(`\a\ba \ba a`), "", "ab", words(`\a\ba \ba`), true},
		`@ba@abb`:          {3, 3, words(`@ba@abb @abb b`), "", "ab", words(`@ba@abb @abb`), true},
		`?\aa\bc@de(d\hf)`: {10, 5, words(`?\aa\bc@de(d\hf) \aa a \bc c @de(d\hf) (d\hf) d \hf f`), "cf", "abdeh", words(`\aa \bc @de(d\hf) \hf`), false},
	} {
		checkFacts(t, text, want)
	}
}

// The same name may be bound in one place and stand free in another.
func TestNamesThatAreBoundAndFree(t *testing.T) {
	for _, c := range []struct {
		text, free, bound string
		counts            string // how often a, b and f stand free
	}{
		{`(\aaa)`, "a", "a", "1 0 0"},
		{`(a\aa)`, "a", "a", "1 0 0"},
		{"=aaa", "a", "a", "1 0 0"},
		{"=a1a", "", "a", "0 0 0"},
		{"=a+aa+aa", "a", "a", "2 0 0"},
		{"=aba", "b", "a", "0 1 0"},
		{"=a=ba+ab+ab", "ab", "ab", "2 1 0"},
		{"=a1=aaa", "", "a", "0 0 0"},
		{"=a=aaaa", "a", "a", "1 0 0"},
		{"(@fa(fa)(fa))", "af", "af", "1 0 1"},
		{"@fa(fb)", "b", "af", "0 1 0"},
		{"@ab(ab)", "", "ab", "0 0 0"},
		{"(@ab(ab)+ab)", "ab", "ab", "1 1 0"},
		{`\a(\bba)`, "", "ab", ""},
		{`\a(\bbb)`, "b", "ab", "0 1 0"},
		{`\a+\aaa`, "", "a", "0 0 0"},
		{`+\a+\aaaa`, "a", "a", "1 0 0"},
		{"?\\aa\\ba\\fa", "a", "abf", "2 0 0"},
		{`+a+a+a+a+b+b+f1`, "abf", "", "4 2 1"},
	} {
		free, ok := impl.FreeOf(c.text)
		if free != c.free || !ok {
			t.Errorf("FreeOf(%q) = %q, %v, want %q", c.text, free, ok, c.free)
		}
		if bound, ok := impl.BoundOf(c.text); bound != c.bound || !ok {
			t.Errorf("BoundOf(%q) = %q, %v, want %q", c.text, bound, ok, c.bound)
		}
		if impl.IsClosed(c.text) != (c.free == "") {
			t.Errorf("IsClosed(%q) = %v", c.text, impl.IsClosed(c.text))
		}
		for i, want := range strings.Fields(c.counts) {
			name := "abf"[i : i+1]
			if got := impl.CountFree(c.text, name); strconv.Itoa(got) != want {
				t.Errorf("CountFree(%q, %q) = %d, want %s", c.text, name, got, want)
			}
		}
	}
}

func TestCountFreeOfWhatIsNoName(t *testing.T) {
	for _, name := range []string{"", "q", "z", "A", "`", "1", "#", "aa", "ab", "a ", " a", "\x00", "\xff", "é", "\\"} {
		if got := impl.CountFree("+aa", name); got != -1 {
			t.Errorf("CountFree(+aa, %q) = %d, want -1", name, got)
		}
	}
	for name := byte('a'); name <= 'p'; name++ {
		want := 0
		if name == 'c' {
			want = 2
		}
		if got := impl.CountFree("+cc", string(name)); got != want {
			t.Errorf("CountFree(+cc, %q) = %d, want %d", name, got, want)
		}
	}
}

func TestNumbers(t *testing.T) {
	for n := range 100 {
		digits := strconv.Itoa(n)
		if n < 10 {
			checkFacts(t, digits, facts{1, 1, []string{digits}, "", "", nil, true})
			checkNoTerm(t, "#"+digits)
			checkNoTerm(t, "#0"+digits)
			continue
		}
		checkNoTerm(t, digits)
		checkFacts(t, "#"+digits, facts{1, 1, []string{"#" + digits}, "", "", nil, true})
	}
	for _, text := range []string{"#", "##", "#a1", "#1a", "#100", "#-1", "#+1", "# 1", "#1 ", "#1#", "-1", "+1", "00", "01", "1.", "#/1", "#:1", "#1/", "#1:"} {
		checkNoTerm(t, text)
	}
}

// Names go from a to p; every other byte reads as a digit or as nothing.
func TestNamesAmongAllBytes(t *testing.T) {
	for b := range 256 {
		text := string([]byte{byte(b)})
		isName := 'a' <= b && b <= 'p'
		if impl.TermValid(text) != (isName || '0' <= b && b <= '9') {
			t.Errorf("TermValid(%q) = %v", text, impl.TermValid(text))
		}
		for _, form := range []string{`\X1`, `=X11`, `@oX1`, `@Xo1`, `@Xp1`} {
			whole := strings.Replace(form, "X", text, 1)
			want := isName && whole != "@oo1" && whole != "@pp1"
			if impl.TermValid(whole) != want {
				t.Errorf("TermValid(%q) = %v, want %v", whole, !want, want)
			}
			if bound, ok := impl.BoundOf(whole); ok != want || want && !strings.Contains(bound, text) {
				t.Errorf("BoundOf(%q) = %q, %v", whole, bound, ok)
			}
		}
	}
	all := "+a+b+c+d+e+f+g+h+i+j+k+l+m+n+op"
	if free, ok := impl.FreeOf(all); free != "abcdefghijklmnop" || !ok {
		t.Errorf("FreeOf(%q) = %q, %v", all, free, ok)
	}
	backwards := `\p\o\n\m\l\k\j\i\h\g\f\e\d\c\b\a1`
	if bound, ok := impl.BoundOf(backwards); bound != "abcdefghijklmnop" || !ok {
		t.Errorf("BoundOf(%q) = %q, %v", backwards, bound, ok)
	}
}

func TestSelfCallersHaveTwoNames(t *testing.T) {
	for w := byte('a'); w <= 'p'; w++ {
		for v := byte('a'); v <= 'p'; v++ {
			text := "@" + string(w) + string(v) + "(" + string(w) + string(v) + ")"
			if impl.TermValid(text) != (w != v) {
				t.Errorf("TermValid(%q) = %v", text, impl.TermValid(text))
			}
			if w == v {
				checkNoTerm(t, text)
				checkNoTerm(t, "("+text+"1)")
			} else if !impl.IsClosed(text) || !impl.IsValue(text) {
				t.Errorf("IsClosed(%q), IsValue = %v, %v", text, impl.IsClosed(text), impl.IsValue(text))
			}
		}
	}
}

// sum returns a sum of as many texts as it is told, as flat as can be.
func sum(texts []string) string {
	if len(texts) == 1 {
		return texts[0]
	}
	half := len(texts) / 2
	return "+" + sum(texts[:half]) + sum(texts[half:])
}

func repeat(text string, n int) []string {
	var list []string
	for range n {
		list = append(list, text)
	}
	return list
}

func TestLongTerms(t *testing.T) {
	odd := sum(repeat("#10", 15))
	even := "(" + odd + odd + ")"
	if len(even) != 120 || !impl.TermValid(even) || impl.SizeOf(even) != 59 || !impl.IsClosed(even) {
		t.Errorf("a term of %d bytes has %d parts", len(even), impl.SizeOf(even))
	}
	shorter := sum(repeat("#99", 30))
	if len(shorter) != 119 || impl.SizeOf(shorter) != 59 {
		t.Errorf("a term of %d bytes has %d parts", len(shorter), impl.SizeOf(shorter))
	}
	longer := sum(append(repeat("#10", 30), "1"))
	if len(longer) != 121 {
		t.Fatalf("%d bytes", len(longer))
	}
	checkNoTerm(t, longer)
	checkNoTerm(t, `\a`+shorter)
	checkNoTerm(t, even+" ")
	checkNoTerm(t, sum(repeat("1", 1000)))
	checkNoTerm(t, strings.Repeat(`\a`, 100000)+"a")
	checkNoTerm(t, strings.Repeat("(", 1000000))
}

func TestPartsWithinEachOther(t *testing.T) {
	for _, around := range [][2]string{
		{`\a`, ""}, {"@ab", ""}, {"(", "1)"}, {"(1", ")"}, {"=a", "1"}, {"=a1", ""},
		{"+", "1"}, {"-1", ""}, {"*", "1"}, {"?", "11"}, {"?1", "1"}, {"?11", ""},
	} {
		for _, inner := range []string{"1", "#10", "a"} {
			at := func(n int) string {
				return strings.Repeat(around[0], n-1) + inner + strings.Repeat(around[1], n-1)
			}
			for _, n := range []int{1, 2, 23, 24} {
				if !impl.TermValid(at(n)) || impl.DepthOf(at(n)) != n {
					t.Errorf("DepthOf(%q) = %d, want %d", at(n), impl.DepthOf(at(n)), n)
				}
			}
			checkNoTerm(t, at(25))
			checkNoTerm(t, at(26))
		}
	}
	deep := strings.Repeat(`\a`, 23) + "a"
	for _, text := range []string{"+1" + deep, "+" + deep + "1", "(" + deep + deep + ")"} {
		checkNoTerm(t, text)
	}
	wide := "+" + deep[2:] + deep[2:]
	if impl.DepthOf(wide) != 24 || impl.SizeOf(wide) != 47 {
		t.Errorf("DepthOf(%q) = %d, SizeOf = %d", wide, impl.DepthOf(wide), impl.SizeOf(wide))
	}
}

func TestTextsThatAreNoTerms(t *testing.T) {
	for _, text := range []string{
		"", " ", "q", "z", "A", "L", "é", "%", ".0", "{A}", "$0;", "\n", "\x00", "\xff\xfe",
		"1 ", " 1", "(1 2)", "+ 12", "+1 2", `\ a1`, `\a 1`, "1\n", "1\t", "1\x00",
		"12", "ab", "(12)3", "(12))", `\aab`, "=a123", "+123", "?1234",
		"(", ")", "()", "(1)", "(123)", "(12", "[12]", "(12]", "1)",
		`\`, `\a`, `\1`, `\1a`, `\(ab)`, `\q1`, `\\aa`, "@", "@a", "@ab", "@aa1", "@a1", "@f1", "@1a2",
		"=", "=a", "=a1", "=1aa", "==a11", "+", "-", "*", "+1", "-1", "*1", "/12", "?", "?1", "?12",
		"+1q", "(q1)", "=aq1", "=a1q", "?1q1", "?11q", `\aq`, "+1#1", "+#091",
	} {
		checkNoTerm(t, text)
	}
}

// No text in front of a term's end, and none with something behind it, is a term.
func TestTermsEndWhereTheyEnd(t *testing.T) {
	for _, text := range []string{"1", "a", "#42", "(12)", `\aa`, "@fn?n1(f-n1)", `=a2=f\j+ja(f3)`, "*+12-34", "?a1b"} {
		for cut := range len(text) {
			checkNoTerm(t, text[:cut])
		}
		for b := range 256 {
			checkNoTerm(t, text+string([]byte{byte(b)}))
		}
	}
}

// allTerms returns all terms of a length that have only some letters, by the rules of the grammar read forwards.
func allTerms(length int, known [][]string) []string {
	var list []string
	pairs := func(front, back string) {
		rest := length - len(front) - len(back)
		for n := 1; n < rest; n++ {
			for _, a := range known[n] {
				for _, b := range known[rest-n] {
					list = append(list, front+a+b+back)
				}
			}
		}
	}
	if length == 1 {
		list = append(list, "a", "b", "0", "1")
	}
	if length == 3 {
		list = append(list, "#10", "#11")
	}
	for _, front := range []string{`\a`, `\b`, "@ab", "@ba"} {
		if rest := length - len(front); rest > 0 {
			for _, a := range known[rest] {
				list = append(list, front+a)
			}
		}
	}
	pairs("(", ")")
	pairs("=a", "")
	pairs("=b", "")
	pairs("+", "")
	for n := 1; n < length-1; n++ {
		for _, a := range known[n] {
			for m := 1; m < length-1-n; m++ {
				for _, b := range known[m] {
					for _, c := range known[length-1-n-m] {
						list = append(list, "?"+a+b+c)
					}
				}
			}
		}
	}
	return list
}

// Of all short texts of some letters, the terms are those that the grammar makes.
func TestAllShortTexts(t *testing.T) {
	const letters = `ab01#\@()=+?`
	const longest = 5
	known := make([][]string, longest+1)
	for length := 1; length <= longest; length++ {
		known[length] = allTerms(length, known)
		terms := map[string]bool{}
		for _, text := range known[length] {
			terms[text] = true
		}
		valid := 0
		var try func(text string)
		try = func(text string) {
			if len(text) < length {
				for i := range len(letters) {
					try(text + letters[i:i+1])
				}
				return
			}
			if impl.TermValid(text) != terms[text] {
				t.Fatalf("TermValid(%q) = %v", text, !terms[text])
			}
			if terms[text] {
				valid++
			}
		}
		try("")
		if valid != len(terms) || length > 2 && valid == 0 {
			t.Errorf("%d of %d terms of length %d", valid, len(terms), length)
		}
	}
}

// A grown term is made from its kids upwards, together with what the chapter tells of it.
type grown struct {
	text  string
	depth int
	parts []string
	funs  []string
	free  map[string]int
	bound map[string]bool
}

func grow(r *rand.Rand, nest int) grown {
	name := func() string { return string(rune('a' + r.Intn(4))) }
	pick := r.Intn(9)
	if nest == 1 {
		pick = r.Intn(3)
	}
	switch pick {
	case 0:
		return leaf(strconv.Itoa(r.Intn(10)))
	case 1:
		return leaf("#" + strconv.Itoa(10+r.Intn(90)))
	case 2:
		v := name()
		g := leaf(v)
		g.free[v] = 1
		return g
	case 3:
		v := name()
		return join(`\`+v, "", v, grow(r, nest-1))
	case 4:
		w := name()
		v := string(rune('e' + r.Intn(4)))
		if r.Intn(2) == 0 {
			v, w = w, v
		}
		return join("@"+w+v, "", w+v, grow(r, nest-1))
	case 5:
		return join("(", ")", "", grow(r, nest-1), grow(r, nest-1))
	case 6:
		v := name()
		return join("="+v, "", v, grow(r, nest-1), grow(r, nest-1))
	case 7:
		return join("?", "", "", grow(r, nest-1), grow(r, nest-1), grow(r, nest-1))
	}
	return join([]string{"+", "-", "*"}[r.Intn(3)], "", "", grow(r, nest-1), grow(r, nest-1))
}

func leaf(text string) grown {
	return grown{text, 1, []string{text}, nil, map[string]int{}, map[string]bool{}}
}

func join(front, back, binds string, kids ...grown) grown {
	g := grown{text: front, free: map[string]int{}, bound: map[string]bool{}}
	for i, kid := range kids {
		g.text += kid.text
		g.depth = max(g.depth, kid.depth+1)
		g.parts = append(g.parts, kid.parts...)
		g.funs = append(g.funs, kid.funs...)
		for name, n := range kid.free {
			if i < len(kids)-1 || !strings.Contains(binds, name) {
				g.free[name] += n
			}
		}
		for name := range kid.bound {
			g.bound[name] = true
		}
	}
	g.text += back
	g.parts = append([]string{g.text}, g.parts...)
	if front[0] == '\\' || front[0] == '@' {
		g.funs = append([]string{g.text}, g.funs...)
	}
	for i := range len(binds) {
		g.bound[binds[i:i+1]] = true
	}
	return g
}

func TestGrownTerms(t *testing.T) {
	r := rand.New(rand.NewSource(1))
	checked := 0
	for range 6000 {
		g := grow(r, 1+r.Intn(8))
		if len(g.text) > impl.MaxTerm {
			checkNoTerm(t, g.text)
			continue
		}
		free, bound := "", ""
		for name := byte('a'); name <= 'p'; name++ {
			if got := impl.CountFree(g.text, string(name)); got != g.free[string(name)] {
				t.Errorf("CountFree(%q, %q) = %d, want %d", g.text, name, got, g.free[string(name)])
			}
			if g.free[string(name)] > 0 {
				free += string(name)
			}
			if g.bound[string(name)] {
				bound += string(name)
			}
		}
		value := g.text == g.parts[0] && strings.ContainsAny(g.text[:1], `0123456789#\@`)
		checkFacts(t, g.text, facts{len(g.parts), g.depth, g.parts, free, bound, g.funs, value})
		checked++
	}
	if checked < 3000 {
		t.Errorf("only %d terms were short enough", checked)
	}
}

// Whatever bytes a text has, it is a term by all functions or by none.
func TestArbitraryBytes(t *testing.T) {
	r := rand.New(rand.NewSource(2))
	const likely = `abcp019#\@()=+-*? `
	for range 20000 {
		text := make([]byte, r.Intn(12))
		for i := range text {
			text[i] = likely[r.Intn(len(likely))]
			if r.Intn(10) == 0 {
				text[i] = byte(r.Intn(256))
			}
		}
		if !impl.TermValid(string(text)) {
			checkNoTerm(t, string(text))
		} else if parts, ok := impl.PartsOf(string(text)); !ok || parts[0] != string(text) || impl.SizeOf(string(text)) != len(parts) {
			t.Errorf("PartsOf(%q) = %q, %v", text, parts, ok)
		}
	}
}

// Whoever changes a result changes no other one.
func TestResultsAreNew(t *testing.T) {
	const text = `(\f(f2)\a*aa)`
	parts, _ := impl.PartsOf(text)
	functions, _ := impl.FunctionsIn(text)
	wantParts, wantFunctions := slices.Clone(parts), slices.Clone(functions)
	for i := range parts[:cap(parts)] {
		parts[:cap(parts)][i] = "x"
	}
	for i := range functions[:cap(functions)] {
		functions[:cap(functions)][i] = "x"
	}
	if again, _ := impl.PartsOf(text); !slices.Equal(again, wantParts) {
		t.Errorf("PartsOf(%q) = %q", text, again)
	}
	if again, _ := impl.FunctionsIn(text); !slices.Equal(again, wantFunctions) {
		t.Errorf("FunctionsIn(%q) = %q", text, again)
	}
}

func TestLimitsOfTerms(t *testing.T) {
	if impl.MaxTerm != 120 || impl.MaxNest != 24 {
		t.Errorf("MaxTerm = %d, MaxNest = %d", impl.MaxTerm, impl.MaxNest)
	}
}
