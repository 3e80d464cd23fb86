package tests

import (
	"math/rand"
	"slices"
	"strconv"
	"strings"
	"testing"

	"loop.example/flatfunctions/impl"
)

const allNames = "abcdefghijklmnop"

// noNames are texts that are told as names and are none.
var noNames = []string{"", "q", "z", "A", "`", "1", "#", "aa", "ab", "a ", " a", "\x00", "\xff", "é", "\\", "$"}

// noTerms are texts that are no terms.
var noTerms = []string{"", " ", "q", "(", "(1", "#09", "@aa1", "=a1", "+1", "?11", "12", `\`, "1 ", "$0;", strings.Repeat(`\a`, 24) + "1", sum(repeat("1", 61))}

// A piece is the outermost part of a text that is a term: what is in front of its kids and behind them, the names that it binds, and its kids.
type piece struct {
	front, binds string
	kids         []string
	back         string
}

func pieceOf(text string) piece {
	kids := func(p piece) piece {
		rest := strings.TrimSuffix(text[len(p.front)+len(p.binds):], p.back)
		for rest != "" {
			n := firstLength(rest)
			p.kids = append(p.kids, rest[:n])
			rest = rest[n:]
		}
		return p
	}
	switch text[0] {
	case '\\', '=':
		return kids(piece{front: text[:1], binds: text[1:2]})
	case '@':
		return kids(piece{front: text[:1], binds: text[1:3]})
	case '(':
		return kids(piece{front: text[:1], back: ")"})
	case '+', '-', '*', '?':
		return kids(piece{front: text[:1]})
	}
	return piece{front: text}
}

// firstLength returns how many bytes the term at the front of a text has, which may be one with records.
func firstLength(text string) int {
	kids := func(at, n int) int {
		for range n {
			at += firstLength(text[at:])
		}
		return at
	}
	switch text[0] {
	case '#':
		return 3
	case '.':
		return 2
	case '{':
		return strings.Index(text, "}") + 1
	case '\\':
		return kids(2, 1)
	case '@':
		return kids(3, 1)
	case '=':
		return kids(2, 2)
	case '(':
		return kids(1, 2) + 1
	case '+', '-', '*':
		return kids(1, 2)
	case '?':
		return kids(1, 3)
	}
	return 1
}

func (p piece) text() string { return p.front + p.binds + strings.Join(p.kids, "") + p.back }

// nameOrNone drops what is no name.
func nameOrNone(r rune) rune {
	if strings.ContainsRune(allNames, r) {
		return r
	}
	return -1
}

// freeOf returns the names that stand free in a text that would be a term if terms could be as long as they like.
func freeOf(text string) string {
	p := pieceOf(text)
	free := ""
	if p.kids == nil && 'a' <= text[0] && text[0] <= 'p' {
		return text
	}
	if text[0] == '{' {
		return uniq(strings.Map(nameOrNone, text))
	}
	for i, kid := range p.kids {
		for _, name := range freeOf(kid) {
			if !strings.ContainsRune(free, name) && (i < len(p.kids)-1 || !strings.ContainsRune(p.binds, name)) {
				free += string(name)
			}
		}
	}
	return free
}

func firstNotIn(names string) (string, bool) {
	for _, name := range allNames {
		if !strings.ContainsRune(names, name) {
			return string(name), true
		}
	}
	return "", false
}

// putByText is Put without the limits of terms, in the words of the chapter.
func putByText(text, name, u string) (string, bool) {
	p := pieceOf(text)
	if p.kids == nil {
		if text == name {
			return u, true
		}
		return text, true
	}
	last := len(p.kids) - 1
	if p.binds != "" && !strings.Contains(p.binds, name) && strings.Contains(freeOf(p.kids[last]), name) {
		for i := range len(p.binds) {
			old := p.binds[i : i+1]
			if !strings.Contains(freeOf(u), old) {
				continue
			}
			other, ok := firstNotIn(freeOf(u) + freeOf(p.kids[last]) + p.binds + name)
			if !ok {
				return "", false
			}
			p.binds = p.binds[:i] + other + p.binds[i+1:]
			if p.kids[last], ok = putByText(p.kids[last], old, other); !ok {
				return "", false
			}
		}
	}
	for i, kid := range p.kids {
		if i == last && strings.Contains(p.binds, name) {
			continue
		}
		made, ok := putByText(kid, name, u)
		if !ok {
			return "", false
		}
		p.kids[i] = made
	}
	return p.text(), true
}

// namelessByText returns Nameless of a text within binders of the names of around, the innermost one last.
func namelessByText(text, around string) string {
	p := pieceOf(text)
	if p.kids == nil {
		if at := strings.LastIndex(around, text); at >= 0 {
			return "$" + strconv.Itoa(len(around)-1-at) + ";"
		}
		return text
	}
	out := p.front
	for i, kid := range p.kids {
		if i == len(p.kids)-1 {
			out += namelessByText(kid, around+p.binds)
		} else {
			out += namelessByText(kid, around)
		}
	}
	return out + p.back
}

func checkPut(t *testing.T, text, name, u, want string) {
	t.Helper()
	got, ok := impl.Put(text, name, u)
	if got != want || ok != (want != "") {
		t.Errorf("Put(%q, %q, %q) = %q, %v, want %q", text, name, u, got, ok, want)
	}
}

func checkRename(t *testing.T, text, name, other, want string) {
	t.Helper()
	got, ok := impl.Rename(text, name, other)
	if got != want || ok != (want != "") {
		t.Errorf("Rename(%q, %q, %q) = %q, %v, want %q", text, name, other, got, ok, want)
	}
}

func checkUnique(t *testing.T, text, want string) {
	t.Helper()
	got, ok := impl.Unique(text)
	if got != want || ok != (want != "") {
		t.Errorf("Unique(%q) = %q, %v, want %q", text, got, ok, want)
	}
}

func TestPut(t *testing.T) {
	for _, c := range [][4]string{
		{"a", "a", "7", "7"},
		{"a", "b", "7", "a"},
		{"a", "a", "a", "a"},
		{"#42", "a", "7", "#42"},
		{"(aa)", "a", "(bc)", "((bc)(bc))"},
		{"?a+ab*a-aa", "a", "#10", "?#10+#10b*#10-#10#10"},
		{"+ab", "b", `\cc`, `+a\cc`},
		{`\aa`, "a", "1", `\aa`},
		{`\b(ab)`, "a", "1", `\b(1b)`},
		{`\b(ab)`, "a", "b", `\c(bc)`},
		{`\b(ab)`, "a", "a", `\b(ab)`},
		{`\b(ab)`, "a", `\bb`, `\b(\bbb)`},
		{`\b(ab)`, "a", `\b(bc)`, `\b(\b(bc)b)`},
		{`\c(ab)`, "a", "b", `\c(bb)`},
		{`\b1`, "a", "b", `\b1`},
		{`\b(bc)`, "a", "b", `\b(bc)`},
		{`\b\aa`, "a", "b", `\b\aa`},
		{`(\b(ab)\aa)`, "a", "b", `(\c(bc)\aa)`},
		{`(\b(ab)\b(cb))`, "a", "b", `(\c(bc)\b(cb))`},
		{"@ba1", "a", "b", "@ba1"},
		{"@ab(ab)", "a", "b", "@ab(ab)"},
		{"@ba(ab)", "a", "b", "@ba(ab)"},
	} {
		checkPut(t, c[0], c[1], c[2], c[3])
	}
}

// A function that binds two names binds other ones where they would bind what is put.
func TestPutInFunctionsOfTwoNames(t *testing.T) {
	for _, c := range [][4]string{
		{"@ab(ca)", "c", "a", "@db(ad)"},
		{"@ab(cb)", "c", "b", "@ad(bd)"},
		{"@ab(c(ab))", "c", "(ab)", "@de((ab)(de))"},
		{"@ab(c(ab))", "c", "(ba)", "@de((ba)(de))"},
		{"@ba(c(ab))", "c", "(ab)", "@de((ab)(ed))"},
		{"@ab(cb)", "c", "(ab)", "@de((ab)e)"},
		{"@abc", "c", "(ab)", "@de(ab)"},
		{"@ab(bc)", "c", "a", "@db(ba)"},
		{"@cb(ab)", "a", "b", "@cd(bd)"},
		{"@ab1", "c", "(ab)", "@ab1"},
		{`@ab\d(c(ab))`, "c", "(ab)", `@de\f((ab)(de))`},
		{`@ab\d(cb)`, "c", "(ab)", `@de\d((ab)e)`},
		{"@ab(de)", "d", "(ac)", "@fb((ac)e)"},
	} {
		checkPut(t, c[0], c[1], c[2], c[3])
	}
}

// What a let binds is bound in its body, but not in its value.
func TestPutInLets(t *testing.T) {
	for _, c := range [][4]string{
		{"=aaa", "a", "7", "=a7a"},
		{"=ab+ab", "b", "7", "=a7+a7"},
		{"=b+ab(ba)", "a", "b", "=c+bb(cb)"},
		{"=bab", "a", "b", "=bbb"},
		{"=ba1", "a", "b", "=bb1"},
		{"=b1a", "a", "b", "=c1b"},
		{"=b+ab+ab", "a", "b", "=c+bb+bc"},
		{"=a+aba", "a", "b", "=a+bba"},
		{`=b\b(ab)b`, "a", "b", `=b\c(bc)b`},
		{"=b=ba(ab)1", "a", "b", "=b=cb(bc)1"},
		{"=b=ba1a", "a", "b", "=c=bb1b"},
	} {
		checkPut(t, c[0], c[1], c[2], c[3])
	}
}

// A new name may be bound further inwards, where that binds another one in turn.
func TestPutWhereNewNamesAreBound(t *testing.T) {
	for _, c := range [][4]string{
		{`\b\c(ab)`, "a", "b", `\c\d(bc)`},
		{`\b\c(a(bc))`, "a", "b", `\c\d(b(cd))`},
		{`\b\c(ac)`, "a", "b", `\c\c(bc)`},
		{`\b\c(a(bc))`, "a", "(bc)", `\d\e((bc)(de))`},
		{`\b\c\d(a(b(cd)))`, "a", "b", `\c\d\e(b(c(de)))`},
		{`\b(a\cb)`, "a", "b", `\c(b\ac)`},
		{`\b@cd(ab)`, "a", "b", `\c@ed(bc)`},
		{`\b@dc(ab)`, "a", "b", `\c@de(bc)`},
		{`\b@cd(a(b(cd)))`, "a", "b", `\c@ed(b(c(ed)))`},
		{`\b=c+bc(ab)`, "a", "b", `\d=c+dc(bd)`},
		{`\b=cb(ab)`, "a", "b", `\c=dc(bc)`},
		{`\b=cb(ac)`, "a", "b", `\c=cc(bc)`},
		{`@bc\d\e(a(b(c(de))))`, "a", "(bc)", `@de\f\g((bc)(d(e(fg))))`},
		{`\b(\cb\c(ab))`, "a", "b", `\c(\ac\d(bc))`},
	} {
		checkPut(t, c[0], c[1], c[2], c[3])
	}
}

// namesFrom returns a sum of names.
func namesFrom(names string) string { return sum(strings.Split(names, "")) }

func TestPutWhereNamesAreNotEnough(t *testing.T) {
	but := func(names string) string {
		return strings.Map(func(r rune) rune {
			if strings.ContainsRune(names, r) {
				return -1
			}
			return r
		}, allNames)
	}
	checkPut(t, `\b(ab)`, "a", namesFrom(allNames), "")
	checkPut(t, `\b(ab)`, "a", namesFrom(but("p")), `\p(`+namesFrom(but("p"))+"p)")
	checkPut(t, `\b(ab)`, "a", namesFrom(but("ap")), `\p(`+namesFrom(but("ap"))+"p)")
	checkPut(t, `\b(ab)`, "a", namesFrom(but("a")), "")
	checkPut(t, `\b(a(bp))`, "a", namesFrom(but("p")), "")
	checkPut(t, `@bp(ab)`, "a", namesFrom(but("p")), "")
	checkPut(t, `@pb(ab)`, "a", namesFrom(but("p")), "")
	checkPut(t, `@bc(a(bc))`, "a", namesFrom(but("p")), "")
	checkPut(t, `@bc(a(bc))`, "a", namesFrom(but("op")), `@op(`+namesFrom(but("op"))+`(op))`)
	checkPut(t, `(1=b1(ab))`, "a", namesFrom(allNames), "")
	checkPut(t, `=b(ab)1`, "a", namesFrom(allNames), "=b("+namesFrom(allNames)+"b)1")
	checkPut(t, "(ab)", "a", namesFrom(allNames), "("+namesFrom(allNames)+"b)")
	checkPut(t, `\b1`, "a", namesFrom(allNames), `\b1`)
	checkPut(t, `\a(ab)`, "a", namesFrom(allNames), `\a(ab)`)
	// The name for b is there, but then none is for the c further inwards.
	checkPut(t, `\b\c`+namesFrom(but("c")), "a", "b", "")
	checkPut(t, `\b\c`+namesFrom(but("cp")), "a", "b", `\c\p`+strings.NewReplacer("a", "b", "b", "c").Replace(namesFrom(but("cp"))))
}

func TestPutOfLongTerms(t *testing.T) {
	for k := 1; k <= 40; k++ {
		for around := range 20 {
			text := sum(repeat("a", k))
			u := strings.Repeat(`\b`, around) + "#10"
			want := strings.ReplaceAll(text, "a", u)
			if len(want) > 120 {
				want = ""
			}
			checkPut(t, text, "a", u, want)
		}
	}
	// Exactly 120 bytes, and one more.
	eleven := sum(repeat("a", 11))
	checkPut(t, eleven, "a", `(#10\b\b1)`, strings.ReplaceAll(eleven, "a", `(#10\b\b1)`))
	half := sum(repeat("1", 15))
	checkPut(t, "+aa", "a", "("+half+half+")", "")
	checkPut(t, "+aa", "a", "+"+half+half, "++"+half+half+"+"+half+half)
}

func TestPutOfDeepTerms(t *testing.T) {
	for d := range 24 {
		for e := range 24 {
			text := strings.Repeat(`\b`, d) + "a"
			u := strings.Repeat(`\c`, e) + "1"
			want := ""
			if d+e+1 <= 24 {
				want = strings.Repeat(`\b`, d) + u
			}
			checkPut(t, text, "a", u, want)
		}
	}
}

func TestRename(t *testing.T) {
	for _, c := range [][4]string{
		{`\a(ab)`, "a", "c", `\c(cb)`},
		{`\a(ab)`, "a", "b", ""},
		{`\a(ab)`, "a", "a", `\a(ab)`},
		{`\a(ab)`, "b", "b", ""},
		{`\a(ab)`, "b", "c", ""},
		{`\a1`, "a", "p", `\p1`},
		{`\a1`, "b", "c", ""},
		{`\a1`, "b", "a", ""},
		{`\a\aa`, "a", "b", `\b\aa`},
		{`\a\ba`, "a", "b", `\b\cb`},
		{`\a\ba`, "b", "c", ""},
		{`\a\bb`, "a", "b", `\b\bb`},
		{`\a\b(ab)`, "a", "b", `\b\c(bc)`},
		{`\a\b\c(a(bc))`, "a", "b", `\b\c\d(b(cd))`},
		{`\a\b\c(ab)`, "a", "b", `\b\c\d(bc)`},
		{`\a(a\bb)`, "a", "b", `\b(b\bb)`},
		{`\a(\bba)`, "a", "b", `\b(\bbb)`},
		{`\a(\bab)`, "a", "b", ""},
		{"=aaa", "a", "d", "=dad"},
		{"=aba", "a", "b", "=bbb"},
		{"=aa1", "a", "b", "=ba1"},
		{"=abb", "a", "b", ""},
		{"=a1=ba(ab)", "a", "b", "=b1=cb(bc)"},
		{"=a1=bab", "a", "b", "=b1=bbb"},
		{"@ab(ab)", "b", "c", "@ac(ac)"},
		{"@ab(ab)", "a", "c", "@cb(cb)"},
		{"@ab(ab)", "b", "a", ""},
		{"@ab(ab)", "a", "b", ""},
		{"@ab1", "a", "b", ""},
		{"@ab1", "b", "a", ""},
		{"@ab(ab)", "a", "a", "@ab(ab)"},
		{"@ab(ab)", "b", "b", "@ab(ab)"},
		{"@ab(ab)", "c", "c", ""},
		{"@ab(cb)", "a", "c", ""},
		{"@ab@ca(ab)", "a", "d", "@db@ca(ab)"},
		{"@ab@ca(ab)", "b", "a", ""},
		{"@ab@cd(ab)", "b", "c", "@ac@ed(ac)"},
		{"@ab@cd(ab)", "b", "d", "@ad@ce(ad)"},
		{"(aa)", "a", "b", ""},
		{"(aa)", "a", "a", ""},
		{"a", "a", "b", ""},
		{"a", "a", "a", ""},
		{"7", "a", "b", ""},
		{`+\aa\aa`, "a", "b", ""},
		{`?\aa\aa\aa`, "a", "b", ""},
		{`(\aa1)`, "a", "a", ""},
	} {
		checkRename(t, c[0], c[1], c[2], c[3])
	}
	// The name b is bound further inwards, where none is left for it.
	checkRename(t, `\a\b+b`+namesFrom("acdefghijklmnop"), "a", "b", "")
	checkRename(t, `\a\b+b`+namesFrom("acdefghijklmno"), "a", "b", `\b\p+p`+namesFrom("bcdefghijklmno"))
	checkRename(t, `\a\b+b`+namesFrom("acdefghijklmnop"), "a", "a", `\a\b+b`+namesFrom("acdefghijklmnop"))
}

func TestNameless(t *testing.T) {
	for text, want := range map[string]string{
		"a":                                   "a",
		"7":                                   "7",
		"#42":                                 "#42",
		`\aa`:                                 `\$0;`,
		`\ab`:                                 `\b`,
		`\a\b(ab)`:                            `\\($1;$0;)`,
		`\a\aa`:                               `\\$0;`,
		`\a\b\c(a(bc))`:                       `\\\($2;($1;$0;))`,
		`\a(a\b(a\ca))`:                       `\($0;\($1;\$2;))`,
		"@fn(fn)":                             "@($1;$0;)",
		"@nf(fn)":                             "@($0;$1;)",
		"@fn@gm(f(n(gm)))":                    "@@($3;($2;($1;$0;)))",
		`@fn\n(fn)`:                           `@\($2;$0;)`,
		`@fn\f(fn)`:                           `@\($0;$1;)`,
		`\a@fn(a(fn))`:                        `\@($2;($1;$0;))`,
		"=aaa":                                "=a$0;",
		"=a1a":                                "=1$0;",
		"=c1=d+cc(dc)":                        "=1=+$0;$0;($0;$1;)",
		`\a=aaa`:                              `\=$0;$0;`,
		`\a=bab`:                              `\=$0;$0;`,
		`\a=ba(ab)`:                           `\=$0;($1;$0;)`,
		"=a=bcb=cab":                          "==c$0;=$0;b",
		"=a1(=baba)":                          "=1(=$0;$0;$0;)",
		"(\\aaa)":                             `(\$0;a)`,
		"?a\\aa#10":                           `?a\$0;#10`,
		"*-+abcd":                             "*-+abcd",
		`@ab?b1*b(a-b1)`:                      "@?$0;1*$0;($1;-$0;1)",
		strings.Repeat(`\a`, 22) + "@bca":     strings.Repeat(`\`, 22) + "@$2;",
		`\b` + strings.Repeat(`\a`, 22) + "b": strings.Repeat(`\`, 23) + "$22;",
		strings.Repeat("@ab", 11) + "@cd@ab@ab(c(ab))": strings.Repeat("@", 14) + "($5;($1;$0;))",
	} {
		got, ok := impl.Nameless(text)
		if got != want || ok != (want != "") {
			t.Errorf("Nameless(%q) = %q, %v, want %q", text, got, ok, want)
		}
	}
	// What is longest has a name that is bound 22 times two names further outwards.
	long := "@pa" + strings.Repeat("@bc", 21) + "p"
	if got, ok := impl.Nameless(long); got != strings.Repeat("@", 22)+"$43;" || !ok {
		t.Errorf("Nameless(%q) = %q, %v", long, got, ok)
	}
	wide := `\a` + sum(repeat("a", 59))
	if got, ok := impl.Nameless(wide); got != `\`+strings.ReplaceAll(wide[2:], "a", "$0;") || !ok {
		t.Errorf("Nameless(%q) = %q, %v", wide, got, ok)
	}
}

func TestSameTerm(t *testing.T) {
	for _, same := range [][]string{
		{"a"},
		{"b"},
		{"1"},
		{"#10"},
		{`\aa`, `\bb`, `\pp`},
		{`\ab`, `\cb`},
		{`\ac`, `\bc`},
		{`\a\ba`, `\b\ab`, `\c\dc`},
		{`\a\bb`, `\a\aa`, `\b\bb`},
		{"@abb", "@baa"},
		{"@aba", "@bab"},
		{"@ab(ab)", "@ba(ba)"},
		{"=aaa", "=bab"},
		{"=abb", "=cbb"},
		{"=aab", "=cab"},
		{`(\aaa)`, `(\bba)`},
		{`(\aab)`, `(\ccb)`},
		{"(ab)"},
		{"+ab"},
		{"-ab"},
		{"*ab"},
		{"?abc"},
		{`\a?a1a`, `\b?b1b`},
		{`\a?a2a`},
	} {
		for _, one := range same {
			for _, two := range same {
				if !impl.SameTerm(one, two) {
					t.Errorf("SameTerm(%q, %q) = false", one, two)
				}
			}
		}
	}
	different := []string{
		"a", "b", "0", "1", "#10", `\aa`, `\ab`, `\ac`, `\a1`, `\a\ba`, `\a\bb`, "@abb", "@aba", "@abc",
		"=aaa", "=abb", "=aab", "=aba", "=a1a", "(ab)", "(ba)", "+ab", "-ab", "*ab", "?aab", "?aba", "?baa", "(a(ab))", "((aa)b)",
	}
	for i, one := range different {
		for j, two := range different {
			if impl.SameTerm(one, two) != (i == j) {
				t.Errorf("SameTerm(%q, %q) = %v", one, two, i != j)
			}
		}
	}
}

func TestUnique(t *testing.T) {
	for _, c := range [][2]string{
		{"a", "a"},
		{"#42", "#42"},
		{`\pp`, `\aa`},
		{`\a\aa`, `\a\bb`},
		{`\b(ab)`, `\b(ab)`},
		{`\c(ac)`, `\b(ab)`},
		{`\c(bc)`, `\a(ba)`},
		{`(\aaa)`, `(\bba)`},
		{`(\aa\aa)`, `(\aa\bb)`},
		{`(\ab\ba)`, `(\cb\da)`},
		{"@ab(ab)", "@ab(ab)"},
		{"@ba(ab)", "@ab(ba)"},
		{"(@ab(ab)@ba(ab))", "(@ab(ab)@cd(dc))"},
		{"@fn?n1*n(f-n1)", "@ab?b1*b(a-b1)"},
		{"=aaa", "=bab"},
		{"=c1=d+cc(dc)", "=a1=b+aa(ba)"},
		{`=a\aaa`, `=a\bba`},
		{`=a=a1aa`, `=a=b1ba`},
		{`=a1=a+aaa`, `=a1=b+aab`},
		{`=a2=f\j+ja(f3)`, `=a2=b\c+ca(b3)`},
		{`(\b\aa@ab=a(ab)(ab))`, `(\a\bb@cd=e(cd)(ed))`},
		{`?\aa\a(ac)\ac`, `?\aa\b(bc)\dc`},
	} {
		checkUnique(t, c[0], c[1])
	}
}

func TestUniqueWhereNamesAreNotEnough(t *testing.T) {
	functions := func(n int) string { return strings.Repeat(`\a`, n) }
	named := func(names string) string {
		return `\` + strings.Join(strings.Split(names, ""), `\`)
	}
	checkUnique(t, functions(16)+"a", named(allNames)+"p")
	checkUnique(t, functions(17)+"a", "")
	checkUnique(t, functions(15)+"p", named(allNames[:15])+"p")
	checkUnique(t, functions(15)+"b", named("acdefghijklmnop")+"b")
	checkUnique(t, functions(16)+"p", "")
	checkUnique(t, functions(16)+"b", "")
	checkUnique(t, strings.Repeat("@ab", 8)+"(ab)", "@ab@cd@ef@gh@ij@kl@mn@op(op)")
	checkUnique(t, strings.Repeat("@ab", 8)+"c", "")
	checkUnique(t, strings.Repeat("@ab", 8)+`\c1`, "")
	checkUnique(t, strings.Repeat("=a1", 16)+"a", "=a1=b1=c1=d1=e1=f1=g1=h1=i1=j1=k1=l1=m1=n1=o1=p1p")
	checkUnique(t, strings.Repeat("=a1", 17)+"a", "")
	checkUnique(t, namesFrom(allNames), namesFrom(allNames))
	checkUnique(t, "+"+namesFrom(allNames)+`\a1`, "")
}

func TestIsUnique(t *testing.T) {
	for text, want := range map[string]bool{
		"7": true, "a": true, "(aa)": true, `\aa`: true, `\a\bb`: true, `\a\aa`: false, `\a\ab`: false,
		`(a\aa)`: false, `(\aaa)`: false, `(a\bb)`: true, `(\aa\aa)`: false, `(\aa\bb)`: true, `(\a1a)`: false,
		"@ab1": true, "@ab(ab)": true, "@ab@cb1": false, "@ab@ca1": false, "@ab@ac1": false, "@ab@bc1": false, "@ab@cd1": true, "(@ab1a)": false, "(@ab1b)": false,
		"=aaa": false, "=aba": true, "=aab": false, "=abb": true, "=a1=a1a": false, "=a1=b1a": true, `=a\aaa`: false, `=a\bba`: true,
		`\p(p\ab)`: true, `(\aa(\bb\aa))`: false, `?\aa\bbc`: true, `?\aa\bba`: false,
	} {
		if impl.IsUnique(text) != want {
			t.Errorf("IsUnique(%q) = %v", text, !want)
		}
	}
}

func TestCapturedBy(t *testing.T) {
	for text, want := range map[string][]string{
		"7":                        nil,
		"(ab)":                     nil,
		"=abb":                     nil,
		`\aa`:                      {""},
		`\ab`:                      {"b"},
		`\a(\b(ab)\c(dc))`:         {"d", "a", "d"},
		`\d(p(c(bd)))`:             {"bcp"},
		`\a\ba`:                    {"", "a"},
		`\a\b\c(a(bc))`:            {"", "a", "ab"},
		"@fn(fn)":                  {""},
		"@fn(f(nm))":               {"m"},
		`@fn\m(f(nm))`:             {"", "fn"},
		`=a2=f\j+ja(f3)`:           {"a"},
		`=a\aba`:                   {"b"},
		`=a\ba=ba\ca`:              {"a", "a"},
		`?\aa\bc@de(d\hf)`:         {"", "c", "f", "f"},
		`(\aa\aa)`:                 {"", ""},
		`\a` + namesFrom(allNames): {"bcdefghijklmnop"},
	} {
		got, ok := impl.CapturedBy(text)
		if !slices.Equal(got, want) || !ok {
			t.Errorf("CapturedBy(%q) = %q, %v, want %q", text, got, ok, want)
		}
	}
}

func TestNewName(t *testing.T) {
	for names, want := range map[string]string{
		"": "a", "a": "b", "aa": "b", "b": "a", "ba": "c", "abd": "c", "pa": "b", "dcba": "e",
		"qrstuvwxyz": "a", "ABC `#1": "a", "\x00\xff\x60\x71": "a", "éa": "b", `\a\b(ab)`: "c", "a b\nc": "d",
		allNames[:15]: "p", allNames[1:]: "a", "acdefghijklmnop": "b", strings.Repeat("ab", 100000): "c",
		allNames: "", "ponmlkjihgfedcba": "", allNames + allNames: "", "x" + allNames + "y": "",
	} {
		got, ok := impl.NewName(names)
		if got != want || ok != (want != "") {
			t.Errorf("NewName(%.40q) = %q, %v, want %q", names, got, ok, want)
		}
	}
}

func TestNamesOfWhatIsNoTerm(t *testing.T) {
	for _, text := range noTerms {
		for _, other := range append([]string{"a", `\aa`}, noTerms...) {
			checkPut(t, text, "a", other, "")
			checkPut(t, other, "a", text, "")
			checkPut(t, `\b1`, "a", text, "")
			if impl.SameTerm(text, other) || impl.SameTerm(other, text) {
				t.Errorf("SameTerm(%q, %q) = true", text, other)
			}
		}
		checkRename(t, text, "a", "b", "")
		checkRename(t, text, "a", "a", "")
		checkUnique(t, text, "")
		nameless, namelessOk := impl.Nameless(text)
		captured, capturedOk := impl.CapturedBy(text)
		if nameless != "" || namelessOk || len(captured) != 0 || capturedOk || impl.IsUnique(text) {
			t.Errorf("%q is no term, but Nameless, CapturedBy, IsUnique = %q, %q, %v", text, nameless, captured, impl.IsUnique(text))
		}
	}
}

func TestWhatIsToldAsANameAndIsNone(t *testing.T) {
	for _, name := range noNames {
		checkPut(t, "a", name, "1", "")
		checkPut(t, "1", name, "1", "")
		checkRename(t, `\aa`, name, "b", "")
		checkRename(t, `\aa`, "a", name, "")
		checkRename(t, `\aa`, name, name, "")
	}
	for _, name := range strings.Split(allNames, "") {
		checkPut(t, name, name, "1", "1")
		checkRename(t, `\`+name+name, name, "p", `\pp`)
		checkRename(t, `\aa`, "a", name, `\`+name+name)
	}
}

// growWith grows a term like grow, but of some names only, so that many of them are bound again.
func growWith(r *rand.Rand, names string, nest int) string {
	name := func() string { at := r.Intn(len(names)); return names[at : at+1] }
	kid := func() string { return growWith(r, names, nest-1) }
	pick := r.Intn(12)
	if nest == 1 {
		pick = r.Intn(4)
	}
	switch pick {
	case 0:
		return strconv.Itoa(r.Intn(10))
	case 1, 2, 3:
		return name()
	case 4, 5:
		return `\` + name() + kid()
	case 6, 7:
		at, by := r.Intn(len(names)), 1+r.Intn(len(names)-1)
		return "@" + names[at:at+1] + names[(at+by)%len(names):][:1] + kid()
	case 8:
		return "(" + kid() + kid() + ")"
	case 9:
		return "=" + name() + kid() + kid()
	case 10:
		return "?" + kid() + kid() + kid()
	}
	return "+" + kid() + kid()
}

// What is put and renamed is as the chapter says it, and no name that stands free gets bound.
func TestPutInGrownTerms(t *testing.T) {
	r := rand.New(rand.NewSource(3))
	put, scarce := 0, 0
	for i := range 60000 {
		names := []string{"abc", "abcdef", allNames, "klmnop"}[i%4]
		text, name := growWith(r, names, 2+r.Intn(7)), names[:1]
		u := growWith(r, names, 1+r.Intn(4))
		if i%10 == 9 {
			u = namesFrom(allNames[i/10%3:])
		}
		if !impl.TermValid(text) || !impl.TermValid(u) {
			continue
		}
		want, ok := putByText(text, name, u)
		if !ok {
			scarce++
		}
		if len(want) > 120 || ok && impl.DepthOf(want) > 24 {
			want = ""
		}
		checkPut(t, text, name, u, want)
		if want == "" {
			continue
		}
		one, _ := impl.Nameless(text)
		two, _ := impl.Nameless(u)
		if got, _ := impl.Nameless(want); got != strings.ReplaceAll(one, name, two) {
			t.Errorf("Put(%q, %q, %q) = %q, which binds a free name", text, name, u, want)
		}
		put++
	}
	if put < 20000 || scarce < 100 {
		t.Errorf("%d were put, %d had not enough names", put, scarce)
	}
}

func TestGrownTermsWithOtherNames(t *testing.T) {
	r := rand.New(rand.NewSource(4))
	made, scarce := 0, 0
	for i := range 20000 {
		names := []string{"abc", "abcdef", allNames}[i%3]
		text := growWith(r, names, 2+r.Intn(7))
		if !impl.TermValid(text) {
			continue
		}
		want := namelessByText(text, "")
		if got, ok := impl.Nameless(text); got != want || !ok {
			t.Errorf("Nameless(%q) = %q, %v, want %q", text, got, ok, want)
		}
		if checkUniqueOfGrown(t, text) {
			made++
		} else {
			scarce++
		}
		for _, name := range "abcd" {
			checkRenameOfGrown(t, text, string(name), names[r.Intn(len(names)):][:1])
		}
	}
	if made < 5000 || scarce < 100 {
		t.Errorf("%d were made unique, %d were not", made, scarce)
	}
}

// bindersOf returns the names that the parts of a text bind, in the order of the parts.
func bindersOf(text string) string {
	p := pieceOf(text)
	binds := p.binds
	for _, kid := range p.kids {
		binds += bindersOf(kid)
	}
	return binds
}

func checkUniqueOfGrown(t *testing.T, text string) bool {
	t.Helper()
	left, free := allNames, freeOf(text)
	for _, name := range free {
		left = strings.ReplaceAll(left, string(name), "")
	}
	wanted := len(bindersOf(text))
	if wanted > len(left) {
		checkUnique(t, text, "")
		return false
	}
	got, ok := impl.Unique(text)
	if !ok || bindersOf(got) != left[:wanted] || !impl.IsUnique(got) || !impl.SameTerm(got, text) || len(got) != len(text) {
		t.Errorf("Unique(%q) = %q, %v", text, got, ok)
	}
	if impl.IsUnique(text) != (len(freeOf(text))+wanted == len(uniq(freeOf(text)+bindersOf(text)))) {
		t.Errorf("IsUnique(%q) = %v", text, impl.IsUnique(text))
	}
	return true
}

// uniq returns the names of a text, each once.
func uniq(names string) string {
	once := ""
	for _, name := range names {
		if !strings.ContainsRune(once, name) {
			once += string(name)
		}
	}
	return once
}

func checkRenameOfGrown(t *testing.T, text, name, other string) {
	t.Helper()
	p := pieceOf(text)
	want := ""
	if name == other && strings.Contains(p.binds, name) {
		want = text
	} else if strings.Contains(p.binds, name) && !strings.Contains(p.binds+freeOf(p.kids[len(p.kids)-1]), other) {
		if body, ok := putByText(p.kids[len(p.kids)-1], name, other); ok {
			p.kids[len(p.kids)-1] = body
			p.binds = strings.Replace(p.binds, name, other, 1)
			want = p.text()
		}
	}
	checkRename(t, text, name, other, want)
	if want != "" && !impl.SameTerm(text, want) {
		t.Errorf("SameTerm(%q, %q) = false", text, want)
	}
}

// Bound names do not matter: with all bound names renamed, a term is the same, and with all free ones, it is not.
func TestBoundNamesDoNotMatter(t *testing.T) {
	r := rand.New(rand.NewSource(5))
	for range 5000 {
		one := growWith(r, "abc", 2+r.Intn(4))
		two := growWith(r, "abc", 2+r.Intn(4))
		if !impl.TermValid(one) || !impl.TermValid(two) {
			continue
		}
		if impl.SameTerm(one, two) != (namelessByText(one, "") == namelessByText(two, "")) {
			t.Errorf("SameTerm(%q, %q) = %v", one, two, impl.SameTerm(one, two))
		}
		other := strings.Map(func(r rune) rune {
			if 'a' <= r && r <= 'c' {
				return r + 5
			}
			return r
		}, one)
		if impl.SameTerm(one, other) != impl.IsClosed(one) {
			t.Errorf("SameTerm(%q, %q) = %v", one, other, impl.SameTerm(one, other))
		}
	}
}

func TestCapturedNamesAreNew(t *testing.T) {
	const text = `\a(\b(ab)\c(dc))`
	captured, _ := impl.CapturedBy(text)
	want := slices.Clone(captured)
	for i := range captured[:cap(captured)] {
		captured[:cap(captured)][i] = "x"
	}
	if again, _ := impl.CapturedBy(text); !slices.Equal(again, want) {
		t.Errorf("CapturedBy(%q) = %q", text, again)
	}
}
