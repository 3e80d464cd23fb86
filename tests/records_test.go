package tests

import (
	"math/rand"
	"slices"
	"strconv"
	"strings"
	"testing"

	"loop.example/flatfunctions/impl"
)

// A madeWorth is a number, or a record with the name of its code, its index and its fields.
type madeWorth struct {
	number int
	code   string
	index  int
	fields []madeWorth
}

// A madeOracle runs a program with records on its texts, in the words of chapter 6.
// Tags are the names of the codes of the records that are called, in order.
type madeOracle struct {
	program impl.Made
	count   impl.Count
	heap    []madeWorth
	tags    []string
}

// A madeTold value is what the chapter tells of a run, with the tags of the records that are called.
type madeTold struct {
	told
	heap string
	tags []string
}

func runMadeByText(p impl.Made) madeTold {
	o := &madeOracle{program: p}
	w, err := o.evaluate(p.Main, 0, nil)
	switch err {
	case errFault:
		return madeTold{told: told{end: impl.EndFault}}
	case errLong:
		return madeTold{told: told{end: impl.EndLong}}
	}
	return madeTold{told: told{isFun: w.code != "", value: w.number, count: o.count}, heap: o.heapText(), tags: o.tags}
}

func (o *madeOracle) heapText() string {
	var records []string
	for _, w := range o.heap {
		text := w.code
		for _, field := range w.fields {
			if field.code == "" {
				text += "," + strconv.Itoa(field.number)
			} else {
				text += ",@" + strconv.Itoa(field.index)
			}
		}
		records = append(records, text)
	}
	return strings.Join(records, " ")
}

// evaluate is told how many calls a part lies within, and what is read by a name, by `.i` and by `%`.
func (o *madeOracle) evaluate(text string, depth int, reads map[string]madeWorth) (madeWorth, error) {
	if o.count.Steps++; o.count.Steps > 1500 {
		return madeWorth{}, errLong
	}
	if w, ok := reads[text]; ok {
		return w, nil
	}
	p := pieceOf(text)
	switch {
	case text[0] == '{':
		return o.makeRecord(text, reads), nil
	case p.kids == nil:
		n, err := strconv.Atoi(strings.TrimPrefix(text, "#"))
		return madeWorth{number: n}, err
	}
	one, err := o.evaluate(p.kids[0], depth, reads)
	if err != nil {
		return madeWorth{}, err
	}
	switch {
	case p.front == "=":
		return o.evaluate(p.kids[1], depth, boundTo(reads, p.binds, one))
	case p.front == "?" && one.code != "":
		return madeWorth{}, errFault
	case p.front == "?":
		return o.evaluate(p.kids[1+min(one.number, 1)], depth, reads)
	}
	two, err := o.evaluate(p.kids[1], depth, reads)
	switch {
	case err != nil:
		return madeWorth{}, err
	case p.front == "(":
		return o.call(one, two, depth)
	case one.code != "" || two.code != "":
		return madeWorth{}, errFault
	}
	return madeWorth{number: runByText(p.front+written(one.number)+written(two.number), nil).value}, nil
}

func (o *madeOracle) makeRecord(text string, reads map[string]madeWorth) madeWorth {
	w := madeWorth{code: text[1:2], index: len(o.heap)}
	for _, field := range fieldsByText(text) {
		w.fields = append(w.fields, reads[field])
	}
	o.heap = append(o.heap, w)
	o.count.Closures++
	o.count.Captured += len(w.fields)
	return w
}

func (o *madeOracle) call(fun, arg madeWorth, depth int) (madeWorth, error) {
	if fun.code == "" {
		return madeWorth{}, errFault
	}
	if depth == 50 {
		return madeWorth{}, errLong
	}
	o.count.Calls++
	o.count.Deepest = max(o.count.Deepest, depth+1)
	o.tags = append(o.tags, fun.code)
	c := codeByText(o.program, fun.code)
	reads := map[string]madeWorth{c.Param: arg, "%": fun}
	for i, field := range fun.fields {
		reads["."+strconv.Itoa(i)] = field
	}
	return o.evaluate(c.Body, depth+1, reads)
}

// fieldsByText returns the texts of the fields of a record that is made.
func fieldsByText(text string) []string {
	var fields []string
	for rest := text[2 : len(text)-1]; rest != ""; {
		n := firstLength(rest)
		fields = append(fields, rest[:n])
		rest = rest[n:]
	}
	return fields
}

// codeByText returns the code with a name, the zero value if there is none.
func codeByText(p impl.Made, name string) impl.Code {
	for _, c := range p.Codes {
		if c.Name == name {
			return c
		}
	}
	return impl.Code{}
}

func formatMadeByText(p impl.Made) string {
	text := ""
	for _, c := range p.Codes {
		text += c.Name + strconv.Itoa(c.Size) + c.Param + ":" + c.Body + "/"
	}
	return text + p.Main
}

// sourceLength returns how long what a field may read is at the front of a text, -1 if there is no such thing.
func sourceLength(text string) int {
	switch {
	case text == "":
		return -1
	case strings.Contains(allNames+"%", text[:1]):
		return 1
	case text[0] == '.' && len(text) > 1 && strings.Contains("0123456789", text[1:2]):
		return 2
	}
	return -1
}

// madeLength returns how long the term with records at the front of a text is, -1 if there is none.
func madeLength(text string) int {
	return lengthBy(text, func(text string) int {
		if text[0] != '{' {
			return sourceLength(text)
		}
		if len(text) < 2 || !strings.Contains(allSups, text[1:2]) {
			return -1
		}
		for at := 2; ; {
			if strings.HasPrefix(text[at:], "}") {
				return at + 1
			}
			n := sourceLength(text[at:])
			if n < 0 {
				return -1
			}
			at += n
		}
	})
}

// isMadeByText reports whether a text is a term with records in which at most one name stands free, and what it reads and makes is there.
func isMadeByText(text, param string, size int, codes []impl.Code) bool {
	if text == "" || len(text) > 400 || madeLength(text) != len(text) || strings.Trim(freeOf(text), param) != "" {
		return false
	}
	if param == "" && strings.ContainsAny(text, ".%") {
		return false
	}
	for at := range len(text) {
		if text[at] == '.' && int(text[at+1]-'0') >= size {
			return false
		}
		if text[at] == '{' {
			c := codeByText(impl.Made{Codes: codes}, text[at+1:at+2])
			if c.Name == "" || c.Size != len(fieldsByText(text[at:at+firstLength(text[at:])])) {
				return false
			}
		}
	}
	return true
}

func madeValidByText(p impl.Made) bool {
	names := ""
	for _, c := range p.Codes {
		if len(c.Name) != 1 || !strings.Contains(allSups, c.Name) || strings.Contains(names, c.Name) {
			return false
		}
		if len(c.Param) != 1 || !strings.Contains(allNames, c.Param) || c.Size < 0 || c.Size > 9 {
			return false
		}
		names += c.Name
	}
	for _, c := range p.Codes {
		if !isMadeByText(c.Body, c.Param, c.Size, p.Codes) {
			return false
		}
	}
	return isMadeByText(p.Main, "", 0, p.Codes)
}

// splitMadeByText returns what would be the program of a text, the zero value if it falls into no pieces of codes.
func splitMadeByText(text string) impl.Made {
	pieces := strings.Split(text, "/")
	p := impl.Made{Main: pieces[len(pieces)-1]}
	for _, piece := range pieces[:len(pieces)-1] {
		colon := strings.Index(piece, ":")
		if colon < 2 || !strings.Contains("0123456789", piece[1:2]) {
			return impl.Made{}
		}
		p.Codes = append(p.Codes, impl.Code{Name: piece[:1], Param: piece[2:colon], Size: int(piece[1] - '0'), Body: piece[colon+1:]})
	}
	return p
}

func sameMade(p, q impl.Made) bool { return p.Main == q.Main && slices.Equal(p.Codes, q.Codes) }

// mustParseMade returns the program of a text that is one.
func mustParseMade(t *testing.T, text string) impl.Made {
	t.Helper()
	p, ok := impl.ParseMade(text)
	if !ok || !sameMade(p, splitMadeByText(text)) {
		t.Fatalf("ParseMade(%q) = %v, %v", text, p, ok)
	}
	return p
}

// checkMade checks all that the chapter tells of a program with records, and returns how its run ends.
func checkMade(t *testing.T, p impl.Made) madeTold {
	t.Helper()
	before := slices.Clone(p.Codes)
	text := formatMadeByText(p)
	if !impl.MadeValid(p) || impl.FormatMade(p) != text {
		t.Fatalf("MadeValid and FormatMade of %v = %v, %q", p, impl.MadeValid(p), impl.FormatMade(p))
	}
	if q := mustParseMade(t, text); !sameMade(p, q) {
		t.Errorf("ParseMade(%q) = %v, want %v", text, q, p)
	}
	want := runMadeByText(p)
	done := want.end == impl.EndDone
	if x, ok := impl.RunMade(p); x != (impl.Result{End: want.end, IsFun: want.isFun, Value: want.value}) || !ok {
		t.Errorf("RunMade(%q) = %v, %v, want %s", text, x, ok, want.text())
	}
	if n, ok := impl.CountMade(p); n != want.count || ok != done {
		t.Errorf("CountMade(%q) = %v, %v, want %v", text, n, ok, want.count)
	}
	if heap, ok := impl.HeapOf(p); heap != want.heap || ok != done {
		t.Errorf("HeapOf(%q) = %q, %v, want %q", text, heap, ok, want.heap)
	}
	for _, name := range append(strings.Split(allSups, ""), "", "M", "a", "AB", "A ", "A0", ":", "/") {
		c, ok := impl.CodeOf(p, name)
		if want := codeByText(p, name); c != want || ok != (want.Name != "") {
			t.Errorf("CodeOf(%q, %q) = %v, %v", text, name, c, ok)
		}
	}
	if !slices.Equal(p.Codes, before) {
		t.Errorf("%v was changed to %v", before, p.Codes)
	}
	return want
}

// checkMadeEnd checks a program with records whose result is told as its text, and all else by the oracle.
func checkMadeEnd(t *testing.T, text, want string) {
	t.Helper()
	if got := checkMade(t, mustParseMade(t, text)); got.text() != want {
		t.Errorf("the oracle says %s of %q, want %s", got.text(), text, want)
	}
}

// checkNoMade checks the results that the chapter states for a program that is not valid.
func checkNoMade(t *testing.T, p impl.Made) {
	t.Helper()
	x, xOk := impl.RunMade(p)
	n, nOk := impl.CountMade(p)
	heap, heapOk := impl.HeapOf(p)
	if impl.MadeValid(p) || impl.FormatMade(p) != "" || x != (impl.Result{}) || xOk || n != (impl.Count{}) || nOk || heap != "" || heapOk {
		t.Errorf("%v is not valid, but MadeValid, FormatMade, RunMade, CountMade, HeapOf = %v, %q, %v, %v, %q", p, impl.MadeValid(p), impl.FormatMade(p), x, n, heap)
	}
	for _, c := range append(slices.Clone(p.Codes), impl.Code{Name: "A"}, impl.Code{}) {
		if c, ok := impl.CodeOf(p, c.Name); c != (impl.Code{}) || ok {
			t.Errorf("%v is not valid, but CodeOf = %v, %v", p, c, ok)
		}
	}
}

// checkNoMadeText checks the results for a text that is none of a program with records.
func checkNoMadeText(t *testing.T, text string) {
	t.Helper()
	if p, ok := impl.ParseMade(text); p.Main != "" || len(p.Codes) != 0 || ok {
		t.Errorf("ParseMade(%q) = %v, %v", text, p, ok)
	}
	checkNoMade(t, splitMadeByText(text))
}

// checkMadeText checks a text that may be one of a program with records.
func checkMadeText(t *testing.T, text string, valid bool) {
	t.Helper()
	if madeValidByText(splitMadeByText(text)) != valid {
		t.Errorf("the oracle says %v of %q", !valid, text)
	}
	if valid {
		checkMade(t, mustParseMade(t, text))
	} else {
		checkNoMadeText(t, text)
	}
}

func TestRecordRunsAndCounts(t *testing.T) {
	for _, c := range []struct{ text, want, count, heap string }{
		{"7", "7", "1 0 0 0 0", ""},
		{"#42", "42", "1 0 0 0 0", ""},
		{"=a#10*aa", "0", "5 0 0 0 0", ""},
		{"?012", "1", "3 0 0 0 0", ""},
		{"?1(12)2", "2", "3 0 0 0 0", ""},
		{"-01", "99", "3 0 0 0 0", ""},
		{"A0a:a/7", "7", "1 0 0 0 0", ""},
		{"A0a:({B}a)/B0a:{A}/?1{A}7", "7", "3 0 0 0 0", ""},
		{"A0a:a/{A}", "function", "1 0 1 0 0", "A"},
		{"A0a:a/({A}5)", "5", "4 1 1 0 1", "A"},
		{"A0a:%/({A}5)", "function", "4 1 1 0 1", "A"},
		{"A0a:a/({A}{A})", "function", "4 1 2 0 1", "A A"},
		{"A0a:a/(({A}{A})5)", "5", "7 2 2 0 1", "A A"},
		{"A0a:+a1/B0a:7/({A}3)", "4", "6 1 1 0 1", "A"},
		{"A0a:+a1/+({A}3)({A}4)", "9", "13 2 2 0 1", "A A"},
		{"A0a:({B}a)/B0b:+b1/({A}3)", "4", "9 2 2 0 2", "A B"},
		{"A1a:.0/=b7{Ab}", "function", "3 0 1 1 0", "A,7"},
		{"A1a:.0/=b7({Ab}0)", "7", "6 1 1 1 1", "A,7"},
		{"A1p:.0/=p#42({Ap}0)", "42", "6 1 1 1 1", "A,42"},
		{"A2a:-.0.1/=b5=c3({Abc}0)", "2", "10 1 1 2 1", "A,5,3"},
		{"A2a:-.1.0/=b5=c3({Abc}0)", "98", "10 1 1 2 1", "A,5,3"},
		{"A2a:-.0.1/=b5=c3({Acb}0)", "98", "10 1 1 2 1", "A,3,5"},
		{"A3a:-.0-.1.2/=b5({Abbb}0)", "5", "10 1 1 3 1", "A,5,5,5"},
		{"A9a:+.0+.1+.2+.3+.4+.5+.6+.7.8/=a1=b2=c3=d4=e5=f6=g7=h8=i9({Aabcdefghi}0)", "45", "38 1 1 9 1", "A,1,2,3,4,5,6,7,8,9"},
		{"A9a:-.8.0/=a1=b2=c3=d4=e5=f6=g7=h8=i9({Aabcdefghi}0)", "8", "24 1 1 9 1", "A,1,2,3,4,5,6,7,8,9"},
		{"A0a:a/B1a:(.0a)/=b{A}({Bb}6)", "6", "9 2 2 1 2", "A B,@0"},
		{"A0n:?n1*n(%-n1)/({A}5)", "20", "51 6 1 0 6", "A"},
		{"A1n:?n.0(%-n1)/=m8({Am}3)", "8", "29 4 1 1 4", "A,8"},
		{"A0a:{Ba%}/B2a:{C.0.1%a}/C4a:+.0.3/((({A}#12)3)4)", "15", "12 3 3 6 1", "A B,12,@0 C,12,@0,@1,3"},
		{"A1a:.0/B1a:(.0a)/C1a:(.0a)/=b#77=c{Ab}=d{Bc}=e{Cd}(e1)", "77", "18 3 3 3 3", "A,77 B,@0 C,@1"},
		{"L0p:p/({L}#99)", "99", "4 1 1 0 1", "L"},
	} {
		p := mustParseMade(t, c.text)
		checkMadeEnd(t, c.text, c.want)
		n, _ := impl.CountMade(p)
		if got := impl.FormatCount(n); got != c.count {
			t.Errorf("CountMade(%q) = %q, want %q", c.text, got, c.count)
		}
		if heap, _ := impl.HeapOf(p); heap != c.heap {
			t.Errorf("HeapOf(%q) = %q, want %q", c.text, heap, c.heap)
		}
	}
}

// A field is what it was where its record was made, and in a body there is nothing but the parameter, the fields and the record.
func TestFieldsAreWhatTheyWere(t *testing.T) {
	for text, want := range map[string]string{
		"A1a:.0/=b7=c{Ab}=b8(c0)":                 "7",
		"A1a:+a.0/=a7({Aa}1)":                     "8",
		"A1a:+a=a9.0/=a7({Aa}1)":                  "8",
		"A1a:=a9+a.0/=a7({Aa}1)":                  "16",
		"A1a:+=a9a-a.0/=b7({Ab}8)":                "10",
		"A1a:=b.0=a({B}b)+a.0/B0a:+a1/=b7({Ab}1)": "15",
		// Each record has fields of its own.
		"A1a:.0/=b1=c2=d{Ab}=e{Ac}+*#10(d0)(e0)":       "12",
		"A1a:.0/=b1=c2=d{Ab}=e{Ac}+*#10(e0)(d0)":       "21",
		"A2a:+*#10(.0a).1/B1a:.0/=b1=c2=d{Bb}({Adc}0)": "12",
		"A2a:+*#10.1(.0a)/B1a:.0/=b1=c2=d{Bb}({Adc}0)": "21",
		"A1a:=b({B}a)+*#10b.0/B0a:7/=c3({Ac}1)":        "73",
		"A1a:?a.0+.0(%-a1)/=b7({Ab}4)":                 "35",
		"A1a:?a.0+.0({A.0}-a1)/=b7({Ab}4)":             "35",
		"A1a:?a.0+.0({Aa}-a1)/=b7({Ab}4)":              "17",
		// Fields may be records, and what these are called with may be fields.
		"A2a:(.0(.1a))/B0a:+a1/C0a:*a2/=b{B}=c{C}({Abc}5)":        "11",
		"A2a:(.0(.1a))/B0a:+a1/C0a:*a2/=b{B}=c{C}({Acb}5)":        "12",
		"A2a:(.1(.0a))/B0a:+a1/C0a:*a2/=b{B}=c{C}({Abc}5)":        "12",
		"A1a:(.0a)/B1a:+.0a/=b4=c{Bb}=d{Ac}=e{Ad}=f{Ae}(f3)":      "7",
		"A1a:{B.0a}/B2a:{C.0.1a}/C3a:+.0+.1*.2a/=b4((({Ab}5)6)7)": "51",
		"A1a:?a(.0a)({B%.0}a)/B2a:(.00)/C0a:5/=b{C}({Ab}1)":       "5",
		"A1a:?a(.0a)({B%.0}a)/B2a:(.10)/C0a:6/=b{C}({Ab}1)":       "6",
		"A1a:.0/B1a:(.0.0)/=b8=c{Ab}({Bc}0)":                      "8",
		"A0a:{B%}/B1a:(.0a)/({A}1)":                               "function",
		"A0a:?a7{B%}/B1a:(.0a)/(({A}1)0)":                         "7",
	} {
		checkMadeEnd(t, text, want)
	}
}

// Both sides are evaluated before a number is called or a record is where a number is needed.
func TestFaultsOfRecordRuns(t *testing.T) {
	const codes, loop = "A0a:(aa)/B1a:.0/C0a:%/", "({A}{A})"
	for main, want := range map[string]string{
		loop: "long", "(12)": "fault", "(1{A})": "fault", "((12){A})": "fault", "({A}(12))": "fault", "({A}1)": "fault",
		"(1" + loop + ")": "long", "(" + loop + "1)": "long", "((12)" + loop + ")": "fault", "(" + loop + "(12))": "long",
		"=b7(({Bb}1)2)": "fault", "=b7(({Bb}(12))1)": "fault", "((({C}1)2)3)": "function", "=b{C}({Bb}1)": "function", "=b{A}(({Bb}1)2)": "fault",
		"?{A}12": "fault", "?({C}1)12": "fault", "?{A}" + loop + "2": "fault", "?(12)11": "fault", "?" + loop + "11": "long", "=b{C}?b12": "fault",
		"?01(12)": "1", "?1(12)2": "2", "?0(12)2": "fault", "?01" + loop: "1", "?1" + loop + "2": "2", "?0{A}1": "function", "?11{A}": "function",
		"=a{A}1": "1", "=a1{A}": "function", "=a(12)1": "fault", "=a" + loop + "1": "long", "=a1(a{A})": "fault", "=a{A}(aa)": "long",
	} {
		checkMadeEnd(t, codes+main, want)
	}
	for _, sign := range []string{"+", "-", "*"} {
		for sides, want := range map[string]string{
			"1{A}": "fault", "{A}1": "fault", "{A}{A}": "fault", "0{A}": "fault", "{A}0": "fault", "({C}1)2": "fault", "2({C}1)": "fault", "{A}(12)": "fault", "(12){A}": "fault",
			"{A}" + loop: "long", loop + "{A}": "long", "1" + loop: "long", loop + "1": "long", "(12)" + loop: "fault", loop + "(12)": "long",
		} {
			checkMadeEnd(t, codes+sign+sides, want)
		}
		for body, want := range map[string]string{sign + "%1": "fault", sign + "1%": "fault", sign + ".0%": "fault", sign + ".0a": "0", sign + ".0.0": "0", "?%12": "fault", "(.0%)": "fault", "(%%)": "long"} {
			checkMadeEnd(t, "A1a:"+body+"/=b0({Ab}0)", want)
		}
		checkMadeEnd(t, "A1a:"+sign+".0a/B0a:a/=b{B}({Ab}1)", "fault")
		checkMadeEnd(t, "A1a:"+sign+"a.0/B0a:a/=b{B}({Ab}1)", "fault")
	}
}

const (
	busyCodes  = "A0n:?n0(%-n1)/B0a:1/C1a:.0/D0a:%/E9a:.8/F0a:{C%}/"
	codesSteps = 1434
)

// madePadded returns a term with records behind busyCodes that makes so many steps, which are codesSteps, or at least two more.
func madePadded(steps int) string {
	text, more := sum(repeat("({A}#40)", 5)), steps-codesSteps
	if more%2 == 1 {
		text = "({B}" + text + ")"
		more -= 3
	}
	return strings.Repeat("+1", more/2) + text
}

// Whatever is evaluated last, it is a step, and fields that are read to make a record are none.
func TestLongestRecordRuns(t *testing.T) {
	if n, ok := impl.CountMade(mustParseMade(t, busyCodes+madePadded(codesSteps))); n.Steps != codesSteps || !ok {
		t.Fatalf("CountMade = %v, %v", n, ok)
	}
	for around, more := range map[string]int{
		"X": 0, "=pX0": 2, "=pXp": 2, "=pX?012": 4, "=pX+12": 4, "?X01": 2, "=pX{A}": 2, "=pX{Cp}": 2, "=pX{Eppppppppp}": 2,
		"=pX({B}p)": 5, "=pX({Cp}1)": 5, "=pX({D}1)": 5, "=pX({Eppppppppp}p)": 5, "=pX({F}1)": 5, "({B}X)": 3,
	} {
		for steps := 1490; steps <= 1510; steps++ {
			p := mustParseMade(t, busyCodes+strings.Replace(around, "X", madePadded(steps-more), 1))
			if want := checkMade(t, p); (want.end == impl.EndDone) != (steps <= 1500) || steps <= 1500 && want.count.Steps != steps {
				t.Errorf("%v should make %d steps, but makes %v", p, steps, want)
			}
		}
	}
}

// A fault behind exactly 1500 steps is one, and one more step is too many.
func TestFaultsAtTheLastRecordStep(t *testing.T) {
	for around, more := range map[string]int{"(1X)": 2, "(X1)": 2, "+{B}X": 2, "*X{B}": 2, "-({D}1)X": 5, "=pX(12)": 4, "=pX?{Cp}12": 3} {
		for steps := 1490; steps <= 1510; steps++ {
			want := "fault"
			if steps > 1500 {
				want = "long"
			}
			checkMadeEnd(t, busyCodes+strings.Replace(around, "X", madePadded(steps-more), 1), want)
		}
	}
}

func TestRecordCallsWithinEachOther(t *testing.T) {
	const others = "/B0a:a/C1a:.0/D0a:({B}a)/E1a:(.0a)/"
	for n := 45; n < 55; n++ {
		for _, loop := range []string{"?n0(%-n1)", "?n0+1(%-n1)", "?n0=a(%-n1)a", "?n0({B}(%-n1))", "?n0?(%-n1)01", "?n0=a(%-n1)({Ca}n)", "?n0({A}-n1)"} {
			p := mustParseMade(t, "A0n:"+loop+others+"({A}"+written(n)+")")
			if want := checkMade(t, p); (want.end == impl.EndDone) != (n < 50) || n < 50 && want.count.Deepest != n+1 {
				t.Errorf("%v has %d calls within each other, but is %v", p, n+1, want)
			}
		}
		// To make a record is no call.
		for last, more := range map[string]int{"0": 0, "n": 0, "%": 0, "{B}": 0, "{Cn}": 0, "{C%}": 0, "({B}1)": 1, "({B}({B}1))": 1, "({Cn}1)": 1, "({D}1)": 2, "=a{B}({Ea}1)": 2, "=a{B}=b{Ea}({Eb}1)": 3, "({B}{B})": 1} {
			p := mustParseMade(t, "A0n:?n"+last+"(%-n1)"+others+"({A}"+written(n)+")")
			if want := checkMade(t, p); (want.end == impl.EndDone) != (n+1+more <= 50) {
				t.Errorf("%v has %d calls within each other, but is %v", p, n+1+more, want)
			}
		}
	}
	for main, want := range map[string]string{
		// Calls one behind the other do not lie within each other.
		"+({A}#49)({A}#49)": "0", "({A}({A}#49))": "0", "=a({A}#49)({A}a)": "0", "({B}({A}#49))": "0", "({B}({A}#50))": "long", "=a({A}#49)({Ca}({A}#49))": "0",
		"({D}#48)": "0", "({D}#49)": "long", "({E}#49)": "fault", "({E}#50)": "long",
	} {
		checkMadeEnd(t, "A0n:?n0(%-n1)/B0a:a/C1a:.0/D0a:({A}a)/E0n:?n(12)(%-n1)/"+main, want)
	}
}

// madeOfLength returns a term of so many bytes that begins with a sum with another term, which has at least six bytes less.
func madeOfLength(first string, bytes int) string {
	return "+" + first + flatOfLength(bytes-1-len(first))
}

func TestLengthsOfTermsWithRecords(t *testing.T) {
	for _, bytes := range []int{1, 3, 4, 119, 120, 121, 122, 397, 398, 399, 400, 401, 402, 403, 404, 1000, 1001, 100000} {
		text := flatOfLength(bytes)
		for _, around := range []string{"X", "A0a:X/1", "A0a:X/({A}1)", "A0a:1/B0a:X/7", "A0a:1/X", "A0a:X/X"} {
			checkMadeText(t, strings.ReplaceAll(around, "X", text), bytes <= 400)
		}
	}
	for _, bytes := range []int{119, 120, 121, 398, 399, 400, 401, 402, 1000} {
		for _, first := range []string{"a", ".0", "%", "{B}", "{A%}", "(%a)", "=c1c", "({B}1)", "({Aa}{A.0})"} {
			checkMadeText(t, "A1a:"+madeOfLength(first, bytes)+"/B0b:7/=b1({Ab}2)", bytes <= 400)
		}
		for _, first := range []string{"1", "{B}", "({B}1)", "=c1{Ac}", "=c1({Ac}2)"} {
			checkMadeText(t, "A1a:+a.0/B0b:7/"+madeOfLength(first, bytes), bytes <= 400)
		}
	}
	most := impl.Made{Main: flatOfLength(400)}
	for _, name := range strings.Split(allSups, "") {
		most.Codes = append(most.Codes, impl.Code{Name: name, Param: "p", Size: 9, Body: flatOfLength(400)})
	}
	checkMade(t, most)
	most.Codes = append(most.Codes, impl.Code{Name: "M", Param: "p", Body: "p"})
	checkNoMade(t, most)
}

// As many parts of a term with records may lie within each other as they like.
func TestDeepTermsWithRecords(t *testing.T) {
	for _, around := range [][2]string{
		{"(", "1)"}, {"({B}", ")"}, {"=a", "1"}, {"=a1", ""}, {"+", "1"}, {"-1", ""}, {"*", "1"}, {"?", "11"}, {"?1", "1"}, {"?11", ""},
	} {
		for _, n := range []int{22, 23, 24, 25, 60, 79} {
			for _, inner := range []string{"b", ".0", "%", "{B}", "{A.0}", "{Ab}"} {
				text := strings.Repeat(around[0], n) + inner + strings.Repeat(around[1], n)
				checkMadeText(t, "A1b:"+text+"/B0b:b/=p1({Ap}2)", true)
				if inner == "{B}" {
					checkMadeText(t, "B0b:b/"+text, true)
				}
			}
		}
	}
	for _, deep := range []string{strings.Repeat("+", 199) + strings.Repeat("1", 200), strings.Repeat("=a1", 133) + "a", strings.Repeat("=a1", 132) + "{Aa}", strings.Repeat("?", 133) + strings.Repeat("1", 267)} {
		checkMadeText(t, "A1a:a/"+deep, true)
		checkMadeText(t, "A1a:"+deep+"/=a1({Aa}1)", true)
	}
}

// codesNamed returns codes with the names of a text, one letter each.
func codesNamed(names string) string {
	text := ""
	for _, name := range strings.Split(names, "") {
		text += name + "0a:a/"
	}
	return text
}

func TestNamesOfCodes(t *testing.T) {
	for names, valid := range map[string]bool{
		"A": true, "L": true, "LA": true, allSups: true, "LKJIHGFEDCBA": true, allSups[:11]: true,
		"AA": false, "ABA": false, "BAA": false, allSups + "A": false, allSups + "L": false, allSups + "M": false, allSups[:11] + "A": false, allSups + allSups: false, strings.Repeat("A", 1000): false,
		"M": false, "Z": false, "@": false, "a": false, "l": false, "1": false, " ": false, "\x00": false, "\xc1": false, "$": false, ":": false, "É": false, "A M": false,
	} {
		checkMadeText(t, codesNamed(names)+"7", valid)
		checkMadeText(t, codesNamed(names)+"({"+names[:1]+"}7)", valid)
	}
	for b := range 256 {
		name := string([]byte{byte(b)})
		valid := 'A' <= b && b <= 'L'
		checkMadeText(t, name+"0a:a/1", valid)
		if p := (impl.Made{Codes: []impl.Code{{Name: name, Param: "a", Body: "a"}}, Main: "({" + name + "}1)"}); valid {
			checkMade(t, p)
		} else {
			checkNoMade(t, p)
		}
	}
	for _, name := range []string{"", "AB", "AA", "A ", " A", "A0", "A0a:a/B", "é", "\xff", strings.Repeat("A", 1000)} {
		checkNoMade(t, impl.Made{Codes: []impl.Code{{Name: name, Param: "a", Body: "a"}}, Main: "7"})
	}
	checkNoMade(t, impl.Made{Codes: []impl.Code{{Name: "A", Param: "a", Body: "a"}, {Name: "A", Param: "b", Size: 1, Body: "b"}}, Main: "7"})
}

func TestParametersOfCodes(t *testing.T) {
	for _, param := range append([]string{"a b", "abc", ":", "0", "0a", "a:", "%", ".0", "/", strings.Repeat("a", 1000)}, noNames...) {
		checkNoMade(t, impl.Made{Codes: []impl.Code{{Name: "A", Param: param, Body: "7"}}, Main: "7"})
		checkNoMade(t, impl.Made{Codes: []impl.Code{{Name: "B", Param: "a", Body: "7"}, {Name: "A", Param: param, Body: "7"}}, Main: "({A}1)"})
		checkMadeText(t, "A0"+param+":7/({A}1)", false)
	}
	for b := range 256 {
		param := string([]byte{byte(b)})
		checkMadeText(t, "A0"+param+":"+param+"/({A}1)", 'a' <= b && b <= 'p')
		checkMadeText(t, "A0"+param+":7/({A}1)", 'a' <= b && b <= 'p')
	}
}

func TestSizesOfCodes(t *testing.T) {
	for _, size := range []int{-1 << 63, -1 << 32, -256, -10, -2, -1, 10, 11, 12, 99, 256, 1 << 32, 1<<63 - 1} {
		checkNoMade(t, impl.Made{Codes: []impl.Code{{Name: "A", Param: "a", Size: size, Body: "a"}}, Main: "7"})
		checkNoMade(t, impl.Made{Codes: []impl.Code{{Name: "B", Param: "a", Body: "a"}, {Name: "A", Param: "a", Size: size, Body: "a"}}, Main: "7"})
		checkNoMade(t, impl.Made{Codes: []impl.Code{{Name: "A", Param: "a", Size: size, Body: "a"}}, Main: "=a1{A" + strings.Repeat("a", max(0, min(size, 300))) + "}"})
		checkNoMadeText(t, "A"+strconv.Itoa(size)+"a:a/7")
	}
	for size := range 10 {
		digit := strconv.Itoa(size)
		for fields := range 12 {
			checkMadeText(t, "A"+digit+"a:a/=a1{A"+strings.Repeat("a", fields)+"}", size == fields)
			checkMadeText(t, "A"+digit+"a:{A"+strings.Repeat("%", fields)+"}/7", size == fields)
		}
		for field := range 10 {
			index := strconv.Itoa(field)
			checkMadeText(t, "A"+digit+"a:."+index+"/7", field < size)
			checkMadeText(t, "A"+digit+"a:+a(."+index+"a)/7", field < size)
			checkMadeText(t, "A"+digit+"a:{B."+index+"}/B1a:a/7", field < size)
			checkMadeText(t, "B1a:a/A"+digit+"a:({B."+index+"}a)/7", field < size)
		}
	}
	for _, text := range []string{"A10a:a/7", "A00a:a/7", "A01a:a/7", "A-1a:a/7", "A+1a:a/7", "A a:a/7", "Aa:a/7", "Aaa:a/7", "A#10a:a/7", "A\x00a:a/7", "A\xffa:a/7", "A/a:a/7", "A:a:a/7", "A1.a:a/7"} {
		checkNoMadeText(t, text)
	}
}

func TestNamesThatStandFreeInPrograms(t *testing.T) {
	for text, valid := range map[string]bool{
		"A0a:a/1": true, "A0a:b/1": false, "A0a:+ab/1": false, "A0a:+ba/1": false, "A0b:+ab/1": false, "A0b:b/1": true, "A0p:p/1": true, "A0p:a/1": false,
		"A0a:=b1b/1": true, "A0a:=bbb/1": false, "A0a:=bab/1": true, "A0a:+=b1bb/1": false, "A0a:=a1a/1": true, "A0a:?1ab/1": false, "A0a:?ab1/1": false, "A0a:?b11/1": false, "A0a:(ba)/1": false,
		"A0a:a/B0b:a/1": false, "A0a:b/B0b:b/1": false, "A0a:1/a": false, "A0a:1/({A}a)": false, "A0a:1/=a1({A}a)": true, "A0a:1/=a({A}a)1": false, "A0a:1/+=a1aa": false,
		"a": false, "p": false, "=a1a": true, "=aa1": false, "=a1b": false, "=a1=b2+ab": true,
		// A field reads a name like a term does.
		"A1a:a/{Aa}": false, "A1a:a/=a1{Aa}": true, "A1a:a/=a1{Ab}": false, "A1a:a/=a{Aa}1": false, "A1a:a/+=a1a{Aa}": false, "A2a:a/=b1{Aab}": false, "A2a:a/=b1{Aba}": false, "A2a:a/=b1=a2{Aba}": true,
		"A1a:{Aa}/1": true, "A1a:{Ab}/1": false, "A1a:=b1{Ab}/1": true, "A1a:=b{Ab}1/1": false, "A2a:{Aab}/1": false, "A2a:{Aba}/1": false, "A1a:{Ba}/B1b:{Ab}/1": true, "A1a:{Bb}/B1b:{Ab}/1": false, "A1a:{Ba}/B1b:{Aa}/1": false,
	} {
		checkMadeText(t, text, valid)
	}
}

// In Main no record was called, whatever the sizes of the codes are.
func TestWhatWasCalledIsNotInMain(t *testing.T) {
	for _, main := range []string{
		".0", ".8", "%", "(.01)", "(%1)", "+1.0", "+1%", "?01.0", "?01%", "?1%2", "=a.01", "=a%1", "=a1.0", "=a1%", "{A.0}", "{A%}", "({A.0}1)", "({A%}1)", "+1{A.0}", "=b1({A%}b)", "=a{A%}1", "=a1{A.0}", "{A.9}",
	} {
		for _, codes := range []string{"", "A1a:a/", "A1a:.0/", "A1a:{A%}/", "A1a:{B.0%}/B2a:{A.1}/"} {
			checkMadeText(t, codes+main, false)
		}
	}
	for text, valid := range map[string]bool{"A0a:%/7": true, "A0a:{B%}/B1a:.0/7": true, "A1a:.0/7": true, "A1a:{A.0}/7": true, "A0a:.0/7": false, "A0a:{B.0}/B1a:.0/7": false, "A1a:{B.1}/B1a:.0/7": false, "A1a:.0/B0a:.0/7": false} {
		checkMadeText(t, text, valid)
	}
}

func TestRecordsThatAreNotThere(t *testing.T) {
	for text, valid := range map[string]bool{
		"{A}": false, "{L}": false, "({A}1)": false, "?1{A}2": false, "A0a:{B}/1": false, "A0a:{A}/1": true, "A0a:1/{B}": false, "A0a:1/{A}": true, "B0a:1/{A}": false, "B0a:{A}/{B}": false,
		"A0a:{B}/B0a:{A}/1": true, "A0a:{B}/B0a:{C}/1": false, "A0a:1/B0a:{C}/1": false, "A0a:1/B0a:1/+1{C}": false, "A0a:1/=a{B}1": false, "A0a:({A}a)/({A}{L})": false, "A0a:1/({A}{M})": false, "{M}": false,
		// A record with too few fields, or too many.
		"A0a:a/{Aa}": false, "A0a:a/=a1{Aa}": false, "A1a:a/{A}": false, "A1a:a/=a1{A}": false, "A1a:a/=a1{Aaa}": false, "A2a:a/=a1{Aaa}": true, "A2a:a/=a1{Aa}": false, "A2a:a/=a1{Aaaa}": false,
		"A1a:{A}/1": false, "A1a:{A%}/1": true, "A1a:{A%%}/1": false, "A1a:{A.0a}/1": false, "A2a:{A.0a}/1": true, "A2a:{A.0.1}/1": true, "A2a:{A.0}/1": false, "A2a:{A.0a%}/1": false,
		"A0a:{B.0}/B1a:a/1": false, "A0a:{B}/B1a:a/1": false, "A1a:a/B2a:a/=a1{Aaa}": false, "A1a:a/B2a:a/=a1{Baa}": true, "A1a:a/B2a:a/=a1{Ba}": false,
	} {
		checkMadeText(t, text, valid)
	}
}

// noRecordTerms are texts that are no terms with records, also where the code A has one field.
var noRecordTerms = []string{
	"", " ", "q", "A", "M", "é", "$0;", "\n", "\x00", "\xff\xfe", "1 ", " 1", "(1 2)", "+ 12", "+1 2", "% ", " %", ".0 ", ". 0", " .0", "1\n", "{Aa} ", " {Aa}", "{ Aa}", "{A a}", "{Aa }", "{A\ta}", "({Aa} 1)",
	"12", "%%", ".0.0", "1%", "{Aa}{Aa}", "{Aa}1", "(12)3", "(12))", "=a123", "+123", "?1234", "(", ")", "()", "(1)", "({Aa})", "(123)", "(12", "({Aa}1", "[12]", "=", "=a", "=a1", "=1aa", "=.01a", "=%1a", "=a{Aa}",
	"+", "-", "*", "+1", "+.0", "?", "?1", "?12", "?%%", "#1", "#09", "#.0", "+1#1", "(A1)", "+1A",
	".", ".a", ".%", "..0", ".#10", ".-1", ".A", ".\x00", ".:", "+.1", "(.)",
	"{", "}", "{}", "{A", "{Aa", "{A.", "{A.0", "{A%", "{A.}", "{Aa}}", "{{Aa}", "{a}", "{1}", "{a1}", "{Mq}", "{Ma}", "{%}", "{.0}", "{AAa}", "{AA}", "{Aa)", "{Aa]", "(Aa}", "[Aa}", "{Aa/",
	"{A1}", "{A#10}", "{Aq}", "{A(11)}", "{A+11}", "{A{Aa}}", "{A{A}}", "{A=a1a}", "{A?111}", "{A.a}", "{A.-1}", "{A$}", "{A,a}", "{A:}", "{A\x00}", "{A\xff}", "{Aé}", `{A\aa}`,
	`\`, `\a`, "@", "@ab", `\aa`, `\a1`, `@aba`, `@fn(fn)`, `(\aa1)`, `({Aa}\aa)`, `=a\aaa`, `=a1\ba`, `+1\aa`, `?01\aa`, `?0\aa1`, `=f@fn1(f1)`, `\a.0`, `\a%`, `\%1`,
	"+1/1", "1/", "/1", "A1a:a", "1:1",
}

func TestTextsThatAreNoTermsWithRecords(t *testing.T) {
	for _, text := range noRecordTerms {
		a := impl.Code{Name: "A", Param: "a", Size: 1, Body: "a"}
		checkNoMade(t, impl.Made{Codes: []impl.Code{a}, Main: text})
		checkNoMade(t, impl.Made{Codes: []impl.Code{a}, Main: "=a1" + text})
		checkNoMade(t, impl.Made{Codes: []impl.Code{{Name: "A", Param: "a", Size: 1, Body: text}}, Main: "7"})
		checkNoMade(t, impl.Made{Codes: []impl.Code{a, {Name: "B", Param: "a", Size: 1, Body: text}}, Main: "=a1({Aa}1)"})
		checkNoMade(t, impl.Made{Codes: []impl.Code{{Name: "B", Param: "a", Size: 1, Body: text}, a}, Main: "7"})
		if !strings.Contains(text, "/") {
			checkNoMadeText(t, "A1a:a/=a1"+text)
			checkNoMadeText(t, "A1a:"+text+"/7")
			checkNoMadeText(t, "A1a:a/B1a:"+text+"/=a1({Aa}1)")
		}
	}
	for b := range 256 {
		text := string([]byte{byte(b)})
		isDigit, isName := '0' <= b && b <= '9', 'a' <= b && b <= 'p'
		checkMadeText(t, "A0a:"+text+"/1", isDigit || b == 'a' || b == '%')
		checkMadeText(t, "A0a:a/=a1"+text, isDigit || b == 'a')
		checkMadeText(t, "A0a:a/=a1({A}1)"+text, false)
		checkMadeText(t, "A1a:{A"+text+"}/1", b == 'a' || b == '%')
		checkMadeText(t, "A9a:."+text+"/1", isDigit && b < '9')
		checkMadeText(t, "A9a:{B."+text+"}/B1a:a/1", isDigit && b < '9')
		checkMadeText(t, "A1a:a/="+text+"1{A"+text+"}", isName)
		checkMadeText(t, "A0a:a/{"+text+"}", b == 'A')
		checkMadeText(t, "A1a:a/=a1{Aa"+text, b == '}')
	}
}

func TestTextsThatAreNoProgramsWithRecords(t *testing.T) {
	for _, text := range []string{
		"", "/", "//", ":", ":/", "A0a:a", "A0a:a/", "A0a:/1", "A0a:/", "A0:1/1", "0a:a/1", "a:a/1", "A:a/1", "A0aa/1", "A0a/1", "A0a::a/1", "A0a:a:a/1", "A0ab:a/1", "A0a[a/1", "A0[a]a/1", "A[a]a/1", "A[a]a/A",
		"A0a:a//1", "/A0a:a/1", "A0a:a/1/", "A0a:a/1/1", "1/1", "7/A0a:a/1", "A0a:a/1/B0b:b/1", "A0a:aB0b:b/1", "A 0a:a/1", "A0 a:a/1", "A0a :a/1", "A0a: a/1", "A0a:a /1", "A0a:a/ 1", " A0a:a/1", "A0a:a/1 ", "A0a:a\n1", "0Aa:a/1", "Aa0:a/1", "a0A:a/1",
		"A0a:a/A0b:b/1", "A0a:a/A1a:a/1", "A0a:a/B0b:b/A0c:c/1", strings.Repeat("A0a:a/", 1000) + "1", strings.Repeat("/", 1000), codesNamed(allSups) + "M0a:a/1", strings.Repeat(":", 100000), strings.Repeat("(", 100000), strings.Repeat("{A", 100000), "{A" + strings.Repeat("a", 100000),
		"AB0a:a/1", "A0a:a/AB0a:a/1", "A0a:a,B0b:b/1", "a", "%", ".0",
	} {
		checkNoMadeText(t, text)
	}
	checkNoMade(t, impl.Made{})
	checkNoMade(t, impl.Made{Codes: make([]impl.Code, 1), Main: "7"})
	checkNoMade(t, impl.Made{Codes: make([]impl.Code, 1000), Main: "7"})
	checkMade(t, impl.Made{Codes: []impl.Code{}, Main: "7"})
}

// No text in front of a program's end is one, unless what is left of Main is a term.
func TestProgramsWithRecordsEndWhereTheyEnd(t *testing.T) {
	for _, text := range []string{"A1c:+c.0/=a2=b{Aa}(b3)", "A0b:{B%b}/B2c:(.0(.1c))/({A}#10)", "A0a:?a12/B2a:-.0.1/=a1=b2({Bab}#42)", "A1a:.0/=a1{Aa}"} {
		for cut := range len(text) {
			checkMadeText(t, text[:cut], false)
			checkMadeText(t, text[cut:], madeValidByText(splitMadeByText(text[cut:])))
		}
		for b := range 256 {
			checkMadeText(t, text+string([]byte{byte(b)}), false)
		}
	}
}

// convertByText returns the program with records of a closed term with different bound names, without its limits.
func convertByText(text string) impl.Made {
	p := impl.Made{}
	var convert func(text string, stands map[string]string) string
	convert = func(text string, stands map[string]string) string {
		piece := pieceOf(text)
		if piece.kids == nil {
			if u, ok := stands[text]; ok {
				return u
			}
			return text
		}
		if piece.front != `\` && piece.front != "@" {
			for i, kid := range piece.kids {
				piece.kids[i] = convert(kid, stands)
			}
			return piece.text()
		}
		names := strings.Split(freeOf(text), "")
		slices.Sort(names)
		index, last := len(p.Codes), len(piece.binds)-1
		name := string(rune('A' + index))
		made, within := "{"+name, map[string]string{piece.binds[:last]: "%"}
		for i, captured := range names {
			made += convert(captured, stands)
			within[captured] = "." + strconv.Itoa(i)
		}
		p.Codes = append(p.Codes, impl.Code{Name: name, Param: piece.binds[last:], Size: len(names)})
		body := convert(piece.kids[0], within)
		p.Codes[index].Body = body
		return made + "}"
	}
	p.Main = convert(text, nil)
	return p
}

// checkConvert checks the program with records of a term, which is none if it has no text.
func checkConvert(t *testing.T, text, want string) {
	t.Helper()
	p, ok := impl.Convert(text)
	if ok != (want != "") || !sameMade(p, splitMadeByText(want)) {
		t.Errorf("Convert(%q) = %q, %v, want %q", text, formatMadeByText(p), ok, want)
	}
	if ok {
		checkConvertedRun(t, text, p)
	}
}

// checkConvertedRun checks that a program with records does exactly what the term does of which it is made.
func checkConvertedRun(t *testing.T, text string, p impl.Made) {
	t.Helper()
	checkMade(t, p)
	x, ok := impl.RunTerm(text)
	if y, yOk := impl.RunMade(p); x != y || !ok || !yOk {
		t.Errorf("RunTerm(%q) = %v, %v, but RunMade(%q) = %v, %v", text, x, ok, formatMadeByText(p), y, yOk)
	}
	n, ok := impl.CountTerm(text)
	if m, mOk := impl.CountMade(p); n != m || ok != mOk {
		t.Errorf("CountTerm(%q) = %v, %v, but CountMade(%q) = %v, %v", text, n, ok, formatMadeByText(p), m, mOk)
	}
}

// checkConvertByText checks Convert of a text by the oracle, and returns whether it has a program with records.
func checkConvertByText(t *testing.T, text string) bool {
	t.Helper()
	unique, ok := impl.Unique(text)
	if !ok || !impl.IsClosed(text) {
		checkConvert(t, text, "")
		return false
	}
	want := convertByText(unique)
	if !madeValidByText(want) {
		checkConvert(t, text, "")
		return false
	}
	checkConvert(t, text, formatMadeByText(want))
	return true
}

func TestConvert(t *testing.T) {
	for _, c := range [][2]string{
		{"7", "7"},
		{"#42", "#42"},
		{"+1*23", "+1*23"},
		{"=a1=b2+ab", "=a1=b2+ab"},
		{"?0(12)3", "?0(12)3"},
		{`\aa`, "A0a:a/{A}"},
		{`\a1`, "A0a:1/{A}"},
		{`(\aa1)`, "A0a:a/({A}1)"},
		{`(\aa\bb)`, "A0a:a/B0b:b/({A}{B})"},
		{`\a\b1`, "A0a:{B}/B0b:1/{A}"},
		{`\a\ba`, "A0a:{Ba}/B1b:.0/{A}"},
		{`((\a\b+ab2)3)`, "A0a:{Ba}/B1b:+.0b/(({A}2)3)"},
		{`=a2=f\j+ja(f3)`, "A1c:+c.0/=a2=b{Aa}(b3)"},
		{`=a\aaa`, "A0b:b/=a{A}a"},
		{`=a\aa\ba`, "A0b:b/B1c:.0/=a{A}{Ba}"},
		{`?\a1\b2\c3`, "A0a:1/B0b:2/C0c:3/?{A}{B}{C}"},
		{`*(\a\b1\c2)(\d3\e4)`, "A0a:{B}/B0b:1/C0c:2/D0d:3/E0e:4/*({A}{C})({D}{E})"},
		{`=a1\b=c2\d+a+b+cd`, "A1b:=c2{B.0bc}/B3d:+.0+.1+.2d/=a1{Aa}"},
		{`=k1\b=k2+k\ck`, "A0b:=c2+c{Bc}/B1d:.0/=a1{A}"},
	} {
		checkConvert(t, c[0], c[1])
		checkConvertByText(t, c[0])
	}
}

// A function within another one captures what this one has in fields, its parameter, its lets and itself.
func TestConvertOfFunctionsWithinEachOther(t *testing.T) {
	for _, c := range [][2]string{
		{`\a\b\c(a(bc))`, "A0a:{Ba}/B1b:{C.0b}/C2c:(.0(.1c))/{A}"},
		{`\a\b\c(b(ac))`, "A0a:{Ba}/B1b:{C.0b}/C2c:(.1(.0c))/{A}"},
		{`\a\b\ca`, "A0a:{Ba}/B1b:{C.0}/C1c:.0/{A}"},
		{`\a\b\cb`, "A0a:{B}/B0b:{Cb}/C1c:.0/{A}"},
		{`\a\b\c\da`, "A0a:{Ba}/B1b:{C.0}/C1c:{D.0}/D1d:.0/{A}"},
		{`\a\b(\ca\d+ab)`, "A0a:{Ba}/B1b:({C.0}{D.0b})/C1c:.0/D2d:+.0.1/{A}"},
		{`=a1=b2\c(\da\e+ba)`, "A2c:({B.0}{C.0.1})/B1d:.0/C2e:+.1.0/=a1=b2{Aab}"},
		{`=a1=b2\c(\db\e+ba)`, "A2c:({B.1}{C.0.1})/B1d:.0/C2e:+.1.0/=a1=b2{Aab}"},
		{"@fn(fn)", "A0b:(%b)/{A}"},
		{"@nf(fn)", "A0b:(b%)/{A}"},
		{"@fn1", "A0b:1/{A}"},
		{"@fnf", "A0b:%/{A}"},
		{"@fnn", "A0b:b/{A}"},
		{"(@fn?n1*n(f-n1)5)", "A0b:?b1*b(%-b1)/({A}5)"},
		{"=m1@fn(f+nm)", "A1c:(%+c.0)/=a1{Aa}"},
		{"=m1=k2@fn(f+k+nm)", "A2d:(%+.1+d.0)/=a1=b2{Aab}"},
		{"(@fn?n7(\\m(fm)-n1)2)", "A0b:?b7({B%}-b1)/B1c:(.0c)/({A}2)"},
		{`@fn\m(f(nm))`, "A0b:{B%b}/B2c:(.0(.1c))/{A}"},
		{`@fn\mf`, "A0b:{B%}/B1c:.0/{A}"},
		{`@fn\mm`, "A0b:{B}/B0c:c/{A}"},
		{`@fn\m\kf`, "A0b:{B%}/B1c:{C.0}/C1d:.0/{A}"},
		{`@fn(\mf(f\kf))`, "A0b:({B%}(%{C%}))/B1c:.0/C1d:.0/{A}"},
		{`@fn@gm(f(g(nm)))`, "A0b:{B%b}/B2d:(.0(%(.1d)))/{A}"},
		{`@fn@gm(fg)`, "A0b:{B%}/B1d:(.0%)/{A}"},
		{`@fn@gmg`, "A0b:{B}/B0d:%/{A}"},
		{`@fn@nf(fn)`, "A0b:{B}/B0d:(d%)/{A}"},
		{`@fn@gm\k(f(g(nm)))`, "A0b:{B%b}/B2d:{C.0.1%d}/C4e:(.0(.2(.1.3)))/{A}"},
		{`=p9@fn\m(f(m+np))`, "A1c:{B.0%c}/B3d:(.1(d+.2.0))/=a9{Aa}"},
		{`\a@fn\b(f(a(nb)))`, "A0a:{Ba}/B1c:{C.0%c}/C3d:(.1(.0(.2d)))/{A}"},
	} {
		checkConvert(t, c[0], c[1])
		checkConvertByText(t, c[0])
	}
}

// The names are those of Unique, and the fields are in the order of the alphabet, wherever they stand.
func TestConvertOfTermsWhoseNamesAreChanged(t *testing.T) {
	for _, c := range [][2]string{
		{`\pp`, "A0a:a/{A}"},
		{"@pop", "A0b:%/{A}"},
		{"=p1p", "=a1a"},
		{`\a\aa`, "A0a:{B}/B0b:b/{A}"},
		{`\b\ab`, "A0a:{Ba}/B1b:.0/{A}"},
		{`=a1=a2\aa`, "A0c:c/=a1=b2{A}"},
		{`=a1=a2\ba`, "A1c:.0/=a1=b2{Ab}"},
		{`(\aa\aa)`, "A0a:a/B0b:b/({A}{B})"},
		{`=c1=b2=a3\d+d+a+bc`, "A3d:+d+.2+.1.0/=a1=b2=c3{Aabc}"},
		{`=c1=b2=a3\d+d+c+ba`, "A3d:+d+.0+.1.2/=a1=b2=c3{Aabc}"},
		{`=c1=b2=a3\dc`, "A1d:.0/=a1=b2=c3{Aa}"},
		{`=c1=b2=a3\d(ac)`, "A2d:(.1.0)/=a1=b2=c3{Aac}"},
		{`\c\b\a(ca)`, "A0a:{Ba}/B1b:{C.0}/C1c:(.0c)/{A}"},
		{`\c\b\a(a(bc))`, "A0a:{Ba}/B1b:{C.0b}/C2c:(c(.1.0))/{A}"},
		{`=k1(@fk?k0(f-k1)3)`, "A0c:?c0(%-c1)/=a1({A}3)"},
		{`=f1@fn+f(fn)`, "A0c:+%(%c)/=a1{A}"},
		{`@fn=f1f`, "A0b:=c1c/{A}"},
		{`@fn=ff(fn)`, "A0b:=c%(cb)/{A}"},
		{`=a1\b+=a2aa`, "A1b:+=c2c.0/=a1{Aa}"},
		{`=a1\b+a=aaa`, "A1b:+.0=c.0c/=a1{Aa}"},
	} {
		checkConvert(t, c[0], c[1])
		checkConvertByText(t, c[0])
	}
}

func TestConvertOfManyFunctions(t *testing.T) {
	for text, converts := range termsWithManyFunctions() {
		if !impl.TermValid(text) || checkConvertByText(t, text) != converts {
			t.Errorf("Convert(%q) = %v", text, !converts)
		}
	}
	nested := strings.Repeat(`\a`, 11)
	checkConvert(t, nested+`\a1`, "A0a:{B}/B0b:{C}/C0c:{D}/D0d:{E}/E0e:{F}/F0f:{G}/G0g:{H}/H0h:{I}/I0i:{J}/J0j:{K}/K0k:{L}/L0l:1/{A}")
	checkConvert(t, nested+`\a\a1`, "")
	checkConvert(t, "(("+nested+`\a1`+")1)", "")
	// Names that are bound by lets are not enough either.
	checkConvert(t, strings.Repeat("=a1", 16)+"a", "=a1=b1=c1=d1=e1=f1=g1=h1=i1=j1=k1=l1=m1=n1=o1=p1p")
	checkConvert(t, strings.Repeat("=a1", 17)+"a", "")
	checkConvert(t, strings.Repeat("=a1", 15)+`\aa`, "A0p:p/=a1=b1=c1=d1=e1=f1=g1=h1=i1=j1=k1=l1=m1=n1=o1{A}")
	checkConvert(t, strings.Repeat("=a1", 16)+`\aa`, "")
}

func TestConvertOfFunctionsWithManyFields(t *testing.T) {
	for n := 1; n <= 13; n++ {
		names := allNames[:n]
		lets := ""
		for _, name := range strings.Split(names, "") {
			lets += "=" + name + "1"
		}
		for _, text := range []string{lets + `\p` + namesFrom(names), lets + "@op" + namesFrom(names), lets + `(\p+p` + namesFrom(names) + "2)", lets + "(@op?p" + namesFrom(names) + "(o-p1)3)"} {
			if checkConvertByText(t, text) != (n <= 9) {
				t.Errorf("Convert of %q with %d fields = %v", text, n, n > 9)
			}
		}
		// With the function around as one of what the function within it captures.
		inside := lets + `@op\m(o` + namesFrom(names) + ")"
		if n <= 12 && checkConvertByText(t, inside) != (n+1 <= 9) {
			t.Errorf("Convert of %q with %d fields = %v", inside, n+1, n+1 > 9)
		}
	}
}

// A body is longer than that of the function if fields are read there, but no term is long enough for one of more than 400 bytes.
func TestConvertOfLongBodies(t *testing.T) {
	const lets = "=a1=b1=c1=d1=e1=f1=g1=h1=i1"
	choices := func(n int) string { return strings.Repeat("?aa", n) + "a" }
	for text, length := range map[string]int{
		`=a1\b` + choices(21):                       5*21 + 2,
		`=a1(\b` + choices(20) + "0)":               5*20 + 2,
		`=a1\b(` + choices(18) + choices(18) + ")":  2*(5*18+2) + 2,
		`=a1(\b` + sum(repeat("a", 56)) + "0)":      2*56 + 55,
		`=a1(\b` + sum(repeat(`(\ca0)`, 11)) + "0)": 8*11 + 10,
		lets + `\j?` + namesFrom("abcdefghi") + `\k` + namesFrom("abcdefghi") + `\k` + namesFrom("abcdefghi"): 1 + 26 + 2*21,
	} {
		p, ok := impl.Convert(text)
		if !checkConvertByText(t, text) || !ok || len(p.Codes[0].Body) != length {
			t.Errorf("Convert(%q) = %q, %v, want a body of %d bytes", text, impl.FormatMade(p), ok, length)
		}
	}
}

// As many parts of the terms that are made may lie within each other as they did.
func TestConvertOfDeepTerms(t *testing.T) {
	checkConvert(t, strings.Repeat("+1", 22)+`\aa`, "A0a:a/"+strings.Repeat("+1", 22)+"{A}")
	checkConvert(t, strings.Repeat("+1", 23)+`\aa`, "")
	checkConvert(t, `\a`+strings.Repeat("+1", 22)+"a", "A0a:"+strings.Repeat("+1", 22)+"a/{A}")
}

func TestConvertOfWhatIsNoClosedTerm(t *testing.T) {
	for _, text := range slices.Concat(noTerms, noClosedTerms, []string{"{A}", "%", ".0", `\a%`, `\a.0`, "(A1)", "A0a:a/{A}", strings.Repeat("(", 100000), strings.Repeat(`\a`, 100000) + "a"}) {
		checkConvert(t, text, "")
	}
}

// However long a run is, it is as long with records.
func TestConvertedRunsAtTheirLimits(t *testing.T) {
	ends := map[string]string{
		"(@fn?n0(f-n1)#49)": "0", "(@fn?n0(f-n1)#50)": "long", `=m1=k2(@fn?n+mk(f-n1)#49)`: "3", `=m1=k2(@fn?n+mk(f-n1)#50)`: "long", endless: "long",
		`=g@fn?n(12)(f-n1)(g#49)`: "fault", `=g@fn?n(12)(f-n1)(g#50)`: "long", `=m3(@fn?nm(\k(fk)-n1)#24)`: "3", `=m3(@fn?nm(\k(fk)-n1)#25)`: "long",
	}
	for steps := 1490; steps <= 1510; steps++ {
		text := padded(busy(), steps-busySteps)
		x, _ := impl.RunTerm(text)
		ends[text] = impl.FormatResult(x)
		if (x.End == impl.EndDone) != (steps <= 1500) {
			t.Errorf("RunTerm(%q) = %v, with %d steps", text, x, steps)
		}
	}
	for text, want := range ends {
		if p, ok := impl.Convert(text); !ok || runMadeByText(p).text() != want {
			t.Errorf("Convert(%q) = %q, %v", text, formatMadeByText(p), ok)
		}
		checkConvertByText(t, text)
	}
}

// Grown terms do exactly the same with records as with closures.
func TestConvertOfGrownTerms(t *testing.T) {
	g := grower{rand.New(rand.NewSource(12))}
	ends, codes, sized, inner := map[string]int{}, map[int]int{}, map[int]int{}, 0
	for i := range 6000 {
		text := g.growCapturing(i)
		if !impl.IsClosed(text) || !checkConvertByText(t, text) {
			continue
		}
		p, _ := impl.Convert(text)
		codes[len(p.Codes)]++
		for _, c := range p.Codes {
			sized[c.Size]++
		}
		if heap, _ := impl.HeapOf(p); strings.Contains(heap, "@") {
			inner++
		}
		x, _ := impl.RunTerm(text)
		ends[strings.TrimLeft(impl.FormatResult(x), "0123456789")]++
	}
	if ends[""] < 600 || ends["function"] < 800 || ends["fault"] < 200 || ends["long"] < 50 || codes[1] < 400 || codes[3] < 200 || codes[6] < 30 || sized[1] < 400 || sized[2] < 100 || sized[3] < 10 || inner < 200 {
		t.Errorf("ends = %v, codes = %v, sizes = %v, %d have records in records", ends, codes, sized, inner)
	}
}

// madeKinds are the kinds of values in grown programs with records.
var madeKinds = []string{"n", ">nn", ">n>nn", ">>nnn"}

// allSources are the texts of what fields may read.
var allSources = append(strings.Split(allNames, ""), ".0", ".1", ".2", ".3", ".4", ".5", ".6", ".7", ".8", "%")

// A codeKind tells the kind of the records of a code, and the kinds of their fields.
type codeKind struct {
	name, kind string
	fields     []string
}

// sourcesOf returns what reads values of a kind, where kindOf tells the kinds of sources.
func sourcesOf(kind string, kindOf map[string]string) []string {
	var have []string
	for _, source := range allSources {
		if kindOf[source] == kind {
			have = append(have, source)
		}
	}
	return have
}

// growMaking returns what makes a record of a kind, which has fields more often than not, or the empty text.
func (g grower) growMaking(kind string, kindOf map[string]string, codes []codeKind) string {
	for _, at := range g.Perm(len(codes)) {
		c := codes[at]
		if c.kind != kind || len(c.fields) == 0 && g.Intn(4) > 0 {
			continue
		}
		text := "{" + c.name
		for _, field := range c.fields {
			have := sourcesOf(field, kindOf)
			if len(have) == 0 {
				text = ""
				break
			}
			text += g.one(have...)
		}
		if text != "" {
			return text + "}"
		}
	}
	return ""
}

// growRecords returns a term with records of a kind.
func (g grower) growRecords(kind string, kindOf map[string]string, codes []codeKind, nest int) string {
	if g.Intn(100) == 0 {
		kind = g.one(madeKinds...)
	}
	have := sourcesOf(kind, kindOf)
	if len(have) > 0 && (nest < 2 || g.Intn(4) == 0) {
		return g.one(have...)
	}
	its, name := g.one("n", ">nn", ">n>nn", ">>nnn"), g.name()
	grow := func(kind string) string { return g.growRecords(kind, kindOf, codes, nest-1) }
	pick := g.Intn(8)
	switch {
	case nest >= 2 && pick < 4:
		return "=" + name + grow(its) + g.growRecords(kind, boundTo(kindOf, name, its), codes, nest-1)
	case nest >= 2 && pick == 4:
		return "?" + grow("n") + grow(kind) + grow(kind)
	case nest >= 2 && pick < 7 && slices.Contains(madeKinds, ">"+its+kind):
		return "(" + grow(">"+its+kind) + grow(its) + ")"
	case kind == "n" && nest >= 2:
		return g.one("+", "-", "*") + grow("n") + grow("n")
	}
	for range 9 {
		if making := g.growMaking(kind, kindOf, codes); making != "" {
			return making
		}
	}
	return g.one("0", "1", "2", "#42")
}

// growBody returns the body of a code with a parameter, which may call itself with one less until it is called with 0.
func (g grower) growBody(c codeKind, param string, codes []codeKind) string {
	from, to := splitKind(c.kind)
	within := map[string]string{param: from}
	for i, field := range c.fields {
		within["."+strconv.Itoa(i)] = field
	}
	if from == "n" && g.Intn(3) == 0 {
		first, name := g.growRecords(to, within, codes, 1+g.Intn(3)), g.name()
		return "?" + param + first + "=" + name + "(%-" + param + "1)" + g.growRecords(to, boundTo(within, name, to), codes, 1+g.Intn(3))
	}
	if g.Intn(4) == 0 {
		within["%"] = c.kind
	}
	return g.growRecords(to, within, codes, 1+g.Intn(4))
}

// growMade grows a program with records, in which most bodies make only records of codes behind them.
// The last codes have each kind once, and no fields.
func growMade(g grower) impl.Made {
	var codes []codeKind
	for i, at := range g.Perm(12)[:4+g.Intn(9)] {
		c := codeKind{name: allSups[at : at+1], kind: madeKinds[1+i%3]}
		if i >= 3 {
			c.kind = g.one(madeKinds[1:]...)
			for range g.Intn(4) {
				c.fields = append(c.fields, g.one("n", "n", ">nn", ">n>nn", ">>nnn"))
			}
		}
		codes = append([]codeKind{c}, codes...)
	}
	p := impl.Made{Main: g.growRecords(g.one("n", "n", ">nn", ">n>nn"), nil, codes, 4+g.Intn(3))}
	for i, c := range codes {
		behind := codes[i+1:]
		if g.Intn(10) == 0 {
			behind = codes
		}
		param := g.name()
		p.Codes = append(p.Codes, impl.Code{Name: c.name, Param: param, Size: len(c.fields), Body: g.growBody(c, param, behind)})
	}
	return p
}

func TestGrownProgramsWithRecords(t *testing.T) {
	g := grower{rand.New(rand.NewSource(13))}
	ends, inner := map[string]int{}, 0
	for range 4000 {
		want := checkMade(t, growMade(g))
		ends[strings.TrimLeft(want.text(), "0123456789")]++
		if strings.Contains(want.heap, "@") && want.count.Calls > 0 {
			inner++
		}
	}
	if ends[""] < 500 || ends["function"] < 500 || ends["fault"] < 200 || ends["long"] < 50 || inner < 200 {
		t.Errorf("ends = %v, %d have records in records", ends, inner)
	}
}

// Whatever is changed in the text of a program with records, it is one or none by the oracle too.
func TestChangedProgramsWithRecords(t *testing.T) {
	g := grower{rand.New(rand.NewSource(14))}
	const likely = "abpqABLM019#()=+?{}.%:/ \\"
	valid := 0
	for range 16000 {
		text := g.changed(formatMadeByText(growMade(g)), likely)
		p := splitMadeByText(text)
		want := madeValidByText(p) && formatMadeByText(p) == text
		if q, ok := impl.ParseMade(text); ok != want || ok && !sameMade(p, q) || !ok && !sameMade(q, impl.Made{}) {
			t.Errorf("ParseMade(%q) = %v, %v", text, q, ok)
		}
		if impl.MadeValid(p) != madeValidByText(p) {
			t.Errorf("MadeValid(%v) = %v", p, impl.MadeValid(p))
		}
		if want {
			valid++
		}
	}
	if valid < 400 {
		t.Errorf("%d of the texts are valid", valid)
	}
}

// Whoever changes a result changes no other one, nor what it was made of.
func TestProgramsWithRecordsAreNew(t *testing.T) {
	const text, term = "A1a:.0/B0c:c/C0a:{Aa}/({C}{B})", `((\a\b+ab2)3)`
	parsed, _ := impl.ParseMade(text)
	converted, _ := impl.Convert(term)
	for _, list := range [][]impl.Code{parsed.Codes, converted.Codes} {
		for i := range list[:cap(list)] {
			list[:cap(list)][i] = impl.Code{Name: "x"}
		}
	}
	if again, ok := impl.ParseMade(text); impl.FormatMade(again) != text || !ok {
		t.Errorf("ParseMade(%q) = %v, %v", text, again, ok)
	}
	if again, ok := impl.Convert(term); impl.FormatMade(again) != "A0a:{Ba}/B1b:+.0b/(({A}2)3)" || !ok {
		t.Errorf("Convert(%q) = %v, %v", term, again, ok)
	}
}

// What lies behind the end of the codes is neither read nor written.
func TestProgramsWithRoomBehindTheirCodes(t *testing.T) {
	codes := make([]impl.Code, 20)
	for i := range codes {
		codes[i] = impl.Code{Name: "A", Param: "", Size: -1, Body: strconv.Itoa(i)}
	}
	codes[0] = impl.Code{Name: "B", Param: "a", Size: 1, Body: "+a.0"}
	before := slices.Clone(codes)
	p := impl.Made{Codes: codes[:1], Main: "=a1({Ba}2)"}
	if want := checkMade(t, p); want.text() != "3" {
		t.Errorf("the oracle says %v of %v", want, p)
	}
	if !slices.Equal(codes, before) {
		t.Errorf("%v was changed to %v", before, codes)
	}
}
