package impl

import (
	"iter"
	"strconv"
)

// Limits of terms.
const (
	MaxTerm = 120
	MaxNest = 24
)

// Names are the letters from firstName to lastName.
const (
	firstName = 'a'
	lastName  = 'p'
)

// A term is a number, a reading, a function, a call, a let, an operation or a choice.
// Whatever names a term binds, it binds within the last of its kids and nowhere else.
type term interface {
	text() string
	kids() []term
}

type number struct {
	value int
}

type reading struct {
	name byte
}

// A function that does not call itself has the self noName.
type function struct {
	self  byte
	param byte
	body  term
}

type call struct {
	fun term
	arg term
}

type let struct {
	name  byte
	value term
	body  term
}

type operation struct {
	sign  byte
	left  term
	right term
}

type choice struct {
	asked   term
	ifZero  term
	ifOther term
}

const noName = 0

func (x number) text() string {
	if x.value < 10 {
		return strconv.Itoa(x.value)
	}
	return "#" + strconv.Itoa(x.value)
}

func (x reading) text() string { return string(x.name) }

func (x function) text() string {
	if x.self == noName {
		return "\\" + string(x.param) + x.body.text()
	}
	return "@" + string(x.self) + string(x.param) + x.body.text()
}

func (x call) text() string { return "(" + x.fun.text() + x.arg.text() + ")" }

func (x let) text() string { return "=" + string(x.name) + x.value.text() + x.body.text() }

func (x operation) text() string { return string(x.sign) + x.left.text() + x.right.text() }

func (x choice) text() string {
	return "?" + x.asked.text() + x.ifZero.text() + x.ifOther.text()
}

func (x number) kids() []term { return nil }

func (x reading) kids() []term { return nil }

func (x function) kids() []term { return []term{x.body} }

func (x call) kids() []term { return []term{x.fun, x.arg} }

func (x let) kids() []term { return []term{x.value, x.body} }

func (x operation) kids() []term { return []term{x.left, x.right} }

func (x choice) kids() []term { return []term{x.asked, x.ifZero, x.ifOther} }

// A misfit is what a reader panics with where no term can go on.
type misfit struct{}

// A reader reads a text from its front to its back.
// Others reads what begins with a byte with which no term of chapter 1 does; it is nil where there is nothing else.
type reader struct {
	rest   string
	others func(head byte) term
}

func (r *reader) next() byte {
	if r.rest == "" {
		panic(misfit{})
	}
	head := r.rest[0]
	r.rest = r.rest[1:]
	return head
}

func (r *reader) term() term {
	head := r.next()
	switch head {
	case '#':
		return r.longNumber()
	case '\\':
		return r.function()
	case '@':
		return r.selfCaller()
	case '(':
		return r.call()
	case '=':
		return r.let()
	case '+', '-', '*':
		return r.operation(head)
	case '?':
		return r.choice()
	}
	if isDigit(head) {
		return number{value: int(head - '0')}
	}
	if isNameLetter(head) {
		return reading{name: head}
	}
	if r.others != nil {
		return r.others(head)
	}
	panic(misfit{})
}

func (r *reader) longNumber() term {
	tens := r.next()
	ones := r.next()
	if !isDigit(tens) || !isDigit(ones) || tens == '0' {
		panic(misfit{})
	}
	return number{value: 10*int(tens-'0') + int(ones-'0')}
}

func (r *reader) name() byte {
	head := r.next()
	if !isNameLetter(head) {
		panic(misfit{})
	}
	return head
}

func (r *reader) function() term {
	param := r.name()
	body := r.term()
	return function{self: noName, param: param, body: body}
}

func (r *reader) selfCaller() term {
	self := r.name()
	param := r.name()
	if self == param {
		panic(misfit{})
	}
	body := r.term()
	return function{self: self, param: param, body: body}
}

func (r *reader) call() term {
	fun := r.term()
	arg := r.term()
	if r.next() != ')' {
		panic(misfit{})
	}
	return call{fun: fun, arg: arg}
}

func (r *reader) let() term {
	name := r.name()
	value := r.term()
	body := r.term()
	return let{name: name, value: value, body: body}
}

func (r *reader) operation(sign byte) term {
	left := r.term()
	right := r.term()
	return operation{sign: sign, left: left, right: right}
}

func (r *reader) choice() term {
	asked := r.term()
	ifZero := r.term()
	ifOther := r.term()
	return choice{asked: asked, ifZero: ifZero, ifOther: ifOther}
}

func isDigit(b byte) bool { return '0' <= b && b <= '9' }

func isNameLetter(b byte) bool { return firstName <= b && b <= lastName }

func isName(text string) bool { return len(text) == 1 && isNameLetter(text[0]) }

// readTerm returns the term of a text, and false if it is none.
func readTerm(text string) (term, bool) {
	r := &reader{rest: text}
	t, ok := r.whole(MaxTerm)
	if !ok || depthOf(t) > MaxNest {
		return nil, false
	}
	return t, true
}

// whole returns what would be the term of the text if it could have so many bytes at most, and as many parts within each other as it likes.
// The length is checked first, since it bounds how deep the reader recurs.
func (r *reader) whole(most int) (t term, ok bool) {
	if len(r.rest) > most {
		return nil, false
	}
	defer func() {
		if recover() != nil {
			t, ok = nil, false
		}
	}()
	t = r.term()
	if r.rest != "" {
		return nil, false
	}
	return t, true
}

// writeTerm returns the text of a term, and false if it is too long or has too many parts within each other.
func writeTerm(t term) (string, bool) {
	text := t.text()
	if len(text) > MaxTerm || depthOf(t) > MaxNest {
		return "", false
	}
	return text, true
}

func depthOf(t term) int {
	deepest := 0
	for _, kid := range t.kids() {
		deepest = max(deepest, depthOf(kid))
	}
	return deepest + 1
}

// partsOf yields all parts of a term, each ahead of its kids.
func partsOf(t term) iter.Seq[term] {
	return func(yield func(term) bool) { yieldParts(t, yield) }
}

// yieldParts returns false once no more parts are wanted.
func yieldParts(t term, yield func(term) bool) bool {
	if !yield(t) {
		return false
	}
	for _, kid := range t.kids() {
		if !yieldParts(kid, yield) {
			return false
		}
	}
	return true
}

// boundBy returns the names that a term itself binds, in their order in its text.
func boundBy(t term) []byte {
	switch x := t.(type) {
	case function:
		if x.self == noName {
			return []byte{x.param}
		}
		return []byte{x.self, x.param}
	case let:
		return []byte{x.name}
	}
	return nil
}

func isFunction(t term) bool {
	_, ok := t.(function)
	return ok
}

func isValue(t term) bool {
	switch t.(type) {
	case number, function:
		return true
	}
	return false
}

// A tally is a set of names, with how often each of them occurs.
type tally map[byte]int

func (s tally) add(more tally) {
	for name, n := range more {
		s[name] += n
	}
}

// inOrder returns the names in the order of the alphabet, whatever the order of the map.
func (s tally) inOrder() string {
	var names []byte
	for name := byte(firstName); name <= lastName; name++ {
		if s[name] > 0 {
			names = append(names, name)
		}
	}
	return string(names)
}

// freeIn returns the names that stand free in a term.
func freeIn(t term) tally {
	free := tally{}
	if x, ok := t.(reading); ok {
		free[x.name] = 1
		return free
	}
	kids := t.kids()
	for i, kid := range kids {
		within := freeIn(kid)
		if i == len(kids)-1 {
			for _, name := range boundBy(t) {
				delete(within, name)
			}
		}
		free.add(within)
	}
	return free
}

// boundIn returns the names that some part of a term binds.
func boundIn(t term) tally {
	bound := tally{}
	for part := range partsOf(t) {
		for _, name := range boundBy(part) {
			bound[name]++
		}
	}
	return bound
}

// TermValid reports whether a text is a term.
func TermValid(t string) bool {
	_, ok := readTerm(t)
	return ok
}

// SizeOf returns how many parts a term has.
func SizeOf(t string) int {
	whole, ok := readTerm(t)
	if !ok {
		return -1
	}
	size := 0
	for range partsOf(whole) {
		size++
	}
	return size
}

// DepthOf returns how many parts of a term lie within each other.
func DepthOf(t string) int {
	whole, ok := readTerm(t)
	if !ok {
		return -1
	}
	return depthOf(whole)
}

// PartsOf returns all parts of a term, each ahead of those within it.
func PartsOf(t string) ([]string, bool) {
	whole, ok := readTerm(t)
	if !ok {
		return nil, false
	}
	var texts []string
	for part := range partsOf(whole) {
		texts = append(texts, part.text())
	}
	return texts, true
}

// FreeOf returns the names that stand free in a term.
func FreeOf(t string) (string, bool) {
	whole, ok := readTerm(t)
	if !ok {
		return "", false
	}
	return freeIn(whole).inOrder(), true
}

// BoundOf returns the names that are bound somewhere in it.
func BoundOf(t string) (string, bool) {
	whole, ok := readTerm(t)
	if !ok {
		return "", false
	}
	return boundIn(whole).inOrder(), true
}

// IsClosed reports whether no name stands free.
func IsClosed(t string) bool {
	whole, ok := readTerm(t)
	return ok && len(freeIn(whole)) == 0
}

// CountFree returns how often a name stands free.
func CountFree(t string, name string) int {
	whole, ok := readTerm(t)
	if !ok || !isName(name) {
		return -1
	}
	return freeIn(whole)[name[0]]
}

// FunctionsIn returns the parts of a term that are functions.
func FunctionsIn(t string) ([]string, bool) {
	whole, ok := readTerm(t)
	if !ok {
		return nil, false
	}
	var texts []string
	for part := range partsOf(whole) {
		if isFunction(part) {
			texts = append(texts, part.text())
		}
	}
	return texts, true
}

// IsValue reports whether a term is a number or a function.
func IsValue(t string) bool {
	whole, ok := readTerm(t)
	return ok && isValue(whole)
}
