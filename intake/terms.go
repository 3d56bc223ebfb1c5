package intake

import (
	"arbiter/api"
	"arbiter/names"
	"arbiter/num"
)

// maker makes the term that a name stands for at arguments; alone, a name stands at none.
type maker func(args []int) (int, api.Errno)

// fixed is what stands for one term: a name of let, a parameter, a label.
func fixed(t int) maker {
	return func(args []int) (int, api.Errno) {
		if len(args) > 0 {
			return 0, api.ErrSort
		}
		return t, api.OK
	}
}

func (r *Reader) operated(op int) maker {
	return func(args []int) (int, api.Errno) {
		return r.bank.Op(op, args)
	}
}

func (r *Reader) applied(fun int) maker {
	return func(args []int) (int, api.Errno) {
		return r.bank.App(fun, args)
	}
}

func (r *Reader) defined(body int, params []int) maker {
	return func(args []int) (int, api.Errno) {
		t, err := r.bank.Subst(body, params, args)
		if err == api.ErrCount {
			return 0, api.ErrSort
		}
		return t, err
	}
}

func (r *Reader) meaning(name string) (maker, bool) {
	if m, ok := r.bound.Find(name); ok {
		return m, true
	}
	if op := names.Operator(name); op != 0 {
		return r.operated(op), true
	}
	return r.known.Funs.Find(name)
}

// frame is a list of a term that is being read. Lists nest as deep as the text is long, so the open ones stand on a stack of the reader's own.
type frame struct {
	step  func(r *Reader, f *frame) // what comes once all that was opened in the list has been read
	at    int                       // the place of the list in the text
	next  int                       // the node of the thing that comes next
	end   int                       // the node behind the last one
	base  int                       // how many values there were when it was opened
	means maker                     // of what is no let
	names []string                  // of a let: those of the bindings so far
	seen  map[string]int
	outer int // of a let: how many names were bound outside
}

// termOf reads a term of that sort.
func (r *Reader) termOf(at, sort int) int {
	t := r.term(at)
	if view, _ := r.bank.View(t); view.Sort != sort {
		fail(api.ErrSort, r.nodes[at].At)
	}
	return t
}

// term reads a term.
func (r *Reader) term(at int) int {
	r.open(at)
	for len(r.frames) > 0 {
		top := &r.frames[len(r.frames)-1]
		top.step(r, top)
	}
	t := r.read[0]
	r.read = r.read[:0]
	return t
}

// open begins to read the expression there: a list is put on the stack, of anything else the term is told at once.
func (r *Reader) open(at int) {
	n := r.nodes[at]
	if text, ok := r.constant(at); ok {
		t, err := r.bank.Num(text)
		r.tell(must(t, err, n.At))
		return
	}
	switch n.Kind {
	case api.KindOpen:
		r.openList(at)
	case api.KindSymbol:
		m, ok := r.meaning(n.Text)
		if !ok {
			fail(api.ErrUnknown, n.At)
		}
		t, err := m(nil)
		r.tell(must(t, err, n.At))
	case api.KindKeyword, api.KindWord:
		fail(api.ErrSyntax, n.At)
	default:
		fail(api.ErrSort, n.At)
	}
}

func (r *Reader) tell(t int) {
	r.read = append(r.read, t)
}

// constant tells the number that is written there: it is one term, however it is written.
func (r *Reader) constant(at int) (string, bool) {
	n := r.nodes[at]
	if n.Kind != api.KindOpen {
		return r.literal(at)
	}
	if n.Size == 4 && r.isSymbol(at+1, "/") {
		return r.fraction(at)
	}
	if n.Size > 2 && r.isSymbol(at+1, "-") && n.Size == 2+r.nodes[at+2].Size {
		return r.opposite(at + 2)
	}
	return "", false
}

func (r *Reader) isSymbol(at int, name string) bool {
	return r.nodes[at].Kind == api.KindSymbol && r.nodes[at].Text == name
}

// literal tells the number that a numeral or a decimal is.
func (r *Reader) literal(at int) (string, bool) {
	n := r.nodes[at]
	if n.Kind != api.KindNumeral && n.Kind != api.KindDecimal {
		return "", false
	}
	text, err := num.Read(n.Text)
	return text, err == api.OK
}

// fraction tells the number of a list of four nodes that begins with a stroke.
func (r *Reader) fraction(at int) (string, bool) {
	upper, ok := r.literal(at + 2)
	if !ok {
		return "", false
	}
	lower, ok := r.literal(at + 3)
	if !ok {
		return "", false
	}
	text, err := num.Quo(upper, lower)
	return text, err == api.OK
}

// opposite tells the opposite of a numeral, a decimal or a fraction; of no other constant, since that would be a sum of its own.
func (r *Reader) opposite(at int) (string, bool) {
	n := r.nodes[at]
	text, ok := r.literal(at)
	if n.Kind == api.KindOpen && n.Size == 4 && r.isSymbol(at+1, "/") {
		text, ok = r.fraction(at)
	}
	if !ok {
		return "", false
	}
	text, err := num.Sub("0", text)
	return text, err == api.OK
}

func (r *Reader) openList(at int) {
	list := r.nodes[at]
	if list.Size == 1 {
		fail(api.ErrSyntax, list.At)
	}
	head := r.nodes[at+1]
	switch head.Kind {
	case api.KindWord:
		r.openWord(at)
	case api.KindSymbol:
		r.openCall(at)
	default:
		fail(api.ErrSyntax, head.At)
	}
}

func (r *Reader) openWord(at int) {
	list, head := r.nodes[at], r.nodes[at+1]
	switch head.Text {
	case "let":
		r.openLet(at)
	case "!", "_", "as", "forall", "exists", "match":
		fail(api.ErrCommand, list.At)
	default:
		fail(api.ErrSyntax, head.At)
	}
}

func (r *Reader) openCall(at int) {
	list, head := r.nodes[at], r.nodes[at+1]
	if list.Size == 2 {
		fail(api.ErrSyntax, list.At)
	}
	m, ok := r.meaning(head.Text)
	if !ok {
		fail(api.ErrUnknown, head.At)
	}
	r.frames = append(r.frames, frame{step: (*Reader).call, at: list.At, next: at + 2, end: at + list.Size, base: len(r.read), means: m})
}

// call reads the next argument, or makes the term of those that have been read.
func (r *Reader) call(f *frame) {
	if f.next < f.end {
		r.open(r.advance(f))
		return
	}
	t, err := f.means(r.read[f.base:])
	must(t, err, f.at)
	r.read = r.read[:f.base]
	r.close()
	r.tell(t)
}

// advance tells the thing that comes next, and goes on behind it. (What is opened then may move the stack that the frame stands on.)
func (r *Reader) advance(f *frame) int {
	at := f.next
	f.next += r.nodes[at].Size
	return at
}

func (r *Reader) close() {
	r.frames = r.frames[:len(r.frames)-1]
}

func (r *Reader) openLet(at int) {
	things := r.things(at)
	if len(things) != 3 {
		fail(api.ErrSyntax, r.nodes[at].At)
	}
	if list := r.want(things[1], api.KindOpen); list.Size == 1 {
		fail(api.ErrSyntax, list.At)
	}
	r.frames = append(r.frames, frame{step: (*Reader).bindings, next: things[1] + 1, end: things[2], base: len(r.read), seen: map[string]int{}})
}

// bindings reads the next binding's term, or opens what stands behind the bindings, with all of them bound.
func (r *Reader) bindings(f *frame) {
	if f.next < f.end {
		two := r.pair(r.advance(f), f.seen)
		f.seen[two.name] = len(f.names)
		f.names = append(f.names, two.name)
		r.open(two.other)
		return
	}
	f.outer = r.bound.Size()
	for i, name := range f.names {
		r.bound.Put(name, fixed(r.read[f.base+i]))
	}
	r.read = r.read[:f.base]
	f.step = (*Reader).leaveLet
	r.open(f.end)
}

// leaveLet leaves the term as it is: a let stands for it.
func (r *Reader) leaveLet(f *frame) {
	r.bound.Back(f.outer)
	r.close()
}
