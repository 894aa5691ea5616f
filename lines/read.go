package lines

import (
	"strings"

	"louvre/api"
	"louvre/op"
)

// The kinds of lines, in their order.
const (
	nothing = iota
	books
	cells
	rights
	releases
	events
	shows
	runs
	ops
)

// parser is what was read of a script, and the kind of the last line.
type parser struct {
	script api.Script
	last   int
}

// read reads a line; false: it is at fault.
func (p *parser) read(line string) bool {
	word, rest, more := strings.Cut(line, " ")
	f := &fields{rest: rest, more: more}
	read, ok := p.words()[word]
	if ok {
		return read(f) && f.end()
	}
	x, e := op.Parse(line)
	p.script.Ops = append(p.script.Ops, x)
	return e == api.OK && p.follow(ops)
}

// words returns what reads the lines that begin with a word, apart from those of well-formed operations.
func (p *parser) words() map[string]func(f *fields) bool {
	return map[string]func(f *fields) bool{
		"book":    p.book,
		"cell":    p.cell,
		"right":   p.right,
		"release": p.release,
		"event":   p.event,
		"shown":   p.shown,
		"run":     p.run,
		"raw":     p.raw,
	}
}

// follow goes on to a line of a kind; false: it may not stand there. Only one line is that of the book, and only one runs the operations.
func (p *parser) follow(kind int) bool {
	first := p.last == nothing && kind != books
	late := p.last > kind
	again := p.last == kind && (kind == books || kind == runs)
	early := kind == ops && p.last < runs
	p.last = kind
	return !first && !late && !again && !early
}

// book reads the line of the book.
func (p *parser) book(f *fields) bool {
	p.script.Book.Users, p.script.Book.Step = f.number(), f.number()
	return p.follow(books)
}

// cell reads the line of an entry.
func (p *parser) cell(f *fields) bool {
	x := api.Entry{At: f.ref(), Input: f.literal()}
	p.script.Book.Entries = append(p.script.Book.Entries, x)
	return p.follow(cells)
}

// right reads the line of a rule.
func (p *parser) right(f *fields) bool {
	x := api.Rule{Rect: f.area(), Rights: api.Rights{Read: f.set(), Write: f.set(), Own: f.set()}}
	p.script.Book.Rules = append(p.script.Book.Rules, x)
	return p.follow(rights)
}

// release reads the line of a grant.
func (p *parser) release(f *fields) bool {
	x := api.Grant{Rect: f.area(), Fns: f.small(), To: f.set(), By: f.number(), Revoked: f.either("revoked", "live")}
	p.script.Book.Grants = append(p.script.Book.Grants, x)
	return p.follow(releases)
}

// event reads the line of an entry of the log of operations.
func (p *parser) event(f *fields) bool {
	x := api.Event{Step: f.number(), User: f.number(), Kind: f.small(), Rect: f.area(), Done: f.either("yes", "no"), To: f.set()}
	p.script.Book.Log = append(p.script.Book.Log, x)
	return p.follow(events)
}

// shown reads the line of an entry of the log of releases.
func (p *parser) shown(f *fields) bool {
	x := api.Release{Step: f.number(), Call: api.Call{At: f.ref(), Node: f.number()}, Fn: f.small(), Rect: f.area(), Grant: f.number(), To: f.set()}
	p.script.Book.Releases = append(p.script.Book.Releases, x)
	return p.follow(shows)
}

// run reads the line behind which the operations are.
func (p *parser) run(f *fields) bool {
	return p.follow(runs)
}

// raw reads the line of an operation that is not well formed.
func (p *parser) raw(f *fields) bool {
	x := api.Op{Kind: f.small(), User: f.number()}
	x.Rect = api.Rect{C1: f.number(), R1: f.number(), C2: f.number(), R2: f.number()}
	x.Input = f.bytes()
	x.Rights = api.Rights{Read: f.unsigned(), Write: f.unsigned(), Own: f.unsigned()}
	x.Fns, x.To, x.Index = f.small(), f.unsigned(), f.number()
	p.script.Ops = append(p.script.Ops, x)
	return op.Check(x) != api.OK && p.follow(ops)
}
