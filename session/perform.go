package session

import (
	"louvre/api"
	"louvre/audit"
	"louvre/book"
	"louvre/group"
	"louvre/op"
	"louvre/rect"
	"louvre/release"
	"louvre/visible"
)

// kind is what a kind of operations does apart from changing the book, which is given as it was before.
type kind struct {
	deliver func(s *session, step *api.Step, before api.Book)
}

// kinds returns the kinds of operations.
func kinds() [api.Ops + 1]kind {
	return [...]kind{
		api.OpLogin:   {login},
		api.OpLogout:  {logout},
		api.OpSet:     {set},
		api.OpClear:   {clearRange},
		api.OpRead:    {read},
		api.OpFormula: {formula},
		api.OpRule:    {rule},
		api.OpGrant:   {grant},
		api.OpRevoke:  {revoke},
		api.OpAudit:   {showLogs},
	}
}

// perform performs an operation.
func (s *session) perform(x api.Op) api.Step {
	s.evaluated = nil
	step := api.Step{Op: x, Reply: api.Reply{Code: s.admit(x)}, Counts: make([]int, s.book.Users)}
	if step.Reply.Code != api.Done {
		s.book.Step++
		return step
	}
	before := s.book
	after, code, at, _ := book.Apply(before, x)
	step.Reply.Code, step.Reply.At = code, at
	s.book = after
	if code != api.Done {
		return step
	}
	if op.Mutates(x) {
		fresh, _ := release.Fresh(before, after)
		s.book.Releases = append(s.book.Releases, fresh...)
	}
	kinds()[x.Kind].deliver(s, &step, before)
	return step
}

// admit returns the codes that are found before a book is looked at; Done if none of them applies.
func (s *session) admit(x api.Op) uint8 {
	all, _ := group.All(s.book.Users)
	switch {
	case op.Check(x) != api.OK:
		return api.Form
	case !group.Has(all, x.User):
		return api.Unknown
	case group.Has(s.users.In(), x.User) == (x.Kind == api.OpLogin):
		return api.Out
	}
	return api.Done
}

// first returns the first address of the range of an operation.
func first(x api.Op) api.Ref {
	return api.Ref{Col: x.Rect.C1, Row: x.Rect.R1}
}

// login logs the user in.
func login(s *session, step *api.Step, before api.Book) {
	s.users.Login(step.Op.User)
}

// logout logs the user out.
func logout(s *session, step *api.Step, before api.Book) {
	s.users.Logout(step.Op.User)
}

// set sets the input of an address.
func set(s *session, step *api.Step, before api.Book) {
	s.evaluated, _ = s.Set(first(step.Op), step.Op.Input)
	count(s, step, before)
}

// clearRange clears a range.
func clearRange(s *session, step *api.Step, before api.Book) {
	s.evaluated, _ = s.Clear(step.Op.Rect)
	count(s, step, before)
}

// count counts the cells that were recalculated.
func count(s *session, step *api.Step, before api.Book) {
	step.Counts, _ = visible.Counts(step.Op.Rect, before, s.book)
	step.Reply.Count = step.Counts[step.Op.User]
}

// read shows a range.
func read(s *session, step *api.Step, before api.Book) {
	l, _ := rect.Refs(step.Op.Rect)
	for _, at := range l {
		v, _ := s.Value(at)
		if label, _ := s.Label(at); !group.Has(label, step.Op.User) {
			v = api.Value{Kind: api.Error, Num: api.Denied}
		}
		step.Reply.Grid = append(step.Reply.Grid, v)
	}
}

// formula shows the input of an address.
func formula(s *session, step *api.Step, before api.Book) {
	step.Reply.Text, _ = book.Input(before, first(step.Op))
}

// rule gives the engine a rule.
func rule(s *session, step *api.Step, before api.Book) {
	s.Rule(api.Rule{Rect: step.Op.Rect, Rights: step.Op.Rights})
}

// grant gives the engine a grant.
func grant(s *session, step *api.Step, before api.Book) {
	s.Grant(api.Grant{Rect: step.Op.Rect, Fns: step.Op.Fns, To: step.Op.To, By: step.Op.User})
}

// revoke revokes a grant of the engine.
func revoke(s *session, step *api.Step, before api.Book) {
	s.Revoke(step.Op.Index)
}

// showLogs shows the entries of both logs.
func showLogs(s *session, step *api.Step, before api.Book) {
	step.Reply.Events = audit.Events(step.Op.User, before.Log...)
	step.Reply.Releases = audit.Releases(step.Op.User, before.Releases...)
}
