package console

import (
	"slices"
	"strconv"

	"louvre/api"
	"louvre/denote"
	"louvre/lines"
	"louvre/low"
	"louvre/model"
	"louvre/script"
	"louvre/why"
)

// circular tells the circular cells.
func (c *Console) circular() []string {
	v, _ := denote.Book(c.book)
	var l []string
	for _, at := range v.Circular {
		l = append(l, address(at))
	}
	return l
}

// counts tells the counts of all users after each step.
func (c *Console) counts() []string {
	var l []string
	for _, s := range c.steps {
		var words []string
		for _, n := range s.Counts {
			words = append(words, strconv.Itoa(n))
		}
		l = append(l, join(words...))
	}
	return l
}

// covered tells whether each release has an entry in the log: a session that begins with the book has no more entries. When the entries were made does not matter, so that the book may be one at its first step.
func (c *Console) covered() []string {
	b := c.book
	b.Log, b.Step = nil, 0
	b.Releases = slices.Clone(b.Releases)
	for i := range b.Releases {
		b.Releases[i].Step = -1
	}
	m, _ := model.New(b)
	return []string{choice(len(m.Book().Releases) == len(b.Releases), "yes", "no")}
}

// labels tells the label of each entry.
func (c *Console) labels() []string {
	v, _ := denote.Book(c.book)
	var l []string
	for _, x := range v.Marks {
		l = append(l, join(address(x.At), set(x.Label)))
	}
	return l
}

// low compares, for each user, the run with the one of the book without what the user may not read.
func (c *Console) low() []string {
	b := c.script.Book
	readers := readersOf(b)
	var l []string
	for user := range b.Users {
		var hidden []api.Entry
		for _, x := range readers {
			if x.Label>>user&1 == 0 {
				hidden = append(hidden, api.Entry{At: x.At})
			}
		}
		other, _ := low.Hide(user, b, hidden...)
		r, _ := low.Compare(user, b, other, c.script.Ops, c.script.Ops)
		l = append(l, join(strconv.Itoa(user), strconv.Itoa(r.Steps), strconv.Itoa(r.Values), choice(r.Same, "same", "differ"), choice(r.Fair, "fair", "unfair")))
	}
	return l
}

// match tells whether the abstract session returns the same steps, and has the same book.
func (c *Console) match() []string {
	m, _ := model.New(c.script.Book)
	same := true
	for i, x := range c.script.Ops {
		s := m.Do(x)
		same = same && s.Op == c.steps[i].Op && slices.Equal(s.Counts, c.steps[i].Counts) && reply(s) == reply(c.steps[i])
	}
	same = same && script.Equal(api.Script{Book: m.Book()}, api.Script{Book: c.book})
	return []string{choice(same, "yes", "no")}
}

// replies tells the replies.
func (c *Console) replies() []string {
	var l []string
	for _, s := range c.steps {
		l = append(l, reply(s))
	}
	return l
}

// shown tells the released values.
func (c *Console) shown() []string {
	v, _ := denote.Book(c.book)
	var l []string
	for _, x := range v.Shown {
		l = append(l, join(address(x.Call.At), strconv.Itoa(x.Call.Node), set(x.To), value(x.V)))
	}
	return l
}

// values tells the value of each entry.
func (c *Console) values() []string {
	v, _ := denote.Book(c.book)
	var l []string
	for _, x := range v.Cells {
		l = append(l, join(address(x.At), value(x.V)))
	}
	return l
}

// why tells, for each entry and user, why the user sees it, or does not.
func (c *Console) why() []string {
	var l []string
	for _, x := range c.book.Entries {
		for user := range c.book.Users {
			r, _ := why.Reason(user, x.At, c.book)
			l = append(l, join(address(x.At), strconv.Itoa(user), reason(r)))
		}
	}
	return l
}

// readersOf returns for each entry the users who may read it: the label that it has if it is a constant.
func readersOf(b api.Book) []api.Mark {
	b.Entries = slices.Clone(b.Entries)
	for i := range b.Entries {
		b.Entries[i].Input = "1"
	}
	v, _ := denote.Book(b)
	return v.Marks
}

// reply returns the line of the reply of a step.
func reply(s api.Step) string {
	line, _ := lines.Reply(s.Reply)
	return line
}
