package sample

import (
	"louvre/acl"
	"louvre/api"
	"louvre/deps"
	"louvre/grant"
	"louvre/group"
	"louvre/rect"
)

// Sees reports whether a user sees an address of a random book, or of that of DOC.md, address by address as S5 says.
func Sees(b api.Book, user int, at api.Ref) bool {
	g, _ := deps.New(b.Entries...)
	return sees(b, g, user, at, map[api.Ref]bool{})
}

// sees reports whether no way with open uses leads from an address to one that the user may not read; the addresses that were looked at are passed over.
func sees(b api.Book, g *deps.Graph, user int, at api.Ref, looked map[api.Ref]bool) bool {
	if looked[at] {
		return true
	}
	looked[at] = true
	if !Reads(b, user, at) {
		return false
	}
	for _, u := range g.Uses(at) {
		if u.Fn != 0 && Released(b, user, u) {
			continue
		}
		for _, next := range Cells() {
			if rect.Has(u.Rect, next) && !sees(b, g, user, next, looked) {
				return false
			}
		}
	}
	return true
}

// Reads reports whether a user may read an address.
func Reads(b api.Book, user int, at api.Ref) bool {
	rights, _ := acl.At(at, b.Rules...)
	return group.Has(rights.Read, user)
}

// Released reports whether a call with this use is released to a user.
func Released(b api.Book, user int, u api.Use) bool {
	to, _, _ := grant.For(u.Fn, u.Rect, b.Rules, b.Grants)
	return group.Has(to, user)
}
