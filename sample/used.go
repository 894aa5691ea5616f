package sample

import (
	"louvre/api"
	"louvre/book"
	"louvre/release"
)

// Used returns a small book after some operations, with entries in both logs.
func Used(pick Pick) api.Book {
	b, _ := release.Open(Random(pick))
	for range pick(14) {
		after, _, _, _ := book.Apply(b, Op(pick, b.Users))
		fresh, _ := release.Fresh(b, after)
		after.Releases = append(after.Releases, fresh...)
		b = after
	}
	return b
}

// Ops returns operations, among them such as are not well formed, with any numbers.
func Ops(pick Pick, users int) []api.Op {
	var l []api.Op
	for range pick(9) {
		x := Op(pick, users)
		switch pick(9) {
		case 0:
			x = odd(pick)
		case 1:
			x.Rights.Own, x.Index = 1<<63, -1<<63
		}
		l = append(l, x)
	}
	return l
}

// odd returns an operation with any numbers in all fields.
func odd(pick Pick) api.Op {
	return api.Op{
		Kind: uint8(pick(256)), User: any64(pick), Rect: api.Rect{C1: -pick(300), R2: any64(pick)}, Input: string([]byte{byte(pick(256)), 0, 255}),
		Rights: api.Rights{Write: uint64(any64(pick))}, Fns: uint8(pick(256)), To: uint64(any64(pick)) >> pick(64), Index: -pick(3),
	}
}

// any64 returns any number.
func any64(pick Pick) int {
	return pick(1<<32)<<32 | pick(1<<32)
}
