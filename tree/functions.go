package tree

import "louvre/api"

// names are the names of the functions, by their numbers.
var names = [...]string{
	api.FnAbs: "ABS", api.FnSign: "SIGN", api.FnInt: "INT", api.FnTrunc: "TRUNC", api.FnRound: "ROUND", api.FnMod: "MOD", api.FnPower: "POWER", api.FnSqrt: "SQRT",
	api.FnSum: "SUM", api.FnProduct: "PRODUCT", api.FnCount: "COUNT", api.FnCountA: "COUNTA", api.FnCountBlank: "COUNTBLANK", api.FnAverage: "AVERAGE",
	api.FnMin: "MIN", api.FnMax: "MAX", api.FnMedian: "MEDIAN", api.FnLarge: "LARGE", api.FnSmall: "SMALL",
	api.FnIf: "IF", api.FnAnd: "AND", api.FnOr: "OR", api.FnXor: "XOR", api.FnNot: "NOT", api.FnIfError: "IFERROR", api.FnIsError: "ISERROR",
	api.FnIsBlank: "ISBLANK", api.FnIsNumber: "ISNUMBER", api.FnIsText: "ISTEXT", api.FnChoose: "CHOOSE",
	api.FnLen: "LEN", api.FnLeft: "LEFT", api.FnRight: "RIGHT", api.FnMid: "MID", api.FnUpper: "UPPER", api.FnLower: "LOWER", api.FnTrim: "TRIM",
	api.FnConcat: "CONCAT", api.FnRept: "REPT", api.FnExact: "EXACT", api.FnFind: "FIND", api.FnValue: "VALUE",
	api.FnIndex: "INDEX", api.FnMatch: "MATCH", api.FnCountIf: "COUNTIF",
	api.FnDSum: "DSUM", api.FnDCount: "DCOUNT", api.FnDAvg: "DAVG", api.FnDMin: "DMIN", api.FnDMax: "DMAX",
}

// shape is what may be the arguments of a function: how many there are, and the wide ones, from one of them up to another, which is not wide any more.
type shape struct {
	least, most      int
	wideFrom, wideTo int
}

// Name returns the name of a function.
func Name(fn uint8) (string, api.Errno) {
	if fn == 0 || fn > api.Fns {
		return "", api.ErrName
	}
	return names[fn], api.OK
}

// Function returns the function with a name.
func Function(name string) (uint8, api.Errno) {
	for fn := api.FnAbs; fn <= api.Fns; fn++ {
		if names[fn] == name {
			return fn, api.OK
		}
	}
	return 0, api.ErrNone
}

// Arity returns the least and the greatest number of arguments.
func Arity(fn uint8) (least, most int, e api.Errno) {
	if _, e := Name(fn); e != api.OK {
		return 0, 0, e
	}
	s := shapeOf(fn)
	return s.least, s.most, api.OK
}

// Wide reports whether an argument may be a range.
func Wide(fn uint8, i int) (bool, api.Errno) {
	_, most, e := Arity(fn)
	if e != api.OK {
		return false, e
	}
	if i < 0 || i >= most {
		return false, api.ErrRange
	}
	return shapeOf(fn).wide(i), api.OK
}

// wide reports whether the argument i may be a range.
func (s shape) wide(i int) bool {
	return s.wideFrom <= i && i < s.wideTo
}

// shapeOf returns the shape of a function; those that are not mentioned have one argument, which is not wide.
func shapeOf(fn uint8) shape {
	s := shape{least: 1, most: 1}
	switch fn {
	case api.FnSum, api.FnProduct, api.FnCount, api.FnCountA, api.FnAverage, api.FnMin, api.FnMax, api.FnMedian:
		s.wideTo = api.MaxArgs
		fallthrough
	case api.FnAnd, api.FnOr, api.FnXor, api.FnConcat:
		s.most = api.MaxArgs
	case api.FnLeft, api.FnRight:
		s.most = 2
	case api.FnChoose:
		s.least, s.most = 2, api.MaxArgs
	case api.FnMid:
		s.least, s.most = 3, 3
	case api.FnIndex:
		s.wideTo = 1
		fallthrough
	case api.FnIf, api.FnFind:
		s.least, s.most = 2, 3
	case api.FnMatch:
		s.least, s.most = 2, 2
		s.wideFrom, s.wideTo = 1, 2
	case api.FnLarge, api.FnSmall, api.FnCountIf:
		s.wideTo = 1
		fallthrough
	case api.FnRound, api.FnMod, api.FnPower, api.FnIfError, api.FnRept, api.FnExact:
		s.least, s.most = 2, 2
	case api.FnCountBlank, api.FnDSum, api.FnDCount, api.FnDAvg, api.FnDMin, api.FnDMax:
		s.wideTo = 1
	}
	return s
}
