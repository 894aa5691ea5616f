package why

import (
	"cmp"
	"slices"

	"louvre/api"
)

// run is columns that follow each other.
type run struct {
	first, last int
}

// bands returns the ranges that tell the addresses of some ranges: rows with the same columns are put together.
func bands(l []api.Rect) []api.Rect {
	var told []api.Rect
	var now []run // the columns of the rows from first on
	first := 1
	for row := 1; row <= api.MaxRow+1; row++ {
		next := columns(row, l)
		if slices.Equal(now, next) {
			continue
		}
		for _, x := range now {
			told = append(told, api.Rect{C1: x.first, R1: first, C2: x.last, R2: row - 1})
		}
		now, first = next, row
	}
	return told
}

// columns returns the longest runs of columns that some ranges have in a row, from the left.
func columns(row int, l []api.Rect) []run {
	var runs []run
	for _, r := range l {
		if r.R1 <= row && row <= r.R2 {
			runs = append(runs, run{r.C1, r.C2})
		}
	}
	slices.SortFunc(runs, func(a, b run) int { return cmp.Compare(a.first, b.first) })
	var longest []run
	for _, x := range runs {
		if n := len(longest); n > 0 && x.first <= longest[n-1].last+1 {
			longest[n-1].last = max(longest[n-1].last, x.last)
			continue
		}
		longest = append(longest, x)
	}
	return longest
}
