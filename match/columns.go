package match

import "math/bits"

// columns is a set of columns, a bit each: as a number it can be looked up.
type columns uint

// firstColumns gives the set of the columns from 0 up to n.
func firstColumns(n int) columns {
	return 1<<n - 1
}

func (s columns) has(c int) bool {
	return c >= 0 && s>>c&1 == 1
}

func (s columns) without(c int) columns {
	return s &^ (1 << c)
}

func (s columns) count() int {
	return bits.OnesCount(uint(s))
}
