package match

import (
	"fmt"
	"math"
	"slices"
	"strings"
	"testing"

	"handstitch/api"
	"handstitch/git"
	"handstitch/plain"
)

func wantErr(t *testing.T, what string, err error, want api.Errno) {
	t.Helper()
	if got := plain.Told(err); got != want || (err == nil) != (want == api.OK) {
		t.Errorf("%s: got error %v (%v), want %v", what, err, got, want)
	}
}

// filled is a square of n rows, all of one cost.
func filled(n, cost int) [][]int {
	var out [][]int
	for range n {
		out = append(out, slices.Repeat([]int{cost}, n))
	}
	return out
}

// with is the same square, but for one cost.
func with(costs [][]int, row, column, cost int) [][]int {
	costs[row][column] = cost
	return costs
}

// orders gives all orders of 0 to n-1, the first one first.
func orders(n int) [][]int {
	if n == 0 {
		return [][]int{nil}
	}
	var out [][]int
	for first := range n {
		for _, rest := range orders(n - 1) {
			one := []int{first}
			for _, c := range rest {
				if c >= first {
					c++
				}
				one = append(one, c)
			}
			out = append(out, one)
		}
	}
	return out
}

func sum(costs [][]int, m []int) int {
	s := 0
	for i, c := range m {
		s += costs[i][c]
	}
	return s
}

// tried is Match, by trying all.
func tried(costs [][]int) []int {
	var best []int
	for i, m := range orders(len(costs)) {
		if i == 0 || sum(costs, m) < sum(costs, best) {
			best = m
		}
	}
	return best
}

// numbers gives numbers that look like no order, the same ones in each run.
func numbers(seed int) func(below int) int {
	state := uint32(seed)*2654435761 + 1
	return func(below int) int {
		state = state*1664525 + 1013904223
		return int(state>>8) % below
	}
}

func drawn(n, below int, next func(int) int) [][]int {
	costs := filled(n, 0)
	for _, row := range costs {
		for j := range row {
			row[j] = next(below)
		}
	}
	return costs
}

// M1: worked out by hand.
func TestMatch(t *testing.T) {
	for _, c := range []struct {
		name  string
		costs [][]int
		want  []int
		cost  int
	}{
		{"none", nil, nil, 0},
		{"empty", [][]int{}, nil, 0},
		{"one", [][]int{{7}}, []int{0}, 7},
		{"both bounds of a cost", [][]int{{api.MaxCost, 0}, {0, api.MaxCost}}, []int{1, 0}, 0},
		{"across", [][]int{{5, 1}, {1, 9}}, []int{1, 0}, 2},
		{"straight", [][]int{{1, 5}, {9, 1}}, []int{0, 1}, 2},
		{"of two that cost the same the first", [][]int{{1, 2}, {2, 3}}, []int{0, 1}, 4},
		{"the least of a row is not always taken", [][]int{{1, 2}, {1, 9}}, []int{1, 0}, 3},
		{"nor the least of the last row", [][]int{{9, 1}, {2, 1}}, []int{1, 0}, 3},
		{"of many that cost the same the first, row by row", filled(8, api.MaxCost), []int{0, 1, 2, 3, 4, 5, 6, 7}, 800000},
		{"the first row goes ahead of the second", [][]int{{1, 1, 9}, {1, 1, 1}, {0, 1, 1}}, []int{1, 2, 0}, 2},
		{"round in a ring", [][]int{{9, 9, 0}, {0, 9, 9}, {9, 0, 9}}, []int{2, 0, 1}, 0},
		{"the first of those is not the first place", [][]int{{3, 1, 1}, {1, 1, 3}, {1, 3, 1}}, []int{1, 0, 2}, 3},
		{"the last row has the first column", with(filled(8, 5), 7, 0, 0), []int{1, 2, 3, 4, 5, 6, 7, 0}, 35},
		{"the first row has the last column", with(filled(8, 5), 0, 7, 4), []int{7, 0, 1, 2, 3, 4, 5, 6}, 39},
		{"one place is too dear", with(filled(8, 5), 0, 0, 6), []int{1, 0, 2, 3, 4, 5, 6, 7}, 40},
		{"the last place is too dear", with(filled(8, 5), 7, 7, 6), []int{0, 1, 2, 3, 4, 5, 7, 6}, 40},
	} {
		m, err := Match(c.costs)
		wantErr(t, c.name, err, api.OK)
		if !slices.Equal(m, c.want) {
			t.Errorf("%s: got %v, want %v", c.name, m, c.want)
		}
		cost, err := Cost(c.costs, c.want)
		wantErr(t, c.name+": Cost", err, api.OK)
		if cost != c.cost {
			t.Errorf("%s: costs %d, want %d", c.name, cost, c.cost)
		}
	}
}

// M1: as trying all choices has it, among few costs and among many.
func TestMatchIsTheFirstOfTheLeast(t *testing.T) {
	for seed := range 3000 {
		next := numbers(seed)
		n := next(6)
		costs := drawn(n, []int{2, 3, 10, api.MaxCost + 1}[seed%4], next)
		m, err := Match(costs)
		wantErr(t, fmt.Sprint(costs), err, api.OK)
		want := tried(costs)
		if !slices.Equal(m, want) {
			t.Errorf("%v: got %v, want %v", costs, m, want)
		}
	}
	for seed := range 6 {
		costs := drawn(api.MaxPatch, 3+seed*seed*seed, numbers(seed))
		m, err := Match(costs)
		wantErr(t, fmt.Sprint(costs), err, api.OK)
		want := tried(costs)
		if !slices.Equal(m, want) {
			t.Errorf("%v: got %v, want %v", costs, m, want)
		}
	}
}

// M1: none is cheaper, told by Cost itself (promise 5 of DOC.md's whole).
func TestNoChoiceIsCheaper(t *testing.T) {
	for seed := range 200 {
		next := numbers(seed)
		costs := drawn(4, 4, next)
		m, err := Match(costs)
		wantErr(t, "Match", err, api.OK)
		least, err := Cost(costs, m)
		wantErr(t, "Cost", err, api.OK)
		for _, other := range orders(4) {
			cost, err := Cost(costs, other)
			wantErr(t, "Cost of another", err, api.OK)
			if cost < least || cost == least && slices.Compare(other, m) < 0 {
				t.Errorf("%v: %v costs %d, but %v costs %d", costs, m, least, other, cost)
			}
			if cost != sum(costs, other) {
				t.Errorf("%v: %v costs %d, want %d", costs, other, cost, sum(costs, other))
			}
		}
	}
}

// M1: what is no square of costs, and what of it is told first.
func TestWrongCosts(t *testing.T) {
	nine := filled(9, 1)
	nine[0] = []int{-1}
	for _, c := range []struct {
		name  string
		costs [][]int
		want  api.Errno
	}{
		{"nine rows", filled(9, 1), api.ErrFull},
		{"nine rows go ahead of what is in them", nine, api.ErrFull},
		{"nine empty rows", make([][]int, 9), api.ErrFull},
		{"a row without a cost", [][]int{{}}, api.ErrShape},
		{"a row that is nil", [][]int{nil}, api.ErrShape},
		{"a row too short", [][]int{{1, 2}, {1}}, api.ErrShape},
		{"a row too long", [][]int{{1, 2}, {1, 2, 3}}, api.ErrShape},
		{"more columns than rows", [][]int{{1, 2}}, api.ErrShape},
		{"more rows than columns", [][]int{{1}, {1}}, api.ErrShape},
		{"below 0", [][]int{{-1}}, api.ErrRange},
		{"beyond the most", [][]int{{api.MaxCost + 1}}, api.ErrRange},
		{"the last one", with(filled(8, 0), 7, 7, -1), api.ErrRange},
		{"far below 0", [][]int{{math.MinInt}}, api.ErrRange},
		{"far beyond", [][]int{{math.MaxInt}}, api.ErrRange},
		{"the shape of a row ahead of its costs", [][]int{{1, 2}, {-1}}, api.ErrShape},
		{"a cost ahead of the shape of a later row", [][]int{{1, -2}, {1}}, api.ErrRange},
		{"a shape ahead of the cost of a later row", [][]int{{1}, {1, -2}}, api.ErrShape},
	} {
		m, err := Match(c.costs)
		wantErr(t, c.name, err, c.want)
		if len(m) != 0 {
			t.Errorf("%s: got %v with an error", c.name, m)
		}
		// The choice is wrong as well: the square's error goes ahead.
		for _, m := range [][]int{nil, {0}, {0, 1}, {-1, 7, 7}} {
			cost, err := Cost(c.costs, m)
			wantErr(t, c.name+": Cost", err, c.want)
			if cost != 0 {
				t.Errorf("%s: got cost %d with an error", c.name, cost)
			}
		}
	}
}

// M1: what is no choice of columns.
func TestWrongChoices(t *testing.T) {
	for _, c := range []struct {
		n int
		m []int
	}{
		{0, []int{0}},
		{1, nil},
		{1, []int{1}},
		{1, []int{-1}},
		{1, []int{0, 0}},
		{1, []int{0, 1}},
		{2, []int{0}},
		{2, []int{1}},
		{2, []int{0, 0}},
		{2, []int{1, 1}},
		{2, []int{0, 2}},
		{2, []int{-1, 0}},
		{2, []int{0, 1, 2}},
		{3, []int{0, 1}},
		{3, []int{0, 1, 0}},
		{3, []int{2, 1, 3}},
		{8, []int{0, 1, 2, 3, 4, 5, 6}},
		{8, []int{0, 1, 2, 3, 4, 5, 6, 8}},
		{8, []int{0, 1, 2, 3, 4, 5, 6, 6}},
		{8, []int{0, 1, 2, 3, 4, 5, 6, 7, 8}},
		{8, []int{0, 1, 2, 3, 4, 5, 6, 63}},
		{8, []int{0, 1, 2, 3, 4, 5, 6, 64}},
		{8, []int{0, 1, 2, 3, 4, 5, 6, 71}},
		{8, []int{0, 1, 2, 3, 4, 5, 6, math.MaxInt}},
		{8, []int{math.MinInt, 1, 2, 3, 4, 5, 6, 7}},
		{8, make([]int, 1000)},
	} {
		cost, err := Cost(filled(c.n, 3), c.m)
		wantErr(t, fmt.Sprint(c.n, c.m), err, api.ErrShape)
		if cost != 0 {
			t.Errorf("%d, %v: got %d with an error", c.n, c.m, cost)
		}
	}
}

// M1: of all short lists of numbers just the orders are choices.
func TestChoicesAreOrders(t *testing.T) {
	for n := range 4 {
		var all [][]int
		grow := [][]int{nil}
		for range n + 2 {
			all = append(all, grow...)
			var next [][]int
			for _, l := range grow {
				for c := -1; c <= n; c++ {
					next = append(next, append(slices.Clone(l), c))
				}
			}
			grow = next
		}
		for _, m := range all {
			want := api.ErrShape
			if slices.ContainsFunc(orders(n), func(o []int) bool { return slices.Equal(o, m) }) {
				want = api.OK
			}
			_, err := Cost(filled(n, 1), m)
			wantErr(t, fmt.Sprint(n, m), err, want)
		}
	}
}

// of is a patch that makes one file: a text of its two names and, if it has
// lines, of the numbers of its hunk and of these.
func of(path string, lines ...string) []api.Change {
	c := api.Change{What: api.Make, Path: path}
	if len(lines) > 0 {
		var h api.Hunk
		for _, s := range lines {
			h.Marks = append(h.Marks, api.Mark{Sign: api.Put, Text: s})
		}
		c.Hunks = []api.Hunk{h}
	}
	return []api.Change{c}
}

func series(p ...[]api.Change) [][]api.Change { return p }

// M2: worked out by hand.
func TestRange(t *testing.T) {
	a, b := of("a", "1", "2", "3"), of("b", "4", "5", "6")
	for _, c := range []struct {
		name string
		p, q [][]api.Change
		want [][2]int
	}{
		{"none of none", nil, nil, nil},
		{"none of none, not nil", [][]api.Change{}, [][]api.Change{}, nil},
		{"the same", series(a), series(a), [][2]int{{0, 0}}},
		{"alone in the first", series(a), nil, [][2]int{{0, -1}}},
		{"alone in the second", nil, series(a), [][2]int{{-1, 0}}},
		{"many alone in the first", series(b, a, b, a), nil, [][2]int{{0, -1}, {1, -1}, {2, -1}, {3, -1}}},
		{"many alone in the second", nil, series(a, b, a, b), [][2]int{{-1, 0}, {-1, 1}, {-1, 2}, {-1, 3}}},
		{"the other way round", series(a, b), series(b, a), [][2]int{{0, 1}, {1, 0}}},
		{"one more in the second, ahead", series(a), series(b, a), [][2]int{{0, 1}, {-1, 0}}},
		{"one more in the first, ahead", series(b, a), series(a), [][2]int{{0, -1}, {1, 0}}},
		{"alone there last", series(a, b), series(of("c", "x", "y", "z"), b, of("d", "u", "v", "w"), a),
			[][2]int{{0, 3}, {1, 1}, {-1, 0}, {-1, 2}}},
		{"with one other line it is the same patch", series(a), series(of("a", "1", "x", "3")), [][2]int{{0, 0}}},
		{"of the same the first", series(a, a), series(a, a), [][2]int{{0, 0}, {1, 1}}},
		{"of the same the first has one", series(a, a), series(a), [][2]int{{0, 0}, {1, -1}}},
		{"of the same the first is had", series(a), series(a, a), [][2]int{{0, 0}, {-1, 1}}},
		{"the nearest has it", series(of("a", "1", "x", "3"), a), series(a), [][2]int{{0, -1}, {1, 0}}},
		// Two of six lines cost 4 and 4 alone, and are the same at two.
		{"all lines of the file are others", series(of("a", "1", "2", "3")), series(of("b", "x", "y", "z")),
			[][2]int{{0, 0}}},
		{"an empty patch", series(nil), series(nil), [][2]int{{0, 0}}},
		{"an empty patch alone", series(nil), nil, [][2]int{{0, -1}}},
		{"an empty patch and another one", series(a), series(nil, a), [][2]int{{0, 1}, {-1, 0}}},
		// An empty patch has an empty text: alone it costs 1.
		// A text of two lines costs 2 beside it, and 2 alone.
		{"an empty patch goes with one of two lines", series(nil), series(of("a")), [][2]int{{0, 0}}},
		// One of four lines 4, and 3: of both the pair is ahead.
		{"an empty patch goes with one of four lines", series(nil), series(of("a", "1")), [][2]int{{0, 0}}},
		// One of five lines 5, and 4, as half of it is rounded up.
		{"and with one of five", series(of("a", "1", "2")), series(nil), [][2]int{{0, 0}}},
		// One of six lines 6, and 4.
		{"but not with one of six", series(nil), series(a), [][2]int{{0, -1}, {-1, 0}}},
		{"nor of six with it", series(a), series(nil), [][2]int{{0, -1}, {-1, 0}}},
	} {
		got, err := Range(c.p, c.q)
		wantErr(t, c.name, err, api.OK)
		if !slices.Equal(got, c.want) {
			t.Errorf("%s: got %v, want %v", c.name, got, c.want)
		}
	}
}

// long is a patch of a text of n lines, of which those of the file are in no
// patch of another path.
func long(path string, n int) []api.Change {
	var lines []string
	for i := range n - 3 {
		lines = append(lines, fmt.Sprint(path, i))
	}
	return of(path, lines...)
}

// M2: how far apart two may be that are still one: lines beyond the shorter
// text count one each, as do those that are another one; half of each, rounded
// up, and 1, is what both cost alone.
func TestRangeIsByHowManyLinesDiffer(t *testing.T) {
	for n := 4; n <= 40; n++ {
		for k := 4; k <= 40; k++ {
			// Of two paths: all lines differ but the first.
			p, q := series(long("a", n)), series(long("b", k))
			apart := max(n, k) - 1
			if n == k {
				// The numbers of the hunk are the same as well.
				apart--
			}
			want := [][2]int{{0, 0}}
			if apart > (n+1)/2+1+(k+1)/2+1 {
				want = [][2]int{{0, -1}, {-1, 0}}
			}
			got, err := Range(p, q)
			wantErr(t, "Range", err, api.OK)
			if !slices.Equal(got, want) {
				t.Errorf("of %d lines and of %d: got %v, want %v", n, k, got, want)
			}
			// Of one path, one the beginning of the other: what is more, and the
			// numbers of the hunk.
			apart = max(n, k) - min(n, k) + 1
			want = [][2]int{{0, 0}}
			if n != k && apart > (n+1)/2+1+(k+1)/2+1 {
				want = [][2]int{{0, -1}, {-1, 0}}
			}
			got, err = Range(p, series(long("a", k)))
			wantErr(t, "Range", err, api.OK)
			if !slices.Equal(got, want) {
				t.Errorf("of one path, %d lines and %d: got %v, want %v", n, k, got, want)
			}
		}
	}
}

// textOf tells lines apart by their ends, byte by byte.
func textOf(t *testing.T, p []api.Change) []string {
	t.Helper()
	text, err := git.Print(p)
	wantErr(t, "Print", err, api.OK)
	var out []string
	from := 0
	for i := range len(text) {
		if text[i] == '\n' {
			out = append(out, text[from:i])
			from = i + 1
		}
	}
	return out
}

// ranged is Range, by trying all: each patch of p goes with one of q, or is
// alone.
func ranged(t *testing.T, p, q [][]api.Change) [][2]int {
	t.Helper()
	n := len(p) + len(q)
	costs := filled(n, 0)
	for i := range n {
		for j := range n {
			switch {
			case i < len(p) && j < len(q):
				x, y := textOf(t, p[i]), textOf(t, q[j])
				for k := range max(len(x), len(y)) {
					if k >= len(x) || k >= len(y) || x[k] != y[k] {
						costs[i][j]++
					}
				}
			case i < len(p):
				costs[i][j] = int(math.Ceil(float64(len(textOf(t, p[i])))/2)) + 1
			case j < len(q):
				costs[i][j] = int(math.Ceil(float64(len(textOf(t, q[j])))/2)) + 1
			}
		}
	}
	m := tried(costs)
	var out, alone [][2]int
	for i, j := range m {
		switch {
		case i < len(p) && j < len(q):
			out = append(out, [2]int{i, j})
		case i < len(p):
			out = append(out, [2]int{i, -1})
		case j < len(q):
			alone = append(alone, [2]int{-1, j})
		}
	}
	slices.SortFunc(alone, func(x, y [2]int) int { return x[1] - y[1] })
	return append(out, alone...)
}

// M2: as trying all has it.
func TestRangeIsTheFirstOfTheLeast(t *testing.T) {
	draw := func(n int, next func(int) int) [][]api.Change {
		var out [][]api.Change
		for range n {
			var lines []string
			for range next(9) {
				lines = append(lines, "xyz"[:1+next(3)])
			}
			p := of("abc"[next(3):][:1], lines...)
			if next(3) == 0 {
				p = append(p, of("d", "z")...)
			}
			if next(8) == 0 {
				p = nil
			}
			out = append(out, p)
		}
		return out
	}
	for seed := range 800 {
		next := numbers(seed)
		p := draw(next(4), next)
		q := draw(next(4), next)
		got, err := Range(p, q)
		wantErr(t, "Range", err, api.OK)
		if want := ranged(t, p, q); !slices.Equal(got, want) {
			t.Errorf("%v\n%v: got %v, want %v", p, q, got, want)
		}
	}
	p, q := draw(4, numbers(1)), draw(4, numbers(2))
	got, err := Range(p, q)
	wantErr(t, "Range of the longest", err, api.OK)
	if want := ranged(t, p, q); !slices.Equal(got, want) {
		t.Errorf("of the longest: got %v, want %v", got, want)
	}
}

// M2: each place of either series is told once, in order.
func TestRangeTellsEachOnce(t *testing.T) {
	for seed := range 400 {
		next := numbers(seed)
		var p, q [][]api.Change
		for range next(5) {
			p = append(p, long("abcd"[next(4):][:1], 4+next(12)))
		}
		for range next(5) {
			q = append(q, long("abcd"[next(4):][:1], 4+next(12)))
		}
		got, err := Range(p, q)
		wantErr(t, "Range", err, api.OK)
		var ours, theirs []int
		for i, pair := range got {
			if pair[0] >= 0 {
				ours = append(ours, pair[0])
			}
			if pair[1] >= 0 {
				theirs = append(theirs, pair[1])
			}
			if pair == [2]int{-1, -1} || i > 0 && pair[0] < 0 && got[i-1][0] < 0 && pair[1] <= got[i-1][1] {
				t.Errorf("%v: %v cannot stand there", got, pair)
			}
		}
		if !slices.IsSorted(ours) || len(ours) != len(p) || len(slices.Compact(ours)) != len(p) {
			t.Errorf("%v: not each of the %d of the first in order", got, len(p))
		}
		slices.Sort(theirs)
		if len(theirs) != len(q) || len(slices.Compact(theirs)) != len(q) {
			t.Errorf("%v: not each of the %d of the second", got, len(q))
		}
		if i := slices.IndexFunc(got, func(x [2]int) bool { return x[0] < 0 }); i >= 0 && i != len(p) {
			t.Errorf("%v: those alone in the second do not stand last", got)
		}
	}
}

// greatest is a patch of as long a text as there is.
func greatest() []api.Change {
	var p []api.Change
	for i := range 2 * api.MaxFiles {
		c := api.Change{What: api.Edit, Path: "f" + string(rune('a'+i))}
		for at := range api.MaxLines {
			c.Hunks = append(c.Hunks, api.Hunk{Old: at, New: at, Marks: []api.Mark{
				{Sign: api.Take, Text: strings.Repeat("x", api.MaxLine)},
				{Sign: api.Put, Text: strings.Repeat("y", api.MaxLine)},
			}})
		}
		p = append(p, c)
	}
	return p
}

// M2: no patch is too great for the costs of a square.
func TestRangeOfTheGreatest(t *testing.T) {
	p := greatest()
	got, err := Range(series(nil, p, p, nil), series(p, nil, nil, p))
	wantErr(t, "Range", err, api.OK)
	if want := [][2]int{{0, 1}, {1, 0}, {2, 3}, {3, 2}}; !slices.Equal(got, want) {
		t.Errorf("got %v, want %v", got, want)
	}
}

// M2: what keeps two series from being held against each other.
func TestWrongSeries(t *testing.T) {
	good := of("a", "1")
	none := []api.Change{{Path: "a"}}
	longPath := []api.Change{{What: api.Make, Path: strings.Repeat("a", api.MaxPath+1)}}
	falls := slices.Concat(of("b"), of("a"))
	path := []api.Change{{What: api.Make, Path: "A"}}
	empty := []api.Change{{What: api.Edit, Path: "a"}}
	unchanged := []api.Change{{What: api.Edit, Path: "a", Hunks: []api.Hunk{{Marks: []api.Mark{{Sign: api.Keep}}}}}}
	for _, c := range []struct {
		name string
		p, q [][]api.Change
		want api.Errno
	}{
		{"five in the first", series(good, good, good, good, good), nil, api.ErrFull},
		{"five in the second", nil, series(good, good, good, good, good), api.ErrFull},
		{"five empty ones", make([][]api.Change, 5), nil, api.ErrFull},
		{"five in both", make([][]api.Change, 5), make([][]api.Change, 5), api.ErrFull},
		{"five go ahead of a wrong one", series(none), make([][]api.Change, 5), api.ErrFull},
		{"and of one of themselves", series(none, none, none, none, none), nil, api.ErrFull},
		{"What is none", series(none), nil, api.ErrRange},
		{"in the second", nil, series(none), api.ErrRange},
		{"in the last", series(good, good, good, good), series(good, good, good, none), api.ErrRange},
		{"a path too long", series(longPath), nil, api.ErrFull},
		{"no path", series(path), nil, api.ErrSyntax},
		{"paths that fall", series(falls), nil, api.ErrShape},
		{"no hunk", series(empty), nil, api.ErrShape},
		{"a hunk that changes nothing", series(unchanged), nil, api.ErrNone},
		{"more changes than may be", nil, series(slices.Repeat(none, 17)), api.ErrFull},
		{"patch by patch", series(path, none), nil, api.ErrSyntax},
		{"patch by patch, the other way round", series(none, path), nil, api.ErrRange},
		{"the first series first", series(good, good, good, path), series(none), api.ErrSyntax},
		{"patch by patch of the second", series(good), series(good, unchanged, none), api.ErrNone},
	} {
		got, err := Range(c.p, c.q)
		wantErr(t, c.name, err, c.want)
		if len(got) != 0 {
			t.Errorf("%s: got %v with an error", c.name, got)
		}
	}
}

// P1 of DOC.md.
func TestNoNumberPanics(t *testing.T) {
	all := []int{math.MinInt, math.MinInt + 1, -65, -64, -1, 0, 1, 7, 8, 63, 64, 65, api.MaxCost, api.MaxCost + 1, math.MaxInt - 1, math.MaxInt}
	for _, n := range all {
		for _, k := range all {
			_, err := Match([][]int{{n, k}, {k, n}})
			isIn := n >= 0 && n <= api.MaxCost && k >= 0 && k <= api.MaxCost
			if (err == nil) != isIn {
				t.Errorf("Match of %d and %d: %v", n, k, err)
			}
			_, err = Cost([][]int{{0, 1}, {1, 0}}, []int{n, k})
			if isOrder := n == 0 && k == 1 || n == 1 && k == 0; (err == nil) != isOrder {
				t.Errorf("Cost of %d and %d: %v", n, k, err)
			}
			wrong := []api.Change{{What: n, Path: "a", Hunks: []api.Hunk{{Old: k, New: n}}}}
			if _, err := Range(series(wrong), nil); err == nil {
				t.Errorf("Range of %v: no error", wrong)
			}
		}
	}
}

// P2 of DOC.md.
func TestListsAreLeftAlone(t *testing.T) {
	full := []int{4, 2, 3, 1, -7, 9}
	costs := [][]int{full[0:2], full[2:4], nil, {-1}}[:2]
	m := []int{1, 0, -5}[:2]
	if got, err := Match(costs); err != nil || !slices.Equal(got, []int{0, 1}) {
		t.Errorf("Match: got %v, %v", got, err)
	}
	if got, err := Cost(costs, m); err != nil || got != 5 {
		t.Errorf("Cost: got %v, %v", got, err)
	}
	if !slices.Equal(full, []int{4, 2, 3, 1, -7, 9}) || !slices.Equal(m[:3], []int{1, 0, -5}) || costs[:4][2] != nil {
		t.Errorf("lists were written into: %v, %v, %v", full, m[:3], costs[:4])
	}
	p, q := series(greatest(), of("a", "1")), series(of("b", "2"), greatest())
	was := fmt.Sprint(p, q)
	if _, err := Range(p, q); err != nil {
		t.Errorf("Range: %v", err)
	}
	if fmt.Sprint(p, q) != was {
		t.Error("series were written into")
	}
}

// P2 of DOC.md.
func TestAnswersAreFreshMemory(t *testing.T) {
	costs := [][]int{{5, 1}, {1, 9}}
	one, _ := Match(costs)
	other, _ := Match(costs)
	one[0] = 99
	if !slices.Equal(other, []int{1, 0}) {
		t.Errorf("two answers share memory: %v", other)
	}
	p := series(of("a", "1"))
	first, _ := Range(p, p)
	second, _ := Range(p, p)
	first[0] = [2]int{7, 7}
	if !slices.Equal(second, [][2]int{{0, 0}}) {
		t.Errorf("two answers share memory: %v", second)
	}
}
