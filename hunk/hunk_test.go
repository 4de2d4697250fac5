package hunk

import (
	"math"
	"slices"
	"strings"
	"testing"

	"handstitch/api"
	"handstitch/edit"
	"handstitch/plain"
)

func wantErr(t *testing.T, what string, err error, want api.Errno) {
	t.Helper()
	if got := plain.Told(err); got != want || (err == nil) != (want == api.OK) {
		t.Errorf("%s: got error %v (%v), want %v", what, err, got, want)
	}
}

// marks reads marks from words such as "-x", " y", "+z".
func marks(words ...string) []api.Mark {
	var s []api.Mark
	for _, w := range words {
		s = append(s, api.Mark{Sign: w[0], Text: w[1:]})
	}
	return s
}

func at(old, new int, words ...string) api.Hunk {
	return api.Hunk{Old: old, New: new, Marks: marks(words...)}
}

func list(l ...api.Hunk) []api.Hunk { return l }

func times(n int, s string) []string {
	l := make([]string, n)
	for i := range l {
		l[i] = s
	}
	return l
}

func join(l ...[]string) []string { return slices.Concat(l...) }

func equal(a, b []api.Hunk) bool {
	return slices.EqualFunc(a, b, func(x, y api.Hunk) bool {
		return x.Old == y.Old && x.New == y.New && slices.Equal(x.Marks, y.Marks)
	})
}

var over = strings.Repeat("x", 81)

// puts gives n hunks, each of which puts a line at the beginning of the file.
func puts(n int) []api.Hunk {
	var l []api.Hunk
	for i := range n {
		l = append(l, at(0, i, "+a"))
	}
	return l
}

// takes gives n hunks, each of which takes the next line of the file.
func takes(n int) []api.Hunk {
	var l []api.Hunk
	for i := range n {
		l = append(l, at(i, 0, "-a"))
	}
	return l
}

// H1: what Check tells; Turn tells the same error (H3).
var checks = []struct {
	name  string
	in    []api.Hunk
	place int
	want  api.Errno
}{
	{"nil", nil, 0, api.OK},
	{"empty", []api.Hunk{}, 0, api.OK},
	{"one that puts", list(at(0, 0, "+a")), 0, api.OK},
	{"one that takes", list(at(7, 7, "-a")), 0, api.OK},
	{"one with all signs", list(at(3, 3, " a", "-b", "+c", " d")), 0, api.OK},
	{"two with lines between", list(at(0, 0, "+a"), at(3, 4, "-b"), at(9, 9, "+c")), 0, api.OK},
	{"two that touch", list(at(1, 1, " a", "-b"), at(3, 2, " c", "+d")), 0, api.OK},
	{"two puts at one place", list(at(5, 5, "+a"), at(5, 6, "+b")), 0, api.OK},

	{"60 hunks that put", puts(60), 0, api.OK},
	{"60 hunks that take", takes(60), 0, api.OK},
	{"61 hunks", append(takes(60), at(60, 0, "+a")), 0, api.ErrFull},
	{"61 hunks come ahead of all else", make([]api.Hunk, 61), 0, api.ErrFull},
	{"61 hunks come ahead of a wrong sign", append(list(at(0, 0, "!a")), puts(60)...), 0, api.ErrFull},

	{"a wrong sign", list(at(0, 0, "!a")), 0, api.ErrRange},
	{"a wrong sign beside a change", list(at(0, 0, "+a", "!a")), 0, api.ErrRange},
	{"byte 10", list(at(0, 0, "+a\n")), 0, api.ErrShape},
	{"81 bytes", list(at(0, 0, "+"+over)), 0, api.ErrFull},
	{"121 marks", list(at(0, 0, times(121, "-a")...)), 0, api.ErrFull},
	{"a wrong sign in the second", list(at(0, 0, "+a"), at(1, 2, "!a")), 1, api.ErrRange},
	{"byte 10 in the third", list(at(0, 0, "+a"), at(1, 2, "-a"), at(2, 2, "+\n")), 2, api.ErrShape},

	{"no mark", list(at(0, 0)), 0, api.ErrNone},
	{"kept only", list(at(0, 0, " a", " b")), 0, api.ErrNone},
	{"kept only in the second", list(at(0, 0, "+a"), at(1, 2, " a")), 1, api.ErrNone},

	{"Old below 0", list(at(-1, -1, "+a")), 0, api.ErrRange},
	{"Old below 0 alone", list(at(-1, 0, "+a")), 0, api.ErrRange},
	{"New below 0 alone", list(at(0, -1, "+a")), 0, api.ErrRange},
	{"New below 0 where all else holds", list(at(0, 0, "-a", "-a"), at(2, -1, "+a")), 1, api.ErrRange},
	{"Old at 60", list(at(0, 0, "-a"), at(60, 59, "+a")), 0, api.OK},
	{"Old at 61", list(at(0, 0, "-a", "-a"), at(61, 59, "+a")), 1, api.ErrRange},
	{"New at 60", list(at(0, 0, "+a"), at(59, 60, "-a")), 0, api.OK},
	{"New at 61", list(at(0, 0, "+a", "+a"), at(59, 61, "-a")), 1, api.ErrRange},
	{"ends at 60 in both", list(at(58, 58, " a", "-b", "+c")), 0, api.OK},
	{"the old lines end at 61", list(at(59, 59, " a", "-b")), 0, api.ErrRange},
	{"the new lines end at 61", list(at(59, 59, " a", "+b")), 0, api.ErrRange},
	{"both end at 61", list(at(59, 59, " a", "-b", "+c")), 0, api.ErrRange},
	{"60 taken", list(at(0, 0, times(60, "-a")...)), 0, api.OK},
	{"61 taken", list(at(0, 0, times(61, "-a")...)), 0, api.ErrRange},
	{"61 put", list(at(0, 0, times(61, "+a")...)), 0, api.ErrRange},
	{"60 taken and put", list(at(0, 0, join(times(60, "-a"), times(60, "+b"))...)), 0, api.OK},
	{"the greatest Old", list(at(math.MaxInt, 0, "-a")), 0, api.ErrRange},
	{"the greatest New", list(at(0, math.MaxInt, "+a")), 0, api.ErrRange},
	{"the least of both", list(at(math.MinInt, math.MinInt, "-a", "+b")), 0, api.ErrRange},

	{"New is not Old in the first", list(at(3, 4, "+a")), 0, api.ErrShape},
	{"Old ahead of the end of the hunk ahead", list(at(2, 2, " a", "-b"), at(3, 2, "+c")), 1, api.ErrShape},
	{"kept lines overlap", list(at(0, 0, "+a", " b"), at(0, 1, " b", "+c")), 1, api.ErrShape},
	{"the hunks are turned round", list(at(5, 5, "+a"), at(1, 2, "+b")), 1, api.ErrShape},
	{"what was put is not counted", list(at(0, 0, "+a"), at(4, 4, "+b")), 1, api.ErrShape},
	{"what was taken is not counted", list(at(0, 0, "-a"), at(4, 4, "+b")), 1, api.ErrShape},
	{"what was kept is counted", list(at(0, 0, " a", "+a"), at(4, 6, "+b")), 1, api.ErrShape},
	{"only the hunk just ahead is counted", list(at(0, 0, "+a"), at(4, 5, "+b"), at(8, 9, "+c")), 2, api.ErrShape},
	{"all hunks ahead are counted", list(at(0, 0, "+a", "+a"), at(4, 6, "-b"), at(8, 9, "+c")), 0, api.OK},

	{"the marks come ahead of no change", list(at(0, 0, " a", " \n")), 0, api.ErrShape},
	{"the marks come ahead of the place", list(at(-1, 0, "+\n")), 0, api.ErrShape},
	{"no change comes ahead of the place", list(at(-1, 0, " a")), 0, api.ErrNone},
	{"the place comes ahead of the order", list(at(5, 5, "-a"), at(-1, 7, "+b")), 1, api.ErrRange},
	{"the order of one comes ahead of the marks of the next", list(at(0, 1, "+a"), at(5, 6, "!b")), 0, api.ErrShape},
	{"the place of one comes ahead of the marks of the next", list(at(61, 61, "+a"), at(5, 6, "+\n")), 0, api.ErrRange},
	{"no change in one comes ahead of the marks of the next", list(at(0, 0, " a"), at(5, 6, "+\n")), 0, api.ErrNone},
	{"the 60th", append(puts(59), at(0, 58, "+a")), 59, api.ErrShape},
}

func TestCheck(t *testing.T) {
	for _, c := range checks {
		place, err := Check(c.in)
		wantErr(t, "Check: "+c.name, err, c.want)
		if place != c.place {
			t.Errorf("Check: %s: got place %d, want %d", c.name, place, c.place)
		}
	}
}

// H1.
func TestSize(t *testing.T) {
	for _, c := range []struct {
		h             api.Hunk
		before, after int
	}{
		{at(0, 0), 0, 0},
		{at(0, 0, " a"), 1, 1},
		{at(0, 0, "-a"), 1, 0},
		{at(0, 0, "+a"), 0, 1},
		{at(9, 4, "+a", " b", "-c", "-d", " e", "-f"), 5, 3},
		{at(-1, 99, "+a", "+b"), 0, 2},
		{at(0, 0, times(200, " a")...), 200, 200},
		// Of no file are lines that are neither kept, taken nor put.
		{at(0, 0, "!a", "-b"), 1, 0},
		{api.Hunk{Marks: []api.Mark{{}, {Sign: 255}}}, 0, 0},
	} {
		before, after := Size(c.h)
		if before != c.before || after != c.after {
			t.Errorf("Size(%q): got %d, %d, want %d, %d", c.h.Marks, before, after, c.before, c.after)
		}
	}
}

// H2: worked out by hand.
func TestCut(t *testing.T) {
	far := marks("-a", " b", " c", " d", "+e")
	for _, c := range []struct {
		s    []api.Mark
		n    int
		want []api.Hunk
	}{
		{nil, 0, nil},
		{nil, 1000, nil},
		{marks(" a", " b"), 0, nil},
		{marks(" a", " b"), 1000, nil},
		{marks(" a", "+b"), 0, list(at(1, 1, "+b"))},
		{marks(" a", "+b"), 1, list(at(0, 0, " a", "+b"))},
		{marks("-a", "+b", "-c"), 0, list(at(0, 0, "-a", "+b", "-c"))},
		{far, 0, list(at(0, 0, "-a"), at(4, 3, "+e"))},
		{far, 1, list(at(0, 0, "-a", " b"), at(3, 2, " d", "+e"))},
		{far, 2, list(at(0, 0, "-a", " b", " c", " d", "+e"))},
		{far, 1000, list(at(0, 0, "-a", " b", " c", " d", "+e"))},
		// Pieces that only touch are one.
		{marks("+a", " b", " c", "-d"), 0, list(at(0, 0, "+a"), at(2, 3, "-d"))},
		{marks("+a", " b", " c", "-d"), 1, list(at(0, 0, "+a", " b", " c", "-d"))},
		// Context is cut off at both ends.
		{marks(" a", " b", " c", "-d", " e", " f", " g"), 0, list(at(3, 3, "-d"))},
		{marks(" a", " b", " c", "-d", " e", " f", " g"), 1, list(at(2, 2, " c", "-d", " e"))},
		{marks(" a", " b", " c", "-d", " e", " f", " g"), 2, list(at(1, 1, " b", " c", "-d", " e", " f"))},
		{marks(" a", " b", " c", "-d", " e", " f", " g"), 3, list(at(0, 0, " a", " b", " c", "-d", " e", " f", " g"))},
		// The places hang on what lies between, too.
		{marks("+a", " b", "+c", " d", "-e", "-f", " g", "+h"), 0,
			list(at(0, 0, "+a"), at(1, 2, "+c"), at(2, 4, "-e", "-f"), at(5, 5, "+h"))},
		{marks(join(times(60, "-a"), times(60, "+b"))...), 0, list(at(0, 0, join(times(60, "-a"), times(60, "+b"))...))},
		{marks(join(times(59, " a"), []string{"+b"})...), 0, list(at(59, 59, "+b"))},
		{marks(times(60, " a")...), 3, nil},
	} {
		l, err := Cut(c.s, c.n)
		wantErr(t, "Cut", err, api.OK)
		if !equal(l, c.want) {
			t.Errorf("Cut(%q, %d): got %v, want %v", c.s, c.n, l, c.want)
		}
	}
}

// H2: the errors, and which of them comes first.
func TestCutWrong(t *testing.T) {
	for _, c := range []struct {
		name string
		s    []api.Mark
		n    int
		want api.Errno
	}{
		{"121 marks", marks(times(121, "-a")...), 0, api.ErrFull},
		{"a wrong sign", marks("!a"), 0, api.ErrRange},
		{"byte 10", marks("+\n"), 0, api.ErrShape},
		{"81 bytes", marks("+" + over), 0, api.ErrFull},
		{"n is -1", marks("+a"), -1, api.ErrRange},
		{"n is 1001", marks("+a"), 1001, api.ErrRange},
		{"n is 1000", marks("+a"), 1000, api.OK},
		{"n is -1 and nothing is cut", nil, -1, api.ErrRange},
		{"the least n", marks("+a"), math.MinInt, api.ErrRange},
		{"the greatest n", marks("+a"), math.MaxInt, api.ErrRange},
		{"61 old lines", marks(times(61, "-a")...), 0, api.ErrFull},
		{"61 new lines", marks(times(61, "+a")...), 0, api.ErrFull},
		{"61 old lines, some kept", marks(append(times(60, " a"), "-b")...), 0, api.ErrFull},
		{"61 new lines, some kept", marks(append(times(60, " a"), "+b")...), 0, api.ErrFull},
		{"61 lines kept", marks(times(61, " a")...), 0, api.ErrFull},
		{"60 lines of each", marks(join(times(30, " a"), times(30, "-b"), times(30, "+c"))...), 0, api.OK},
		{"the marks come ahead of n", marks("+\n"), -1, api.ErrShape},
		{"n comes ahead of the lines", marks(times(61, "-a")...), -1, api.ErrRange},
	} {
		l, err := Cut(c.s, c.n)
		wantErr(t, "Cut: "+c.name, err, c.want)
		if c.want != api.OK && len(l) != 0 {
			t.Errorf("Cut: %s: %v beside an error", c.name, l)
		}
	}
}

// every gives all scripts of at most n marks. The texts tell the places, so
// that no two marks of one script are the same.
func every(n int) [][]api.Mark {
	all := [][]api.Mark{nil}
	last := all
	for i := range n {
		var next [][]api.Mark
		for _, s := range last {
			for _, sign := range []byte{' ', '-', '+'} {
				next = append(next, append(slices.Clone(s), api.Mark{Sign: sign, Text: string(rune('a' + i))}))
			}
		}
		all = append(all, next...)
		last = next
	}
	return all
}

// pieces is Cut as the document words it: first what is in a hunk, spread from
// each change, then what follows one another.
func pieces(s []api.Mark, n int) []api.Hunk {
	in := make([]bool, len(s))
	for i, m := range s {
		for j := range s {
			if m.Sign != ' ' && j-i <= n && i-j <= n {
				in[j] = true
			}
		}
	}
	var l []api.Hunk
	old, new := 0, 0
	for i, m := range s {
		if in[i] && (i == 0 || !in[i-1]) {
			l = append(l, api.Hunk{Old: old, New: new})
		}
		if in[i] {
			l[len(l)-1].Marks = append(l[len(l)-1].Marks, m)
		}
		if m.Sign != '+' {
			old++
		}
		if m.Sign != '-' {
			new++
		}
	}
	return l
}

// H1, H2 and H3 at all small scripts: Cut gives the pieces, Check finds
// nothing wrong with them, and turned they are those of the turned script.
func TestEverySmallScript(t *testing.T) {
	for _, s := range every(7) {
		for n := range 4 {
			l, err := Cut(s, n)
			if err != nil || !equal(l, pieces(s, n)) {
				t.Fatalf("Cut(%q, %d): got %v, %v, want %v", s, n, l, err, pieces(s, n))
			}
			if place, err := Check(l); place != 0 || err != nil {
				t.Fatalf("Check of Cut(%q, %d): got %d, %v", s, n, place, err)
			}
			turned, err := Turn(l)
			back := slices.Clone(s)
			for i := range back {
				back[i].Sign = map[byte]byte{' ': ' ', '-': '+', '+': '-'}[back[i].Sign]
			}
			if err != nil || !equal(turned, pieces(back, n)) {
				t.Fatalf("Turn of Cut(%q, %d): got %v, %v", s, n, turned, err)
			}
		}
	}
}

// H2.
func TestMake(t *testing.T) {
	a := []string{"a", "b", "c", "d", "e", "f"}
	b := []string{"a", "c", "d", "e", "x", "f"}
	for _, c := range []struct {
		a, b []string
		n    int
		want []api.Hunk
	}{
		{nil, nil, 3, nil},
		{a, a, 3, nil},
		{[]string{"a", "b", "c"}, []string{"a", "c"}, 1, list(at(0, 0, " a", "-b", " c"))},
		{nil, []string{"a"}, 3, list(at(0, 0, "+a"))},
		{[]string{"a"}, nil, 3, list(at(0, 0, "-a"))},
		{[]string{"a"}, []string{"b"}, 0, list(at(0, 0, "-a", "+b"))},
		{a, b, 0, list(at(1, 1, "-b"), at(5, 4, "+x"))},
		{a, b, 1, list(at(0, 0, " a", "-b", " c"), at(4, 3, " e", "+x", " f"))},
		{a, b, 2, list(at(0, 0, " a", "-b", " c", " d", " e", "+x", " f"))},
		{times(60, "a"), times(60, "b"), 1000, list(at(0, 0, join(times(60, "-a"), times(60, "+b"))...))},
		{times(60, "a"), times(59, "a"), 0, list(at(59, 59, "-a"))},
	} {
		l, err := Make(c.a, c.b, c.n)
		wantErr(t, "Make", err, api.OK)
		if !equal(l, c.want) {
			t.Errorf("Make(%q, %q, %d): got %v, want %v", c.a, c.b, c.n, l, c.want)
		}
	}
}

// H2: Make is Cut of Script, with lines that come more than once.
func TestMakeIsCutOfScript(t *testing.T) {
	var small [][]string
	for _, s := range every(5) {
		var f []string
		for _, m := range s {
			f = append(f, string(m.Sign))
		}
		small = append(small, f)
	}
	for i, a := range small {
		b := small[(i*37+11)%len(small)]
		for n := range 3 {
			s, _ := edit.Script(a, b)
			want, _ := Cut(s, n)
			if l, err := Make(a, b, n); err != nil || !equal(l, want) {
				t.Fatalf("Make(%q, %q, %d): got %v, %v, want %v", a, b, n, l, err, want)
			}
		}
	}
}

// H2: chapter 1's Check of a, then of b, then n.
func TestMakeWrong(t *testing.T) {
	good := []string{"a"}
	for _, c := range []struct {
		name string
		a, b []string
		n    int
		want api.Errno
	}{
		{"61 lines in a", times(61, "a"), good, 0, api.ErrFull},
		{"61 lines in b", good, times(61, "a"), 0, api.ErrFull},
		{"byte 10 in a", []string{"\n"}, good, 0, api.ErrShape},
		{"byte 10 in b", good, []string{"\n"}, 0, api.ErrShape},
		{"81 bytes in b", good, []string{over}, 0, api.ErrFull},
		{"n is -1", good, good, -1, api.ErrRange},
		{"n is 1001", good, nil, 1001, api.ErrRange},
		{"n is 1000", good, nil, 1000, api.OK},
		{"a comes ahead of b", []string{"\n"}, []string{over}, 0, api.ErrShape},
		{"b comes ahead of n", good, []string{"\n"}, -1, api.ErrShape},
	} {
		l, err := Make(c.a, c.b, c.n)
		wantErr(t, "Make: "+c.name, err, c.want)
		if c.want != api.OK && len(l) != 0 {
			t.Errorf("Make: %s: %v beside an error", c.name, l)
		}
	}
}

// H3: worked out by hand; twice turned is as it was.
func TestTurn(t *testing.T) {
	for _, c := range []struct{ in, want []api.Hunk }{
		{nil, nil},
		{[]api.Hunk{}, nil},
		{list(at(0, 0, "+b")), list(at(0, 0, "-b"))},
		{list(at(4, 4, " a", "-b", "+c", " d")), list(at(4, 4, " a", "+b", "-c", " d"))},
		{list(at(0, 0, "+a"), at(3, 4, "-b", "-c"), at(9, 8, "+d")),
			list(at(0, 0, "-a"), at(4, 3, "+b", "+c"), at(8, 9, "-d"))},
		{puts(60), takes(60)},
	} {
		l, err := Turn(c.in)
		wantErr(t, "Turn", err, api.OK)
		if !equal(l, c.want) {
			t.Errorf("Turn(%v): got %v, want %v", c.in, l, c.want)
		}
		back, err := Turn(l)
		wantErr(t, "Turn of Turn", err, api.OK)
		if !equal(back, c.in) {
			t.Errorf("Turn of Turn(%v): got %v", c.in, back)
		}
	}
}

// H3.
func TestTurnTellsWhatCheckTells(t *testing.T) {
	for _, c := range checks {
		l, err := Turn(c.in)
		wantErr(t, "Turn: "+c.name, err, c.want)
		if c.want != api.OK && len(l) != 0 {
			t.Errorf("Turn: %s: %v beside an error", c.name, l)
		}
	}
}

// P2 and P4 of DOC.md: nothing that was handed in is written into, nor read
// behind its length.
func TestListsAreLeftAlone(t *testing.T) {
	s := marks(" a", "-b", " c", "!d", "+\n")
	wantMarks := slices.Clone(s)
	l, err := Cut(s[:3], 5)
	wantErr(t, "Cut", err, api.OK)
	if !equal(l, list(at(0, 0, " a", "-b", " c"))) {
		t.Errorf("Cut: got %v", l)
	}
	hunks := []api.Hunk{{Old: 1, New: 1, Marks: s[1:3]}, {Old: -1, Marks: s}}
	_, err = Check(hunks[:1])
	wantErr(t, "Check", err, api.OK)
	turned, err := Turn(hunks[:1])
	wantErr(t, "Turn", err, api.OK)
	if !equal(turned, list(at(1, 1, "+b", " c"))) {
		t.Errorf("Turn: got %v", turned)
	}
	if !slices.Equal(s, wantMarks) || hunks[0].Old != 1 || hunks[1].Old != -1 {
		t.Errorf("changed to %q, %v", s, hunks)
	}
}

// P2 of DOC.md: what comes out is fresh memory, and no two lists share any.
func TestAnswersAreFreshMemory(t *testing.T) {
	s := marks("-a", " b", "+c")
	l, _ := Cut(s, 0)
	turned, _ := Turn(l)
	for i := range l {
		_ = append(l[i].Marks, marks("!x", "!y", "!z")...)
	}
	if !equal(l, list(at(0, 0, "-a"), at(2, 1, "+c"))) {
		t.Errorf("the pieces share memory: %v", l)
	}
	for i := range turned {
		_ = append(turned[i].Marks, marks("!x", "!y", "!z")...)
	}
	l[0].Marks[0].Text = "changed"
	s[2].Text = "changed"
	if l[1].Marks[0].Text != "c" {
		t.Errorf("the pieces share memory with the script: %v", l)
	}
	if !equal(turned, list(at(0, 0, "+a"), at(1, 2, "-c"))) {
		t.Errorf("the turned ones share memory: %v", turned)
	}
}
