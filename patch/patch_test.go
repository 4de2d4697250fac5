package patch

import (
	"math"
	"slices"
	"strconv"
	"strings"
	"testing"

	"handstitch/api"
	"handstitch/apply"
	"handstitch/hunk"
	"handstitch/plain"
	"handstitch/tree"
)

func wantErr(t *testing.T, what string, err error, want api.Errno) {
	t.Helper()
	if got := plain.Told(err); got != want || (err == nil) != (want == api.OK) {
		t.Errorf("%s: got error %v (%v), want %v", what, err, got, want)
	}
}

// marks reads marks from words such as "-x", " y", "+z".
func marks(words ...string) []api.Mark {
	var s []api.Mark
	for _, w := range words {
		s = append(s, api.Mark{Sign: w[0], Text: w[1:]})
	}
	return s
}

func at(old, new int, words ...string) api.Hunk {
	return api.Hunk{Old: old, New: new, Marks: marks(words...)}
}

func file(path string, lines ...string) api.File {
	return api.File{Path: path, Lines: lines}
}

func files(l ...api.File) []api.File { return l }

func edit(path string, l ...api.Hunk) api.Change {
	return api.Change{What: api.Edit, Path: path, Hunks: l}
}

func made(path string, l ...api.Hunk) api.Change {
	return api.Change{What: api.Make, Path: path, Hunks: l}
}

func wipe(path string, l ...api.Hunk) api.Change {
	return api.Change{What: api.Wipe, Path: path, Hunks: l}
}

func list(l ...api.Change) []api.Change { return l }

// name gives paths that rise, up to 26 of them.
func name(i int) string { return "d" + string(rune('a'+i)) }

// many gives the files name(from) to name(to-1), without lines.
func many(from, to int) []api.File {
	var t []api.File
	for i := from; i < to; i++ {
		t = append(t, file(name(i)))
	}
	return t
}

// all gives changes without hunks, of name(from) to name(to-1).
func all(what, from, to int) []api.Change {
	var p []api.Change
	for i := from; i < to; i++ {
		p = append(p, api.Change{What: what, Path: name(i)})
	}
	return p
}

func times(n int, s string) []string {
	l := make([]string, n)
	for i := range l {
		l[i] = s
	}
	return l
}

func equalHunks(a, b []api.Hunk) bool {
	return slices.EqualFunc(a, b, func(x, y api.Hunk) bool {
		return x.Old == y.Old && x.New == y.New && slices.Equal(x.Marks, y.Marks)
	})
}

func equal(a, b []api.Change) bool {
	return slices.EqualFunc(a, b, func(x, y api.Change) bool {
		return x.What == y.What && x.Path == y.Path && equalHunks(x.Hunks, y.Hunks)
	})
}

func equalFiles(a, b []api.File) bool {
	return slices.EqualFunc(a, b, func(x, y api.File) bool {
		return x.Path == y.Path && slices.Equal(x.Lines, y.Lines)
	})
}

// over has one byte more than a line may have.
var (
	over     = strings.Repeat("x", 81)
	fullPath = strings.Repeat("p", 20)
	overPath = strings.Repeat("p", 21)
)

// checks are what Check tells (P1), which Turn and Apply tell too (P3).
var checks = []struct {
	name  string
	in    []api.Change
	place int
	want  api.Errno
}{
	{"nil", nil, 0, api.OK},
	{"empty", []api.Change{}, 0, api.OK},
	{"ordinary", list(edit("a", at(0, 0, "-x", "+y")), made("b", at(0, 0, "+x")), wipe("c", at(0, 0, "-x"))), 0, api.OK},
	{"edit of several hunks", list(edit("a", at(3, 3, " x", "+y"), at(9, 10, "-x"))), 0, api.OK},
	{"edit of just one sign", list(edit("a", at(0, 0, "+x")), edit("b", at(0, 0, "-x"))), 0, api.OK},
	{"make without a hunk", list(made("a")), 0, api.OK},
	{"wipe without a hunk", list(wipe("a")), 0, api.OK},
	{"make of 60 lines", list(made("a", at(0, 0, times(60, "+x")...))), 0, api.OK},
	{"wipe of 60 lines", list(wipe("a", at(0, 0, times(60, "-x")...))), 0, api.OK},
	{"the longest path", list(made(fullPath)), 0, api.OK},
	{"rising by bytes", list(made("-"), wipe("a"), made("a-"), wipe("a/b"), made("aa")), 0, api.OK},
	{"16 changes", all(api.Make, 0, 16), 0, api.OK},
	{"16 changes of two kinds", append(all(api.Make, 0, 8), all(api.Wipe, 8, 16)...), 0, api.OK},

	{"17 changes", all(api.Make, 0, 17), 0, api.ErrFull},
	{"What is 0", list(made("a"), api.Change{Path: "b"}), 1, api.ErrRange},
	{"What is 4", list(api.Change{What: 4, Path: "b"}), 0, api.ErrRange},
	{"What is -1", list(made("a"), made("b"), api.Change{What: -1, Path: "c"}), 2, api.ErrRange},
	{"What is great", list(api.Change{What: math.MaxInt, Path: "a"}), 0, api.ErrRange},
	{"What is small", list(api.Change{What: math.MinInt, Path: "a"}), 0, api.ErrRange},
	{"an empty path", list(made("")), 0, api.ErrSyntax},
	{"a wrong path", list(made("a"), wipe("b/../c")), 1, api.ErrSyntax},
	{"a path that is too long", list(made("a"), made(overPath)), 1, api.ErrFull},
	{"61 hunks", list(edit("a", make([]api.Hunk, 61)...)), 0, api.ErrFull},
	{"a hunk of 121 marks", list(edit("a", at(0, 0, times(121, "+x")...))), 0, api.ErrFull},
	{"a sign that is none", list(made("a"), made("b", at(0, 0, "!x"))), 1, api.ErrRange},
	{"byte 10", list(made("a", at(0, 0, "+\n"))), 0, api.ErrShape},
	{"a long line", list(wipe("a", at(0, 0, "-"+over))), 0, api.ErrFull},
	{"a hunk that changes nothing", list(edit("a", at(0, 0, " x"))), 0, api.ErrNone},
	{"a hunk without marks", list(made("a", at(0, 0))), 0, api.ErrNone},
	{"a hunk behind 60", list(edit("a", at(60, 60, "+x"))), 0, api.ErrRange},
	{"a hunk ahead of 0", list(made("a"), edit("b", at(-1, -1, "-x"))), 1, api.ErrRange},
	{"hunks that fall", list(edit("a", at(3, 3, "-x"), at(2, 1, "-x"))), 0, api.ErrShape},
	{"a New that does not follow", list(edit("a", at(0, 1, "-x"))), 0, api.ErrShape},

	{"make with a kept line", list(made("a", at(0, 0, "+x", " y"))), 0, api.ErrShape},
	{"make with a kept line first", list(made("a", at(0, 0, " y", "+x"))), 0, api.ErrShape},
	{"make with a taken line", list(made("a"), made("b", at(0, 0, "+x", "-y", "+z"))), 1, api.ErrShape},
	{"make with nothing put", list(made("a", at(0, 0, "-y"))), 0, api.ErrShape},
	{"make of two hunks", list(made("a", at(0, 0, "+x"), at(0, 1, "+y"))), 0, api.ErrShape},
	{"make that begins at 1", list(made("a", at(1, 1, "+x"))), 0, api.ErrShape},
	{"wipe with a kept line", list(wipe("a", at(0, 0, "-x", " y"))), 0, api.ErrShape},
	{"wipe with a put line", list(wipe("a"), wipe("b", at(0, 0, "-x", "+y", "-z"))), 1, api.ErrShape},
	{"wipe with nothing taken", list(wipe("a", at(0, 0, "+y"))), 0, api.ErrShape},
	{"wipe of two hunks", list(wipe("a", at(0, 0, "-x"), at(1, 0, "-y"))), 0, api.ErrShape},
	{"wipe that begins at 1", list(wipe("a", at(1, 1, "-x"))), 0, api.ErrShape},
	{"edit without a hunk", list(made("a"), wipe("b"), edit("c")), 2, api.ErrShape},
	{"falling", list(made("b"), made("a")), 1, api.ErrShape},
	{"twice", list(made("a"), made("b"), wipe("b")), 2, api.ErrShape},
	{"a beginning behind the longer one", list(made("ab"), made("a")), 1, api.ErrShape},
	{"by bytes, not name by name", list(made("a/b"), made("a-")), 1, api.ErrShape},
	{"falling at the end", append(all(api.Make, 1, 16), made(name(0))), 15, api.ErrShape},

	{"too many comes ahead of What", append(list(api.Change{}), all(api.Make, 0, 16)...), 0, api.ErrFull},
	{"too many comes ahead of a fall", append(all(api.Make, 0, 16), made("a")), 0, api.ErrFull},
	{"What comes ahead of a path", list(api.Change{}), 0, api.ErrRange},
	{"What comes ahead of hunks", list(api.Change{Path: "a", Hunks: []api.Hunk{at(0, 0)}}), 0, api.ErrRange},
	{"What comes ahead of a fall", list(made("b"), api.Change{Path: "a"}), 1, api.ErrRange},
	{"a path comes ahead of hunks", list(edit("A", at(0, 0))), 0, api.ErrSyntax},
	{"a path comes ahead of what does not go with it", list(edit("A")), 0, api.ErrSyntax},
	{"a path comes ahead of a fall", list(made("b"), made("A")), 1, api.ErrSyntax},
	{"a path that is too long comes ahead of a fall", list(made("q"), made(overPath)), 1, api.ErrFull},
	{"hunks come ahead of what does not go with them", list(made("a", at(0, 0, "+x"), at(0, 0))), 0, api.ErrNone},
	{"hunks come ahead of a taken line", list(made("a", at(61, 61, "-x"))), 0, api.ErrRange},
	{"hunks come ahead of a fall", list(made("b"), made("a", at(0, 0))), 1, api.ErrNone},
	{"a fall comes ahead of a later What", list(made("b"), made("a"), api.Change{}), 1, api.ErrShape},
	{"a missing hunk comes ahead of a later path", list(edit("b"), made("A")), 0, api.ErrShape},
	{"an earlier hunk comes ahead of a later What", list(edit("b", at(0, 0)), api.Change{}), 0, api.ErrNone},
	{"the first of two falls", list(made("c"), made("b"), made("a")), 1, api.ErrShape},
}

// P1.
func TestCheck(t *testing.T) {
	for _, c := range checks {
		place, err := Check(c.in)
		wantErr(t, "Check: "+c.name, err, c.want)
		if place != c.place {
			t.Errorf("Check: %s: got place %d, want %d", c.name, place, c.place)
		}
	}
}

// P3: also where the patch could not be done to the tree at all.
func TestTurnAndApplyTellWhatCheckTells(t *testing.T) {
	for _, c := range checks {
		turned, err := Turn(c.in)
		wantErr(t, "Turn: "+c.name, err, c.want)
		if c.want == api.OK {
			continue
		}
		if len(turned) != 0 {
			t.Errorf("Turn: %s: %v beside an error", c.name, turned)
		}
		for _, tree := range [][]api.File{nil, files(file("a", "x"), file("b")), many(0, 8)} {
			done, place, err := Apply(tree, c.in)
			wantErr(t, "Apply: "+c.name, err, c.want)
			if place != c.place || len(done) != 0 {
				t.Errorf("Apply: %s: got %v, %d, want place %d", c.name, done, place, c.place)
			}
		}
	}
}

// P2: worked out by hand.
func TestDiff(t *testing.T) {
	for _, c := range []struct {
		name string
		a, b []api.File
		n    int
		want []api.Change
	}{
		{"none and none", nil, nil, 0, nil},
		{"the same", files(file("a", "x"), file("b")), files(file("a", "x"), file("b")), 3, nil},
		{"made", nil, files(file("a", "x", "", "x")), 0, list(made("a", at(0, 0, "+x", "+", "+x")))},
		{"made without lines", nil, files(file("a")), 3, list(made("a"))},
		{"wiped", files(file("a", "x", "y")), nil, 0, list(wipe("a", at(0, 0, "-x", "-y")))},
		{"wiped without lines", files(file("a")), nil, 3, list(wipe("a"))},
		{"edited", files(file("a", "x")), files(file("a", "y")), 3, list(edit("a", at(0, 0, "-x", "+y")))},
		{"no lines any more", files(file("a", "x")), files(file("a")), 3, list(edit("a", at(0, 0, "-x")))},
		{"lines for the first time", files(file("a")), files(file("a", "x")), 3, list(edit("a", at(0, 0, "+x")))},
		{"without context", files(file("a", "1", "2", "3", "4")), files(file("a", "2", "3", "4", "5")), 0,
			list(edit("a", at(0, 0, "-1"), at(4, 3, "+5")))},
		{"with context", files(file("a", "1", "2", "3", "4")), files(file("a", "2", "3", "4", "5")), 1,
			list(edit("a", at(0, 0, "-1", " 2"), at(3, 2, " 4", "+5")))},
		{"with all of it", files(file("a", "1", "2", "3", "4")), files(file("a", "2", "3", "4", "5")), 1000,
			list(edit("a", at(0, 0, "-1", " 2", " 3", " 4", "+5")))},
		{"another path of the same lines", files(file("a", "x")), files(file("b", "x")), 3,
			list(wipe("a", at(0, 0, "-x")), made("b", at(0, 0, "+x")))},
		{"another path ahead", files(file("b", "x")), files(file("a", "x")), 3,
			list(made("a", at(0, 0, "+x")), wipe("b", at(0, 0, "-x")))},
		{"of every kind", files(file("a", "1"), file("c", "3"), file("d", "4"), file("f")),
			files(file("b", "2"), file("c", "5"), file("d", "4"), file("e")), 3,
			list(wipe("a", at(0, 0, "-1")), made("b", at(0, 0, "+2")), edit("c", at(0, 0, "-3", "+5")), made("e"), wipe("f"))},
		{"by bytes", files(file("a/b"), file("aa")), files(file("a"), file("a-")), 3,
			list(made("a"), made("a-"), wipe("a/b"), wipe("aa"))},
		{"8 for 8", many(8, 16), many(0, 8), 0, append(all(api.Make, 0, 8), all(api.Wipe, 8, 16)...)},
		{"60 lines for 60", files(file("a", times(60, "x")...)), files(file("a", times(60, "y")...)), 3,
			list(edit("a", at(0, 0, slices.Concat(times(60, "-x"), times(60, "+y"))...)))},
		{"60 lines made", nil, files(file("a", times(60, "x")...)), 1000, list(made("a", at(0, 0, times(60, "+x")...)))},
	} {
		got, err := Diff(c.a, c.b, c.n)
		wantErr(t, "Diff: "+c.name, err, api.OK)
		if !equal(got, c.want) {
			t.Errorf("Diff: %s: got %v, want %v", c.name, got, c.want)
		}
	}
}

// P2: chapter 6's Check of a, then of b, then n.
func TestDiffWrong(t *testing.T) {
	good := files(file("a", "x"))
	for _, c := range []struct {
		name string
		a, b []api.File
		n    int
		want api.Errno
	}{
		{"9 files in a", many(0, 9), good, 0, api.ErrFull},
		{"9 files in b", good, many(0, 9), 0, api.ErrFull},
		{"a wrong path in a", files(file("A")), good, 0, api.ErrSyntax},
		{"a wrong path in b", good, files(file("a"), file("b/")), 0, api.ErrSyntax},
		{"a long path in b", good, files(file(overPath)), 0, api.ErrFull},
		{"byte 10 in a", files(file("a", "\n")), good, 0, api.ErrShape},
		{"byte 10 in b", good, files(file("a", "\n")), 0, api.ErrShape},
		{"a long line in a", files(file("a", over)), good, 0, api.ErrFull},
		{"61 lines in b", good, files(file("a", times(61, "")...)), 0, api.ErrFull},
		{"a falls", files(file("b"), file("a")), good, 0, api.ErrShape},
		{"b has one twice", good, files(file("a"), file("a")), 0, api.ErrShape},
		{"the same wrong ones", files(file("A")), files(file("A")), 0, api.ErrSyntax},
		{"n is -1", good, nil, -1, api.ErrRange},
		{"n is 1001", good, nil, 1001, api.ErrRange},
		{"n is -1 of nothing", nil, nil, -1, api.ErrRange},
		{"n is great, of the same", good, good, math.MaxInt, api.ErrRange},
		{"n is small", nil, good, math.MinInt, api.ErrRange},
		{"n is 0", good, nil, 0, api.OK},
		{"n is 1000", good, nil, 1000, api.OK},
		{"a comes ahead of b", files(file("A")), many(0, 9), 0, api.ErrSyntax},
		{"a comes ahead of b, the other way round", many(0, 9), files(file("A")), 0, api.ErrFull},
		{"a comes ahead of n", files(file("A")), good, -1, api.ErrSyntax},
		{"b comes ahead of n", good, files(file("A")), -1, api.ErrSyntax},
	} {
		got, err := Diff(c.a, c.b, c.n)
		wantErr(t, "Diff: "+c.name, err, c.want)
		if c.want != api.OK && len(got) != 0 {
			t.Errorf("Diff: %s: %v beside an error", c.name, got)
		}
	}
}

// P3: worked out by hand.
func TestApply(t *testing.T) {
	abc := files(file("a", "x"), file("b", "y", "z"), file("c"))
	for _, c := range []struct {
		name string
		in   []api.File
		p    []api.Change
		want []api.File
	}{
		{"none to none", nil, nil, nil},
		{"none", abc, nil, abc},
		{"edit", abc, list(edit("b", at(1, 1, "-z", "+w"))), files(file("a", "x"), file("b", "y", "w"), file("c"))},
		{"edit that leaves no lines", abc, list(edit("a", at(0, 0, "-x"))), files(file("a"), file("b", "y", "z"), file("c"))},
		{"edit of one without lines", abc, list(edit("c", at(0, 0, "+x"))), files(file("a", "x"), file("b", "y", "z"), file("c", "x"))},
		{"make into none", nil, list(made("a", at(0, 0, "+x", "+y"))), files(file("a", "x", "y"))},
		{"make without lines", nil, list(made("a")), files(file("a"))},
		{"make ahead, between and behind", files(file("b"), file("d")), list(made("a"), made("c", at(0, 0, "+x")), made("e")),
			files(file("a"), file("b"), file("c", "x"), file("d"), file("e"))},
		{"wipe the first", abc, list(wipe("a", at(0, 0, "-x"))), abc[1:]},
		{"wipe the last, without lines", abc, list(wipe("c")), abc[:2]},
		{"wipe all", abc, list(wipe("a", at(0, 0, "-x")), wipe("b", at(0, 0, "-y", "-z")), wipe("c")), nil},
		{"of every kind", abc, list(made("0"), wipe("a", at(0, 0, "-x")), edit("b", at(0, 0, "+w", " y"), at(2, 3, "+v")), made("c.")),
			files(file("0"), file("b", "w", "y", "z", "v"), file("c"), file("c."))},
		{"8 files made", nil, all(api.Make, 0, 8), many(0, 8)},
		{"an eighth file", many(0, 7), all(api.Make, 7, 8), many(0, 8)},
		{"16 files for a while", many(8, 16), append(all(api.Make, 0, 8), all(api.Wipe, 8, 16)...), many(0, 8)},
		{"60 lines made", nil, list(made("a", at(0, 0, times(60, "+x")...))), files(file("a", times(60, "x")...))},
		{"60 lines wiped", files(file("a", times(60, "x")...)), list(wipe("a", at(0, 0, times(60, "-x")...))), nil},
		{"60 lines left", files(file("a", times(59, "x")...)), list(edit("a", at(0, 0, "+x"))), files(file("a", times(60, "x")...))},
	} {
		got, place, err := Apply(c.in, c.p)
		wantErr(t, "Apply: "+c.name, err, api.OK)
		if !equalFiles(got, c.want) || place != 0 {
			t.Errorf("Apply: %s: got %v, %d, want %v, 0", c.name, got, place, c.want)
		}
	}
}

// P3.
func TestApplyWrong(t *testing.T) {
	full := file("a", times(60, "x")...)
	for _, c := range []struct {
		name  string
		in    []api.File
		p     []api.Change
		place int
		want  api.Errno
	}{
		{"edit of what is not there", nil, list(edit("a", at(0, 0, "+x"))), 0, api.ErrNone},
		{"edit of what is not there, behind others", many(0, 2), list(made("a"), edit("b", at(0, 0, "-x"))), 1, api.ErrNone},
		{"wipe of what is not there", files(file("a"), file("c")), list(wipe("a"), wipe("b"), wipe("c")), 1, api.ErrNone},
		{"wipe of what is not there, with lines", nil, list(wipe("b", at(0, 0, "-x"))), 0, api.ErrNone},
		{"a path is no beginning of another one", files(file("ab")), list(wipe("a")), 0, api.ErrNone},
		{"make of what is there", files(file("a"), file("b")), list(wipe("a"), made("b")), 1, api.ErrClash},
		{"make of what is there as it will be", files(file("a", "x")), list(made("a", at(0, 0, "+x"))), 0, api.ErrClash},
		{"edit of other lines", files(file("a", "x")), list(edit("a", at(0, 0, "-y"))), 0, api.ErrClash},
		{"edit at another place", files(file("a", "x", "y")), list(edit("a", at(0, 0, "-y"))), 0, api.ErrClash},
		{"the number is the change's, not the hunk's", files(file("a", "x", "y"), file("b", "x", "y")),
			list(edit("a", at(0, 0, "-x"), at(1, 0, "-y")), edit("b", at(0, 0, "-x"), at(1, 0, "-z"))), 1, api.ErrClash},
		{"a clash at 0, in a later hunk", files(file("a", "x", "y"), file("b")), list(edit("a", at(0, 0, "-x"), at(1, 0, "-z"))), 0, api.ErrClash},
		{"edit of lines behind the end", files(file("a", "x")), list(edit("a", at(2, 2, "+y"))), 0, api.ErrClash},
		{"edit to 61 lines", files(full, file("b", full.Lines...)), list(made("0"), edit("b", at(0, 0, "+x"))), 1, api.ErrFull},
		{"wipe of other lines", files(file("a", "x")), list(wipe("a", at(0, 0, "-y"))), 0, api.ErrClash},
		{"wipe of more lines", files(file("a", "x")), list(wipe("a", at(0, 0, "-x", "-x"))), 0, api.ErrClash},
		{"wipe with lines left", files(file("a", "x"), file("b", "x", "y")), list(wipe("a", at(0, 0, "-x")), wipe("b", at(0, 0, "-x"))), 1, api.ErrClash},
		{"wipe without a hunk, with lines left", files(file("a", "x")), list(made("0"), wipe("a")), 1, api.ErrClash},
		{"wipe of lines of what has none", files(file("a")), list(wipe("a", at(0, 0, "-x"))), 0, api.ErrClash},
		{"9 files made", nil, all(api.Make, 0, 9), 0, api.ErrFull},
		{"16 files made", nil, all(api.Make, 0, 16), 0, api.ErrFull},
		{"a ninth file", many(0, 8), list(made("z")), 0, api.ErrFull},
		{"a ninth file ahead, and an edit", many(0, 8), list(made("a"), edit(name(7), at(0, 0, "+x"))), 0, api.ErrFull},

		{"an earlier change comes ahead of a later one", files(file("a", "x")), list(edit("a", at(0, 0, "-y")), wipe("b")), 0, api.ErrClash},
		{"an earlier change comes ahead of a later one, otherwise", files(file("b", "x")), list(wipe("a"), edit("b", at(0, 0, "-y"))), 0, api.ErrNone},
		{"a change comes ahead of too many", many(0, 8), list(made("a"), edit("b", at(0, 0, "+x"))), 1, api.ErrNone},
		{"a patch that is wrong later comes ahead of a change", nil, list(wipe("a"), edit("b")), 1, api.ErrShape},
		{"a patch that is too long comes ahead of a change", nil, all(api.Wipe, 0, 17), 0, api.ErrFull},
		{"a tree comes ahead of a change", files(file("b"), file("A")), list(wipe("a")), 0, api.ErrSyntax},
		{"a tree comes ahead of a patch", files(file("b"), file("A")), list(made("a"), edit("b")), 0, api.ErrSyntax},
		{"a tree's place is not told", files(file("a"), file("b"), file("c", "\n")), nil, 0, api.ErrShape},
		{"a tree that falls", files(file("b"), file("a")), nil, 0, api.ErrShape},
		{"a tree that is too great", many(0, 9), all(api.Wipe, 0, 9), 0, api.ErrFull},
		{"a tree with a long line", files(file("a", over)), list(made("b")), 0, api.ErrFull},
	} {
		got, place, err := Apply(c.in, c.p)
		wantErr(t, "Apply: "+c.name, err, c.want)
		if len(got) != 0 || place != c.place {
			t.Errorf("Apply: %s: got %v, %d, want none, %d", c.name, got, place, c.place)
		}
	}
}

// P3: worked out by hand; twice turned is as it was.
func TestTurn(t *testing.T) {
	for _, c := range []struct{ in, want []api.Change }{
		{nil, nil},
		{list(made("a")), list(wipe("a"))},
		{list(wipe("a")), list(made("a"))},
		{list(made("a", at(0, 0, "+x", "+y"))), list(wipe("a", at(0, 0, "-x", "-y")))},
		{list(wipe("a", at(0, 0, "-x"))), list(made("a", at(0, 0, "+x")))},
		{list(edit("a", at(0, 0, "+a"), at(3, 4, "-b", "-c"), at(9, 8, " d", "+e"))),
			list(edit("a", at(0, 0, "-a"), at(4, 3, "+b", "+c"), at(8, 9, " d", "-e")))},
		{list(made("a"), edit("b", at(0, 0, "-x", "+y")), wipe("c")), list(wipe("a"), edit("b", at(0, 0, "+x", "-y")), made("c"))},
		{all(api.Make, 0, 16), all(api.Wipe, 0, 16)},
	} {
		got, err := Turn(c.in)
		wantErr(t, "Turn", err, api.OK)
		if !equal(got, c.want) {
			t.Errorf("Turn(%v): got %v, want %v", c.in, got, c.want)
		}
		back, err := Turn(got)
		wantErr(t, "Turn of Turn", err, api.OK)
		if !equal(back, c.in) {
			t.Errorf("Turn of Turn(%v): got %v", c.in, back)
		}
	}
}

// smallTrees are all trees of up to three paths, each with one of some files.
func smallTrees() [][]api.File {
	trees := [][]api.File{nil}
	for _, path := range []string{"a", "a-b", "a/b"} {
		for _, t := range trees[:len(trees):len(trees)] {
			for _, lines := range [][]string{nil, {"x"}, {"y", "x"}, {"x", "z", "x", "y"}} {
				trees = append(trees, append(slices.Clone(t), file(path, lines...)))
			}
		}
	}
	return trees
}

// find is none of the program's, so that it is not held against itself.
func find(t []api.File, path string) *api.File {
	for i := range t {
		if t[i].Path == path {
			return &t[i]
		}
	}
	return nil
}

// wantDiff is P2 path by path, as the document has it.
func wantDiff(a, b []api.File, n int) []api.Change {
	var p []api.Change
	for _, path := range []string{"a", "a-b", "a/b"} {
		x, y := find(a, path), find(b, path)
		switch {
		case x != nil && y == nil:
			p = append(p, api.Change{What: api.Wipe, Path: path, Hunks: whole('-', x.Lines)})
		case x == nil && y != nil:
			p = append(p, api.Change{What: api.Make, Path: path, Hunks: whole('+', y.Lines)})
		case x != nil && y != nil && !slices.Equal(x.Lines, y.Lines):
			l, _ := hunk.Make(x.Lines, y.Lines, n)
			p = append(p, api.Change{What: api.Edit, Path: path, Hunks: l})
		}
	}
	return p
}

func whole(sign byte, lines []string) []api.Hunk {
	if len(lines) == 0 {
		return nil
	}
	var h api.Hunk
	for _, s := range lines {
		h.Marks = append(h.Marks, api.Mark{Sign: sign, Text: s})
	}
	return []api.Hunk{h}
}

// P2, P3: what was found is as the document has it, is a patch, and leads
// there and back.
func TestThereAndBack(t *testing.T) {
	trees := smallTrees()
	for i, a := range trees {
		for j, b := range trees {
			n := (i + j) % 4
			p, err := Diff(a, b, n)
			if err != nil || !equal(p, wantDiff(a, b, n)) {
				t.Fatalf("Diff(%v, %v, %d): got %v, %v", a, b, n, p, err)
			}
			if place, err := Check(p); place != 0 || err != nil {
				t.Fatalf("Check(%v): got %d, %v", p, place, err)
			}
			if there, place, err := Apply(a, p); err != nil || place != 0 || !equalFiles(there, b) {
				t.Fatalf("Apply(%v, %v): got %v, %d, %v, want %v", a, p, there, place, err, b)
			}
			q, err := Turn(p)
			if err != nil {
				t.Fatalf("Turn(%v): got %v", p, err)
			}
			if back, place, err := Apply(b, q); err != nil || place != 0 || !equalFiles(back, a) {
				t.Fatalf("Apply(%v, %v): got %v, %d, %v, want %v", b, q, back, place, err, a)
			}
		}
	}
}

// wantApply is P3's change by change, as the document has it.
func wantApply(t []api.File, p []api.Change) ([]api.File, int, api.Errno) {
	held := map[string][]string{}
	for _, f := range t {
		held[f.Path] = f.Lines
	}
	for i, c := range p {
		lines, ok := held[c.Path]
		if c.What != api.Make && !ok {
			return nil, i, api.ErrNone
		}
		if c.What == api.Make && ok {
			return nil, i, api.ErrClash
		}
		lines, _, err := apply.Strict(lines, c.Hunks)
		if err != nil {
			return nil, i, plain.Told(err)
		}
		if c.What == api.Wipe && len(lines) > 0 {
			return nil, i, api.ErrClash
		}
		held[c.Path] = lines
		if c.What == api.Wipe {
			delete(held, c.Path)
		}
	}
	var out []api.File
	for path, lines := range held {
		out = append(out, file(path, lines...))
	}
	slices.SortFunc(out, func(x, y api.File) int { return strings.Compare(x.Path, y.Path) })
	return out, 0, api.OK
}

// P3: every patch between small trees, done to every other one of them.
func TestApplyElsewhere(t *testing.T) {
	trees := smallTrees()
	counts := map[api.Errno]int{}
	for i, a := range trees {
		for j, b := range trees {
			p, _ := Diff(a, b, (i+j)%3)
			for k := (i + j) % 7; k < len(trees); k += 7 {
				want, wantPlace, wantErr := wantApply(trees[k], p)
				got, place, err := Apply(trees[k], p)
				if plain.Told(err) != wantErr || place != wantPlace || !equalFiles(got, want) {
					t.Fatalf("Apply(%v, %v): got %v, %d, %v, want %v, %d, %v", trees[k], p, got, place, err, want, wantPlace, wantErr)
				}
				counts[wantErr]++
			}
		}
	}
	for _, e := range []api.Errno{api.OK, api.ErrNone, api.ErrClash} {
		if counts[e] < 1000 {
			t.Errorf("%v was met only %d times", e, counts[e])
		}
	}
}

// P1 of DOC.md: no numbers make a call panic.
func TestNoNumberPanics(t *testing.T) {
	numbers := []int{math.MinInt, -1, 0, 1, 2, 3, 4, 59, 60, 61, math.MaxInt}
	lines := files(file("a", "x", "y"))
	for _, what := range numbers {
		Diff(lines, nil, what)
		for _, old := range numbers {
			for _, new := range numbers {
				for _, h := range []api.Hunk{at(old, new), at(old, new, "+x"), at(old, new, "-x"), at(old, new, " y")} {
					p := list(api.Change{What: what, Path: "a", Hunks: []api.Hunk{h}})
					Turn(p)
					Apply(lines, p)
					Apply(nil, p)
				}
			}
		}
	}
}

// scribble writes into all of a patch that can be written into, and behind it.
func scribble(p []api.Change) {
	for i := range p {
		for j := range p[i].Hunks {
			m := p[i].Hunks[j].Marks
			m = m[:cap(m)]
			for k := range m {
				m[k] = api.Mark{Sign: '!', Text: "changed"}
			}
		}
		l := p[i].Hunks[:cap(p[i].Hunks)]
		for j := range l {
			l[j] = at(-1, -1, "!changed")
		}
	}
	p = p[:cap(p)]
	for i := range p {
		p[i] = api.Change{What: -1, Path: "changed"}
	}
}

func scribbleFiles(t []api.File) {
	for i := range t {
		l := t[i].Lines[:cap(t[i].Lines)]
		for j := range l {
			l[j] = "changed"
		}
	}
	t = t[:cap(t)]
	for i := range t {
		t[i] = file("changed", "changed")
	}
}

// given are trees and a patch with lists that have something wrong behind
// their length.
func given() (a, b []api.File, p []api.Change) {
	a = files(file("a", "x", "y", "\n"), file("b", "z", "\n"), file("A"))
	a[0].Lines, a[1].Lines = a[0].Lines[:2], a[1].Lines[:1]
	b = files(file("a", "y", "\n"), file("c", "w", "\n"), file("A"))
	b[0].Lines, b[1].Lines = b[0].Lines[:1], b[1].Lines[:1]
	p = list(edit("a", at(0, 0, "-x", " y", "!"), at(-1, -1)), wipe("b", at(0, 0, "-z", "!"), at(-1, -1)), made("c", at(0, 0, "+w", "!"), at(-1, -1)), made("A"))
	for i := range p[:3] {
		m := &p[i].Hunks[0].Marks
		*m = (*m)[:len(*m)-1]
		p[i].Hunks = p[i].Hunks[:1]
	}
	return a[:2], b[:2], p[:3]
}

// P2 of DOC.md: nothing that was handed in is written into, nor read behind
// its length, nor shares memory with an answer.
func TestListsAreLeftAlone(t *testing.T) {
	a, b, p := given()
	wholeA, wholeB, wholeP := dump(a, b, p)
	if place, err := Check(p); place != 0 || err != nil {
		t.Errorf("Check: got %d, %v", place, err)
	}
	found, err := Diff(a, b, 3)
	if err != nil || !equal(found, p) {
		t.Errorf("Diff: got %v, %v", found, err)
	}
	done, _, err := Apply(a, p)
	if err != nil || !equalFiles(done, b) {
		t.Errorf("Apply: got %v, %v", done, err)
	}
	turned, err := Turn(p)
	if err != nil || !equal(turned, list(edit("a", at(0, 0, "+x", " y")), made("b", at(0, 0, "+z")), wipe("c", at(0, 0, "-w")))) {
		t.Errorf("Turn: got %v, %v", turned, err)
	}
	scribble(found)
	scribbleFiles(done)
	scribble(turned)
	if x, y, z := dump(a, b, p); x != wholeA || y != wholeB || z != wholeP {
		t.Errorf("changed to %s, %s, %s", x, y, z)
	}
}

// dump tells all that lies in lists, and behind their length.
func dump(a, b []api.File, p []api.Change) (string, string, string) {
	return dumpFiles(a), dumpFiles(b), dumpPatch(p)
}

func dumpFiles(t []api.File) string {
	var s strings.Builder
	for _, f := range t[:cap(t)] {
		s.WriteString(strconv.Quote(f.Path) + ":" + strconv.Quote(strings.Join(f.Lines[:cap(f.Lines)], "|")) + " ")
	}
	return s.String()
}

func dumpPatch(p []api.Change) string {
	var s strings.Builder
	for _, c := range p[:cap(p)] {
		s.WriteString(strconv.Itoa(c.What) + c.Path + ":")
		for _, h := range c.Hunks[:cap(c.Hunks)] {
			s.WriteString(strconv.Itoa(h.Old) + "," + strconv.Itoa(h.New))
			for _, m := range h.Marks[:cap(h.Marks)] {
				s.WriteString(string(m.Sign) + strconv.Quote(m.Text))
			}
		}
		s.WriteString(" ")
	}
	return s.String()
}

// P2 of DOC.md: no two lists of an answer share memory, even where what was
// handed in does.
func TestAnswersAreFreshMemory(t *testing.T) {
	lines := []string{"x", "y"}
	shared := files(api.File{Path: "a", Lines: lines}, api.File{Path: "b", Lines: lines})
	done, _, _ := Apply(shared, list(made("c", at(0, 0, "+x"))))
	done[0].Lines[0] = "changed"
	_ = append(done[0].Lines, "changed")
	if !equalFiles(done[1:], files(file("b", "x", "y"), file("c", "x"))) {
		t.Errorf("Apply: the lines of one file are those of another one: %v", done)
	}
	for _, pair := range [][2][]api.File{{shared, nil}, {nil, shared}, {files(file("a"), file("b")), shared}} {
		p, _ := Diff(pair[0], pair[1], 3)
		second := plainMarks(p[1])
		scribble(p[:1:1])
		if plainMarks(p[1]) != second {
			t.Errorf("Diff: the hunks of one change are those of another one: %v", p)
		}
	}
	hunks := []api.Hunk{at(0, 0, "+x", "+y")}
	q, _ := Turn(list(made("a", hunks...), edit("b", hunks...)))
	scribble(q[:1:1])
	if plainMarks(q[1]) != "-x-y" {
		t.Errorf("Turn: the hunks of one change are those of another one: %v", q)
	}
	if _, err := tree.Check(shared); err != nil || lines[0] != "x" {
		t.Errorf("handed in, became %v", shared)
	}
}

func plainMarks(c api.Change) string {
	s := ""
	for _, h := range c.Hunks {
		for _, m := range h.Marks {
			s += string(m.Sign) + m.Text
		}
	}
	return s
}
