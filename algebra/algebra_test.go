package algebra

import (
	"fmt"
	"math"
	"slices"
	"strings"
	"testing"

	"handstitch/api"
	"handstitch/apply"
	"handstitch/hunk"
	"handstitch/patch"
	"handstitch/plain"
)

func wantErr(t *testing.T, what string, err error, want api.Errno) {
	t.Helper()
	if got := plain.Told(err); got != want || (err == nil) != (want == api.OK) {
		t.Errorf("%s: got error %v (%v), want %v", what, err, got, want)
	}
}

// at reads the marks of a hunk from words such as "-x", " y", "+z".
func at(old, new int, words ...string) api.Hunk {
	h := api.Hunk{Old: old, New: new}
	for _, w := range words {
		h.Marks = append(h.Marks, api.Mark{Sign: w[0], Text: w[1:]})
	}
	return h
}

// on is a hunk by itself.
func on(place int, words ...string) api.Hunk { return at(place, place, words...) }

func file(path string, lines ...string) api.File {
	return api.File{Path: path, Lines: lines}
}

func files(l ...api.File) []api.File { return l }

func edited(path string, l ...api.Hunk) api.Change {
	return api.Change{What: api.Edit, Path: path, Hunks: l}
}

func made(path string, l ...api.Hunk) api.Change {
	return api.Change{What: api.Make, Path: path, Hunks: l}
}

func wipe(path string, l ...api.Hunk) api.Change {
	return api.Change{What: api.Wipe, Path: path, Hunks: l}
}

func list(l ...api.Change) []api.Change { return l }

// all gives changes without hunks, of as many paths that rise.
func all(what, from, to int) []api.Change {
	var p []api.Change
	for i := from; i < to; i++ {
		p = append(p, api.Change{What: what, Path: "d" + string(rune('a'+i))})
	}
	return p
}

// many gives the files that all makes.
func many(from, to int) []api.File {
	var t []api.File
	for _, c := range all(api.Make, from, to) {
		t = append(t, file(c.Path))
	}
	return t
}

func times(n int, s string) []string { return slices.Repeat([]string{s}, n) }

func equalHunk(x, y api.Hunk) bool {
	return x.Old == y.Old && x.New == y.New && slices.Equal(x.Marks, y.Marks)
}

func equal(a, b []api.Change) bool {
	return slices.EqualFunc(a, b, func(x, y api.Change) bool {
		return x.What == y.What && x.Path == y.Path && slices.EqualFunc(x.Hunks, y.Hunks, equalHunk)
	})
}

func equalFiles(a, b []api.File) bool {
	return slices.EqualFunc(a, b, func(x, y api.File) bool {
		return x.Path == y.Path && slices.Equal(x.Lines, y.Lines)
	})
}

// isNothing is P1 of DOC.md of a hunk.
func isNothing(h api.Hunk) bool {
	return h.Old == 0 && h.New == 0 && len(h.Marks) == 0
}

var over = strings.Repeat("x", 81)

// J1: worked out by hand.
func TestJoin(t *testing.T) {
	abc := files(file("a", "1", "2", "3", "4", "5"), file("b", "x"))
	for _, c := range []struct {
		name string
		in   []api.File
		p, q []api.Change
		n    int
		want []api.Change
	}{
		{"none of none", nil, nil, nil, 0, nil},
		{"none", abc, nil, nil, 3, nil},
		{"the first alone", abc, list(edited("a", on(0, "-1"))), nil, 0, list(edited("a", on(0, "-1")))},
		{"the second alone", abc, nil, list(wipe("b", on(0, "-x"))), 0, list(wipe("b", on(0, "-x")))},
		{"of two files", abc, list(wipe("b", on(0, "-x"))), list(edited("a", on(4, "-5"))), 0,
			list(edited("a", on(4, "-5")), wipe("b", on(0, "-x")))},
		{"the second stands where the first led", abc, list(edited("a", on(0, "+0"))), list(edited("a", on(5, "-5", "+6"))), 0,
			list(edited("a", on(0, "+0"), at(4, 5, "-5", "+6")))},
		{"with the context asked for", abc, list(edited("a", on(0, "+0"))), list(edited("a", on(5, "-5", "+6"))), 1,
			list(edited("a", on(0, "+0", " 1"), at(3, 4, " 4", "-5", "+6")))},
		{"with more of it the hunks are one", abc, list(edited("a", on(0, "+0"))), list(edited("a", on(5, "-5", "+6"))), 2,
			list(edited("a", on(0, "+0", " 1", " 2", " 3", " 4", "-5", "+6")))},
		{"the context of both counts nothing", abc, list(edited("a", on(0, "-1", " 2", " 3"))), list(edited("a", on(0, " 2", "-3"))), 0,
			list(edited("a", on(0, "-1"), at(2, 1, "-3")))},
		{"a line that is put and taken again", abc, list(edited("a", on(2, "+0"))), list(edited("a", on(2, "-0"))), 3, nil},
		{"a line that is taken and put again", abc, list(edited("b", on(0, "-x"))), list(edited("b", on(0, "+x"))), 3, nil},
		{"made and wiped", nil, list(made("a", on(0, "+x"))), list(wipe("a", on(0, "-x"))), 3, nil},
		{"wiped and made the same", abc, list(wipe("b", on(0, "-x"))), list(made("b", on(0, "+x"))), 3, nil},
		{"wiped and made otherwise", abc, list(wipe("b", on(0, "-x"))), list(made("b", on(0, "+y"))), 3,
			list(edited("b", on(0, "-x", "+y")))},
		{"made and edited", nil, list(made("a", on(0, "+x"))), list(edited("a", on(1, "+y"))), 0, list(made("a", on(0, "+x", "+y")))},
		{"made and emptied", nil, list(made("a", on(0, "+x"))), list(edited("a", on(0, "-x"))), 0, list(made("a"))},
		{"edited and wiped", abc, list(edited("b", on(0, "-x", "+y"))), list(wipe("b", on(0, "-y"))), 0, list(wipe("b", on(0, "-x")))},
		{"8 for 8", many(0, 8), all(api.Wipe, 0, 8), all(api.Make, 8, 16), 0, append(all(api.Wipe, 0, 8), all(api.Make, 8, 16)...)},
		{"n is 1000", abc, nil, list(edited("a", on(0, "-1"))), 1000, list(edited("a", on(0, "-1", " 2", " 3", " 4", " 5")))},
	} {
		got, err := Join(c.in, c.p, c.q, c.n)
		wantErr(t, "Join: "+c.name, err, api.OK)
		if !equal(got, c.want) {
			t.Errorf("Join: %s: got %v, want %v", c.name, got, c.want)
		}
	}
}

// J1: worked out by hand.
func TestInter(t *testing.T) {
	abc := files(file("a", "1", "2", "3", "4", "5"), file("b", "x"))
	for _, c := range []struct {
		name string
		in   []api.File
		p, q []api.Change
		n    int
		want []api.Change
	}{
		{"none of none", nil, nil, nil, 0, nil},
		{"none", abc, nil, nil, 3, nil},
		{"the first is turned", abc, list(edited("a", on(0, "-1"))), nil, 0, list(edited("a", on(0, "+1")))},
		{"the second alone", abc, nil, list(edited("a", on(0, "-1"))), 0, list(edited("a", on(0, "-1")))},
		{"both the same", abc, list(edited("a", on(0, "-1"))), list(edited("a", on(0, "-1"))), 0, nil},
		{"both the same, otherwise told", abc, list(edited("a", on(0, "-1", " 2"))), list(edited("a", on(0, "-1"))), 0, nil},
		{"both make it", nil, list(made("a", on(0, "+x"))), list(made("a", on(0, "+y"))), 0, list(edited("a", on(0, "-x", "+y")))},
		{"both wipe it", abc, list(wipe("b", on(0, "-x"))), list(wipe("b", on(0, "-x"))), 0, nil},
		{"the first wipes it", abc, list(wipe("b", on(0, "-x"))), nil, 0, list(made("b", on(0, "+x")))},
		{"one wipes, one edits", abc, list(wipe("b", on(0, "-x"))), list(edited("b", on(0, "+w"))), 0, list(made("b", on(0, "+w", "+x")))},
		{"one edits, one wipes", abc, list(edited("b", on(0, "+w"))), list(wipe("b", on(0, "-x"))), 0, list(wipe("b", on(0, "-w", "-x")))},
		{"one makes, one does not", nil, list(made("a")), nil, 0, list(wipe("a"))},
		{"at two places", abc, list(edited("a", on(0, "-1"))), list(edited("a", on(4, "-5", "+6"))), 0,
			list(edited("a", on(0, "+1"), at(3, 4, "-5", "+6")))},
		{"at two places, with context", abc, list(edited("a", on(0, "-1"))), list(edited("a", on(4, "-5", "+6"))), 1,
			list(edited("a", on(0, "+1", " 2"), at(2, 3, " 4", "-5", "+6")))},
		{"8 and 8", nil, all(api.Make, 0, 8), all(api.Make, 8, 16), 1000, append(all(api.Wipe, 0, 8), all(api.Make, 8, 16)...)},
	} {
		got, err := Inter(c.in, c.p, c.q, c.n)
		wantErr(t, "Inter: "+c.name, err, api.OK)
		if !equal(got, c.want) {
			t.Errorf("Inter: %s: got %v, want %v", c.name, got, c.want)
		}
	}
}

// J1: Apply's errors of p, then of q, then n. Of Join q is done behind p, of
// Inter it is not.
func TestJoinAndInterWrong(t *testing.T) {
	one := files(file("a", "x"))
	clash, none, wrong := list(edited("a", on(0, "-y"))), list(wipe("z")), list(api.Change{Path: "a"})
	for _, c := range []struct {
		name        string
		in          []api.File
		p, q        []api.Change
		n           int
		join, inter api.Errno
	}{
		{"a tree that falls", files(file("b"), file("a")), nil, nil, 0, api.ErrShape, api.ErrShape},
		{"a tree of a wrong path", files(file("A")), nil, nil, 0, api.ErrSyntax, api.ErrSyntax},
		{"9 files", many(0, 9), nil, nil, 0, api.ErrFull, api.ErrFull},
		{"p is no patch", one, wrong, nil, 0, api.ErrRange, api.ErrRange},
		{"q is no patch", one, nil, wrong, 0, api.ErrRange, api.ErrRange},
		{"p does not go", one, clash, nil, 0, api.ErrClash, api.ErrClash},
		{"q does not go", one, nil, clash, 0, api.ErrClash, api.ErrClash},
		{"p is of no file there", one, none, nil, 0, api.ErrNone, api.ErrNone},
		{"q is of no file there", one, nil, none, 0, api.ErrNone, api.ErrNone},
		{"q goes only behind p", one, list(edited("a", on(0, "-x", "+y"))), clash, 0, api.OK, api.ErrClash},
		{"q is of what p makes", one, list(made("z")), none, 0, api.OK, api.ErrNone},
		{"q goes only without p", one, list(wipe("a", on(0, "-x"))), list(edited("a", on(0, "-x"))), 0, api.ErrNone, api.OK},
		{"both make it", one, list(made("b")), list(made("b")), 0, api.ErrClash, api.OK},
		{"p makes a ninth file", many(0, 8), all(api.Make, 8, 9), all(api.Wipe, 0, 1), 0, api.ErrFull, api.ErrFull},
		{"q makes a ninth file", many(0, 8), nil, all(api.Make, 8, 9), 0, api.ErrFull, api.ErrFull},
		{"q has room behind p", many(0, 8), all(api.Wipe, 0, 1), all(api.Make, 8, 9), 0, api.OK, api.ErrFull},
		{"q has no room behind p", many(0, 7), all(api.Make, 7, 8), all(api.Make, 8, 9), 0, api.ErrFull, api.OK},
		{"p leads to 61 lines", files(file("a", times(60, "x")...)), list(edited("a", on(0, "+x"))), list(edited("a", on(0, "-x"))), 0, api.ErrFull, api.ErrFull},

		{"n is -1", one, nil, nil, -1, api.ErrRange, api.ErrRange},
		{"n is 1001", one, nil, nil, 1001, api.ErrRange, api.ErrRange},
		{"n is great", nil, nil, nil, math.MaxInt, api.ErrRange, api.ErrRange},
		{"n is small", nil, nil, nil, math.MinInt, api.ErrRange, api.ErrRange},
		{"n is -1 where something is to be told", one, list(wipe("a", on(0, "-x"))), nil, -1, api.ErrRange, api.ErrRange},
		{"n is 1000", one, nil, nil, 1000, api.OK, api.OK},

		{"the tree comes ahead of p", files(file("A")), wrong, nil, 0, api.ErrSyntax, api.ErrSyntax},
		{"the tree comes ahead of n", files(file("A")), nil, nil, -1, api.ErrSyntax, api.ErrSyntax},
		{"p comes ahead of q", one, none, clash, 0, api.ErrNone, api.ErrNone},
		{"p comes ahead of q, the other way round", one, clash, none, 0, api.ErrClash, api.ErrClash},
		{"p comes ahead of a q that is no patch", one, clash, wrong, 0, api.ErrClash, api.ErrClash},
		{"p comes ahead of n", one, clash, nil, -1, api.ErrClash, api.ErrClash},
		{"q comes ahead of n", one, nil, clash, -1, api.ErrClash, api.ErrClash},
	} {
		joined, err := Join(c.in, c.p, c.q, c.n)
		wantErr(t, "Join: "+c.name, err, c.join)
		if err != nil && len(joined) != 0 {
			t.Errorf("Join: %s: %v beside an error", c.name, joined)
		}
		led, err := Inter(c.in, c.p, c.q, c.n)
		wantErr(t, "Inter: "+c.name, err, c.inter)
		if err != nil && len(led) != 0 {
			t.Errorf("Inter: %s: %v beside an error", c.name, led)
		}
	}
}

// smallTrees are all trees of up to two paths, each with one of some files.
func smallTrees() [][]api.File {
	trees := [][]api.File{nil}
	for _, path := range []string{"a", "b"} {
		for _, t := range trees[:len(trees):len(trees)] {
			for _, lines := range [][]string{nil, {"x"}, {"y", "x"}, {"x", "z", "x", "y"}} {
				trees = append(trees, append(slices.Clone(t), file(path, lines...)))
			}
		}
	}
	return trees
}

// diff is Diff of trees that are known to be good.
func diff(t *testing.T, a, b []api.File, n int) []api.Change {
	t.Helper()
	p, err := patch.Diff(a, b, n)
	if err != nil {
		t.Fatalf("Diff(%v, %v, %d): got %v", a, b, n, err)
	}
	return p
}

// J1: whatever the patches are, both lead to the same as what is found from
// tree to tree.
func TestBothLeadToTheSame(t *testing.T) {
	trees := smallTrees()
	for i, a := range trees {
		for j, b := range trees {
			p := diff(t, a, b, j%3)
			for k, c := range trees {
				n := (i + j + k) % 4
				joined, err := Join(a, p, diff(t, b, c, k%3), n)
				if err != nil || !equal(joined, diff(t, a, c, n)) {
					t.Fatalf("Join from %v to %v to %v: got %v, %v", a, b, c, joined, err)
				}
				led, err := Inter(a, p, diff(t, a, c, k%3), n)
				if err != nil || !equal(led, diff(t, b, c, n)) {
					t.Fatalf("Inter from %v to %v and %v: got %v, %v", a, b, c, led, err)
				}
			}
		}
	}
}

// J2: worked out by hand.
func TestSplit(t *testing.T) {
	for _, c := range []struct {
		name string
		in   []api.Change
		want [][]api.Change
	}{
		{"none", nil, nil},
		{"none, not nil", []api.Change{}, nil},
		{"made without lines", list(made("a")), [][]api.Change{list(made("a"))}},
		{"wiped without lines", list(wipe("a")), [][]api.Change{list(wipe("a"))}},
		{"made", list(made("a", on(0, "+x", "+y"))), [][]api.Change{list(made("a", on(0, "+x", "+y")))}},
		{"wiped", list(wipe("a", on(0, "-x", "-y"))), [][]api.Change{list(wipe("a", on(0, "-x", "-y")))}},
		{"made of 60 lines", list(made("a", on(0, times(60, "+x")...))), [][]api.Change{list(made("a", on(0, times(60, "+x")...)))}},
		{"one hunk", list(edited("a", on(3, " x", "-y", "+z"))), [][]api.Change{list(edited("a", on(3, " x", "-y", "+z")))}},
		{"two hunks, the first puts", list(edited("a", on(0, "+x", "+y"), at(5, 7, "-z"))),
			[][]api.Change{list(edited("a", on(0, "+x", "+y"))), list(edited("a", on(7, "-z")))}},
		{"two hunks, the first takes", list(edited("a", on(0, "-x"), at(5, 4, "-z"))),
			[][]api.Change{list(edited("a", on(0, "-x"))), list(edited("a", on(4, "-z")))}},
		{"two hunks that touch", list(edited("a", on(0, "-x"), at(1, 0, "-y"))),
			[][]api.Change{list(edited("a", on(0, "-x"))), list(edited("a", on(0, "-y")))}},
		{"two hunks at one place", list(edited("a", on(2, "+x"), at(2, 3, "+y"))),
			[][]api.Change{list(edited("a", on(2, "+x"))), list(edited("a", on(3, "+y")))}},
		{"three hunks", list(edited("a", on(1, "+x"), at(4, 5, "-y", "-y"), at(9, 8, " z", "+z"))),
			[][]api.Change{list(edited("a", on(1, "+x"))), list(edited("a", on(5, "-y", "-y"))), list(edited("a", on(8, " z", "+z")))}},
		{"of every kind", list(wipe("a"), edited("b", on(0, "-x"), at(4, 3, "+y")), made("c", on(0, "+x")), edited("d", on(7, "+z"))),
			[][]api.Change{list(wipe("a")), list(edited("b", on(0, "-x"))), list(edited("b", on(3, "+y"))), list(made("c", on(0, "+x"))), list(edited("d", on(7, "+z")))}},
		{"as much as ends at 60", list(edited("a", on(0, "+x", "+x"), at(56, 58, "-y", "-y"))),
			[][]api.Change{list(edited("a", on(0, "+x", "+x"))), list(edited("a", on(58, "-y", "-y")))}},
		{"too many lines between are not told of", list(edited("a", on(0, "+x"), at(58, 59, "-y"))),
			[][]api.Change{list(edited("a", on(0, "+x"))), list(edited("a", on(59, "-y")))}},
	} {
		got, err := Split(c.in)
		wantErr(t, "Split: "+c.name, err, api.OK)
		if !slices.EqualFunc(got, c.want, equal) {
			t.Errorf("Split: %s: got %v, want %v", c.name, got, c.want)
		}
	}
}

// J2: chapter 7's Check's error, ahead of a hunk that would end behind 60.
func TestSplitWrong(t *testing.T) {
	late := edited("b", on(0, "+x"), at(59, 60, "-y"))
	for _, c := range []struct {
		name string
		in   []api.Change
		want api.Errno
	}{
		{"17 changes", all(api.Make, 0, 17), api.ErrFull},
		{"What is none", list(made("a"), api.Change{Path: "b"}), api.ErrRange},
		{"a wrong path", list(made("a/")), api.ErrSyntax},
		{"a hunk that changes nothing", list(edited("a", on(0, " x"))), api.ErrNone},
		{"a long line", list(edited("a", on(0, "+"+over))), api.ErrFull},
		{"hunks that fall", list(edited("a", on(3, "-x"), at(2, 1, "-x"))), api.ErrShape},
		{"a hunk by itself already", list(edited("a", on(0, "+x"), on(7, "-x"))), api.ErrShape},
		{"an edit without a hunk", list(edited("a")), api.ErrShape},
		{"made with a line taken", list(made("a", on(0, "-x"))), api.ErrShape},
		{"twice", list(made("a"), wipe("a")), api.ErrShape},

		{"the old lines would end at 61", list(late), api.ErrRange},
		{"the old lines would end at 61, behind others", list(made("a"), late, made("c")), api.ErrRange},
		{"the third would end at 62", list(edited("a", on(0, "+x", "+x"), at(3, 5, "-y", "+z"), at(58, 60, "-y", "-y"))), api.ErrRange},
		{"the old lines would end at 119", list(edited("a", on(0, times(59, "+x")...), at(0, 59, times(60, "-y")...))), api.ErrRange},
		{"the check comes ahead of the end", list(late, made("A")), api.ErrSyntax},
		{"the check comes ahead of the end, of a fall", list(late, made("a")), api.ErrShape},
	} {
		got, err := Split(c.in)
		wantErr(t, "Split: "+c.name, err, c.want)
		if len(got) != 0 {
			t.Errorf("Split: %s: %v beside an error", c.name, got)
		}
	}
}

// J2: of one hunk each, and one behind the other they do the same.
func TestPieceByPiece(t *testing.T) {
	trees := smallTrees()
	several := 0
	for _, a := range trees {
		for _, b := range trees {
			for n := range 3 {
				p := diff(t, a, b, n)
				pieces, err := Split(p)
				if err != nil {
					t.Fatalf("Split(%v): got %v", p, err)
				}
				if len(pieces) > len(p) {
					several++
				}
				done := a
				for _, piece := range pieces {
					if len(piece) != 1 || len(piece[0].Hunks) > 1 {
						t.Fatalf("Split(%v): got %v, which is not of one hunk", p, piece)
					}
					done, _, err = patch.Apply(done, piece)
					if err != nil {
						t.Fatalf("Split(%v): got %v, of which %v does not go: %v", p, pieces, piece, err)
					}
				}
				if !equalFiles(done, b) {
					t.Fatalf("Split(%v): got %v, which leads to %v, not %v", p, pieces, done, b)
				}
			}
		}
	}
	if several < 50 {
		t.Errorf("a change of several hunks was met only %d times", several)
	}
}

// J3: worked out by hand.
func TestSwap(t *testing.T) {
	for _, c := range []struct {
		name              string
		h, k, first, then api.Hunk
	}{
		{"k behind what h puts", on(0, "+x"), on(3, "-y"), on(2, "-y"), on(0, "+x")},
		{"k behind what h takes", on(0, "-x", "-x"), on(3, "-y"), on(5, "-y"), on(0, "-x", "-x")},
		{"k behind what h changes", on(0, "-x", "+z"), on(3, "-y"), on(3, "-y"), on(0, "-x", "+z")},
		{"k behind what h keeps", on(1, " x", "+z", " x"), on(4, "-y"), on(3, "-y"), on(1, " x", "+z", " x")},
		{"k just behind what h puts", on(5, "+x"), on(6, "+y"), on(5, "+y"), on(5, "+x")},
		{"k just behind what h takes", on(5, "-x"), on(5, "-y"), on(6, "-y"), on(5, "-x")},
		{"k puts behind what h takes", on(5, "-x"), on(6, "+y"), on(7, "+y"), on(5, "-x")},
		{"k puts ahead of h", on(3, "-y"), on(0, "+x", "+z"), on(0, "+x", "+z"), on(5, "-y")},
		{"k takes ahead of h", on(3, "-y"), on(0, "-x"), on(0, "-x"), on(2, "-y")},
		{"k changes ahead of h", on(3, "-y"), on(0, "-x", "+z"), on(0, "-x", "+z"), on(3, "-y")},
		{"k keeps ahead of h", on(3, " y", "+w"), on(0, " x", "-x", "-x"), on(0, " x", "-x", "-x"), on(1, " y", "+w")},
		{"k takes just ahead of h", on(3, "+y"), on(2, "-x"), on(2, "-x"), on(2, "+y")},
		{"k puts just ahead of what h puts", on(3, "+y"), on(3, "+x"), on(3, "+x"), on(4, "+y")},
		{"k puts ahead of what h takes", on(3, "-y"), on(2, "+x"), on(2, "+x"), on(4, "-y")},
		{"k takes all ahead of h", on(2, "+y"), on(0, "-x", "-x"), on(0, "-x", "-x"), on(0, "+y")},
		{"h ends at 60", on(58, "-y"), on(0, "+x"), on(0, "+x"), on(59, "-y")},
		{"k ends at 60", on(0, "-x"), on(58, "+y"), on(59, "+y"), on(0, "-x")},
	} {
		first, then, err := Swap(c.h, c.k)
		wantErr(t, "Swap: "+c.name, err, api.OK)
		if !equalHunk(first, c.first) || !equalHunk(then, c.then) {
			t.Errorf("Swap: %s: got %v, %v, want %v, %v", c.name, first, then, c.first, c.then)
		}
	}
}

// J3: chapter 3's Check of h, then of k, then what is said of both.
func TestSwapWrong(t *testing.T) {
	good := on(9, "+x")
	for _, c := range []struct {
		name string
		h, k api.Hunk
		want api.Errno
	}{
		{"h is none", api.Hunk{}, good, api.ErrNone},
		{"k is none", good, api.Hunk{}, api.ErrNone},
		{"h has a wrong sign", on(0, "!x"), good, api.ErrRange},
		{"k has byte 10", good, on(0, "+\n"), api.ErrShape},
		{"h has a long line", on(0, "+"+over), good, api.ErrFull},
		{"k has 121 marks", good, on(0, times(121, "+x")...), api.ErrFull},
		{"h changes nothing", on(0, " x"), good, api.ErrNone},
		{"h begins ahead of 0", on(-1, "-x"), good, api.ErrRange},
		{"k ends behind 60", good, on(60, "-x"), api.ErrRange},
		{"k's numbers are the greatest", good, on(math.MaxInt, "-x"), api.ErrRange},
		{"h's numbers are the least", on(math.MinInt, "-x"), good, api.ErrRange},
		{"h's Old is not its New", at(3, 4, "+x"), good, api.ErrShape},
		{"k's Old is not its New", good, at(3, 4, "+x"), api.ErrShape},
		{"k as it stands in a list behind h", on(0, "+x"), at(3, 4, "-y"), api.ErrShape},
		{"h comes ahead of k", on(0, " x"), on(0, "+\n"), api.ErrNone},
		{"h comes ahead of k, the other way round", on(0, "+\n"), on(0, " x"), api.ErrShape},
		{"k comes ahead of what both are", on(3, "-x"), at(3, 4, "+y"), api.ErrShape},

		{"k takes what h puts", on(3, "+x"), on(3, "-x"), api.ErrClash},
		{"k takes what h keeps ahead", on(3, " x", "+y"), on(3, "-x"), api.ErrClash},
		{"k takes what h keeps behind", on(3, "+y", " x"), on(4, "-x"), api.ErrClash},
		{"k keeps what h puts", on(3, "+y"), on(3, " y", "+x"), api.ErrClash},
		{"k puts within what h puts", on(3, "+x", "+y"), on(4, "+z"), api.ErrClash},
		{"k takes all around h", on(3, "+x"), on(2, "-w", "-x", "-y"), api.ErrClash},
		{"k takes around what h took", on(3, "-x"), on(2, "-w", "-y"), api.ErrClash},
		{"k begins one line within h", on(3, "+x", "+y"), on(4, "-y", "-z"), api.ErrClash},
		{"k ends one line within h", on(3, "+x", "+y"), on(2, "-w", "-x"), api.ErrClash},
		{"k puts where h took: ahead and behind", on(3, "-x"), on(3, "+y"), api.ErrClash},

		{"h's old lines would end at 61", on(59, "-y"), on(0, "+x", "+x"), api.ErrRange},
		{"h's new lines would end at 61", on(58, "+y"), on(0, "+x", "+x"), api.ErrRange},
		{"h would begin behind 60", on(58, "-y"), on(0, times(60, "+x")...), api.ErrRange},
		{"k's old lines would end at 61", on(0, "-x", "-x"), on(58, "-y"), api.ErrRange},
		{"k's new lines would end at 61", on(0, "-x", "-x"), on(58, "+y"), api.ErrRange},
		{"k would begin behind 60", on(0, times(60, "-x")...), on(59, "+y"), api.ErrRange},
	} {
		first, then, err := Swap(c.h, c.k)
		wantErr(t, "Swap: "+c.name, err, c.want)
		if !isNothing(first) || !isNothing(then) {
			t.Errorf("Swap: %s: %v, %v beside an error", c.name, first, then)
		}
	}
}

// hunksOf are all hunks of a file of up to three old lines, each kept or taken,
// with up to two lines put ahead of one of them, or behind.
func hunksOf(a []string, put string) []api.Hunk {
	var l []api.Hunk
	for place := range len(a) + 1 {
		for size := range min(3, len(a)-place) + 1 {
			for taken := range 1 << size {
				h := api.Hunk{Old: place, New: place}
				for i, s := range a[place : place+size] {
					h.Marks = append(h.Marks, api.Mark{Sign: " -"[taken>>i&1], Text: s})
				}
				if taken > 0 {
					l = append(l, h)
				}
				for where := range size + 1 {
					for n := 1; n <= 2; n++ {
						with := h
						with.Marks = slices.Insert(slices.Clone(h.Marks), where, slices.Repeat([]api.Mark{{Sign: api.Put, Text: put}}, n)...)
						l = append(l, with)
					}
				}
			}
		}
	}
	return l
}

func strict(t *testing.T, a []string, h api.Hunk) []string {
	t.Helper()
	b, _, err := apply.Strict(a, []api.Hunk{h})
	if err != nil {
		t.Fatalf("Strict(%v, %v): got %v", a, h, err)
	}
	return b
}

// sides are where k is of h, line by line: none of its old lines is, nor does
// it stand, behind where h's new lines begin, or none ahead of where they end.
func sides(h, k api.Hunk) (isAhead, isBehind bool) {
	_, size := hunk.Size(h)
	old, _ := hunk.Size(k)
	isAhead, isBehind = k.Old <= h.New, k.Old >= h.New+size
	for i := k.Old; i < k.Old+old; i++ {
		isAhead = isAhead && i < h.New
		isBehind = isBehind && i >= h.New+size
	}
	return isAhead, isBehind
}

// J3: of all small hunks those that are on just one side are swapped, do the
// same, and are as they were when they are swapped back, if they can be.
func TestTheOtherWayRound(t *testing.T) {
	a := []string{"1", "2", "3", "4", "5"}
	counts := map[api.Errno]int{}
	for _, h := range hunksOf(a, "x") {
		b := strict(t, a, h)
		for _, k := range hunksOf(b, "y") {
			isAhead, isBehind := sides(h, k)
			first, then, err := Swap(h, k)
			counts[plain.Told(err)]++
			if isAhead == isBehind {
				wantErr(t, fmt.Sprint("Swap ", h, k), err, api.ErrClash)
				continue
			}
			if err != nil || !slices.Equal(first.Marks, k.Marks) || !slices.Equal(then.Marks, h.Marks) {
				t.Fatalf("Swap(%v, %v): got %v, %v, %v", h, k, first, then, err)
			}
			if want, got := strict(t, b, k), strict(t, strict(t, a, first), then); !slices.Equal(got, want) {
				t.Fatalf("Swap(%v, %v): got %v, %v, which lead to %v, not %v", h, k, first, then, got, want)
			}
			isAhead, isBehind = sides(first, then)
			if h2, k2, err := Swap(first, then); isAhead != isBehind && (err != nil || !equalHunk(h2, h) || !equalHunk(k2, k)) {
				t.Fatalf("Swap(%v, %v): got %v, %v, %v, not %v, %v", first, then, h2, k2, err, h, k)
			}
		}
	}
	for _, e := range []api.Errno{api.OK, api.ErrClash} {
		if counts[e] < 1000 {
			t.Errorf("%v was met only %d times", e, counts[e])
		}
	}
}

// J2 and J3: pieces that stand apart can be swapped.
func TestPiecesAreSwapped(t *testing.T) {
	a := []string{"1", "2", "3", "4", "5", "6"}
	for _, b := range [][]string{{"1", "x", "3", "4", "5"}, {"2", "3", "4", "5", "x", "y", "6"}, {"0", "1", "2", "4", "5", "6"}} {
		in := files(file("a", a...))
		pieces, err := Split(diff(t, in, files(file("a", b...)), 0))
		if err != nil || len(pieces) != 2 {
			t.Fatalf("Split to %v: got %v, %v", b, pieces, err)
		}
		first, then, err := Swap(pieces[0][0].Hunks[0], pieces[1][0].Hunks[0])
		if err != nil {
			t.Fatalf("Swap of %v: got %v", pieces, err)
		}
		if got := strict(t, strict(t, a, first), then); !slices.Equal(got, b) {
			t.Errorf("Swap of %v: got %v, %v, which lead to %v, not %v", pieces, first, then, got, b)
		}
	}
}

// P1 of DOC.md: no numbers make a call panic.
func TestNoNumberPanics(t *testing.T) {
	numbers := []int{math.MinInt, -1, 0, 1, 2, 3, 59, 60, 61, math.MaxInt}
	in := files(file("a", "x", "y"))
	var l []api.Hunk
	for _, old := range numbers {
		for _, new := range numbers {
			l = append(l, at(old, new), at(old, new, "+x"), at(old, new, "-x"), at(old, new, " y"))
		}
	}
	for i, h := range l {
		for _, what := range numbers {
			p := list(api.Change{What: what, Path: "a", Hunks: []api.Hunk{h, l[(i+5)%len(l)]}})
			Split(p)
			Join(in, p, p, what)
			Inter(in, p, p, what)
		}
		for _, k := range l {
			Swap(h, k)
		}
	}
}

// scribble writes into all of a patch that can be written into, and behind it.
func scribble(p []api.Change) {
	for _, c := range p {
		for _, h := range c.Hunks {
			scribbleMarks(h)
		}
		l := c.Hunks[:cap(c.Hunks)]
		for j := range l {
			l[j] = on(-1, "!changed")
		}
	}
	p = p[:cap(p)]
	for i := range p {
		p[i] = api.Change{What: -1, Path: "changed"}
	}
}

func scribbleMarks(h api.Hunk) {
	m := h.Marks[:cap(h.Marks)]
	for i := range m {
		m[i] = api.Mark{Sign: '!', Text: "changed"}
	}
}

// withBehind gives a hunk behind the marks of which lies one that is wrong.
func withBehind(place int, words ...string) api.Hunk {
	h := on(place, append(words, "!behind")...)
	h.Marks = h.Marks[:len(words)]
	return h
}

// dump tells all that lies in lists, and behind their length.
func dump(t []api.File, l ...[]api.Change) string {
	var s strings.Builder
	for _, f := range t[:cap(t)] {
		fmt.Fprintf(&s, "%q %q\n", f.Path, f.Lines[:cap(f.Lines)])
	}
	for _, p := range l {
		for _, c := range p[:cap(p)] {
			fmt.Fprintf(&s, "%d %q\n", c.What, c.Path)
			for _, h := range c.Hunks[:cap(c.Hunks)] {
				fmt.Fprintf(&s, "%d %d %v\n", h.Old, h.New, h.Marks[:cap(h.Marks)])
			}
		}
	}
	return s.String()
}

// P2 and P4 of DOC.md: nothing that was handed in is written into, nor read
// behind its length, nor shares memory with an answer.
func TestListsAreLeftAlone(t *testing.T) {
	in := files(file("a", "x", "y", "\n"), file("b"), file("A"))[:2]
	in[0].Lines = in[0].Lines[:2]
	p := list(edited("a", withBehind(0, "-x"), on(-1)), made("c", withBehind(0, "+z")), made("A"))[:2]
	p[0].Hunks = p[0].Hunks[:1]
	q := list(edited("a", withBehind(1, "+w")), wipe("b"), made("A"))[:2]
	whole := dump(in, p, q)
	joined, err := Join(in, p, q, 0)
	if err != nil || !equal(joined, list(edited("a", on(0, "-x"), at(2, 1, "+w")), wipe("b"), made("c", on(0, "+z")))) {
		t.Errorf("Join: got %v, %v", joined, err)
	}
	led, err := Inter(in, p, q, 0)
	if err != nil || !equal(led, list(edited("a", on(0, "+x", "+w")), wipe("b"), wipe("c", on(0, "-z")))) {
		t.Errorf("Inter: got %v, %v", led, err)
	}
	pieces, err := Split(p)
	if err != nil || !slices.EqualFunc(pieces, [][]api.Change{p[:1], p[1:]}, equal) {
		t.Errorf("Split: got %v, %v", pieces, err)
	}
	h, k := p[0].Hunks[0], q[0].Hunks[0]
	first, then, err := Swap(h, k)
	if err != nil || !equalHunk(first, on(2, "+w")) || !equalHunk(then, h) {
		t.Errorf("Swap: got %v, %v, %v", first, then, err)
	}
	scribble(joined)
	scribble(led)
	for _, piece := range pieces {
		scribble(piece)
	}
	scribbleMarks(first)
	scribbleMarks(then)
	if now := dump(in, p, q); now != whole {
		t.Errorf("%s changed to %s", whole, now)
	}
}

// P2 of DOC.md: no two lists of an answer share memory, even where what was
// handed in does.
func TestAnswersAreFreshMemory(t *testing.T) {
	hunks := []api.Hunk{on(0, "+x")}
	pieces, _ := Split(list(made("a", hunks...), edited("b", hunks[0], api.Hunk{Old: 1, New: 2, Marks: hunks[0].Marks}), wipe("c")))
	want := [][]api.Change{list(edited("b", on(0, "+x"))), list(edited("b", on(2, "+x"))), list(wipe("c"))}
	for _, piece := range pieces {
		_ = append(piece, made("changed"))
		_ = append(piece[0].Hunks, on(-1))
	}
	scribble(pieces[0])
	if !slices.EqualFunc(pieces[1:], want, equal) {
		t.Errorf("Split: the patches share memory: %v", pieces)
	}
	h := on(3, "+x")
	first, then, _ := Swap(h, api.Hunk{Old: 1, New: 1, Marks: h.Marks})
	scribbleMarks(first)
	if !equalHunk(then, on(4, "+x")) {
		t.Errorf("Swap: the marks of one hunk are those of the other one: %v", then)
	}
}
