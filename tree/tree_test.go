package tree

import (
	"cmp"
	"slices"
	"strconv"
	"strings"
	"testing"

	"handstitch/api"
	"handstitch/plain"
)

func wantErr(t *testing.T, what string, err error, want api.Errno) {
	t.Helper()
	if got := plain.Told(err); got != want || (err == nil) != (want == api.OK) {
		t.Errorf("%s: got error %v (%v), want %v", what, err, got, want)
	}
}

func file(path string, lines ...string) api.File {
	return api.File{Path: path, Lines: lines}
}

func list(l ...api.File) []api.File { return l }

// named gives files without lines.
func named(paths ...string) []api.File {
	var t []api.File
	for _, p := range paths {
		t = append(t, file(p))
	}
	return t
}

// many gives n files that rise: d0, d1, ..
func many(n int) []api.File {
	var t []api.File
	for i := range n {
		t = append(t, file("d"+strconv.Itoa(i)))
	}
	return t
}

func times(n int, s string) []string {
	l := make([]string, n)
	for i := range l {
		l[i] = s
	}
	return l
}

func equal(a, b []api.File) bool {
	return slices.EqualFunc(a, b, func(x, y api.File) bool {
		return x.Path == y.Path && slices.Equal(x.Lines, y.Lines)
	})
}

// clone is not Copy, so that Copy is not held against itself.
func clone(t []api.File) []api.File {
	var out []api.File
	for _, f := range t {
		out = append(out, file(f.Path, slices.Clone(f.Lines)...))
	}
	return out
}

// full is as long as a line, or a path, may be; over has one byte more.
var (
	full     = strings.Repeat("x", 80)
	over     = strings.Repeat("x", 81)
	fullPath = strings.Repeat("p", 20)
	overPath = strings.Repeat("p", 21)
)

// checks are what Check tells, which Get, Put and Drop tell too.
var checks = []struct {
	name  string
	in    []api.File
	place int
	want  api.Errno
}{
	{"nil", nil, 0, api.OK},
	{"empty", []api.File{}, 0, api.OK},
	{"one without lines", named("a"), 0, api.OK},
	{"ordinary", list(file("a", "x"), file("b"), file("c/d.e", "y", "", "z")), 0, api.OK},
	{"rising by bytes", named("-", ".a", "0", "a", "a-", "a.", "a/b", "aa"), 0, api.OK},
	{"a longer one behind its beginning", named("a", "a-", "aa"), 0, api.OK},
	{"8 files", many(8), 0, api.OK},
	{"full in every way", list(file(fullPath, times(60, full)...)), 0, api.OK},

	{"9 files", many(9), 0, api.ErrFull},
	{"an empty path", named(""), 0, api.ErrSyntax},
	{"a wrong path", named("a", "b", "C"), 2, api.ErrSyntax},
	{"a path of a wrong name", named("a", "b/.."), 1, api.ErrSyntax},
	{"a path that is too long", named("a", overPath), 1, api.ErrFull},
	{"the last of 8 is wrong", append(many(7), file("d7", "\n")), 7, api.ErrShape},
	{"too many lines", list(file("a"), file("b", times(61, "")...)), 1, api.ErrFull},
	{"a line that is too long", list(file("a", "x", over)), 0, api.ErrFull},
	{"byte 10 in a line", list(file("a"), file("b", "x", "y\n")), 1, api.ErrShape},
	{"falling", named("b", "a"), 1, api.ErrShape},
	{"falling at the end", named("a", "b", "d", "c"), 3, api.ErrShape},
	{"twice", named("a", "a"), 1, api.ErrShape},
	{"twice, with other lines", list(file("a", "x"), file("b", "x"), file("b", "y")), 2, api.ErrShape},
	{"a beginning behind the longer one", named("ab", "a"), 1, api.ErrShape},
	{"by bytes, not name by name", named("a/b", "a-"), 1, api.ErrShape},
	{"letters stand behind digits", named("a", "0"), 1, api.ErrShape},

	{"too many comes ahead of a wrong path", append(many(8), file("")), 0, api.ErrFull},
	{"too many comes ahead of a fall", append(named("b", "a"), many(7)...), 0, api.ErrFull},
	{"too many comes ahead of wrong lines", append(list(file("a", "\n")), many(8)...), 0, api.ErrFull},
	{"a path comes ahead of lines", list(file("A", "\n")), 0, api.ErrSyntax},
	{"a path that is too long comes ahead of lines", list(file(overPath, "\n")), 0, api.ErrFull},
	{"a path comes ahead of a fall", named("b", "A"), 1, api.ErrSyntax},
	{"a path that is too long comes ahead of a fall", named("q", overPath), 1, api.ErrFull},
	{"lines come ahead of a fall", list(file("b"), file("a", over)), 1, api.ErrFull},
	{"lines come ahead of what is there twice", list(file("a"), file("a", times(61, "")...)), 1, api.ErrFull},
	{"a fall comes ahead of a later path", named("b", "a", "C"), 1, api.ErrShape},
	{"a fall comes ahead of later lines", list(file("b"), file("a"), file("c", over)), 1, api.ErrShape},
	{"a later path comes behind lines", list(file("a", "\n"), file("B")), 0, api.ErrShape},
	{"the first of two falls", named("c", "b", "a"), 1, api.ErrShape},
}

func TestCheck(t *testing.T) {
	for _, c := range checks {
		place, err := Check(c.in)
		wantErr(t, "Check: "+c.name, err, c.want)
		if place != c.place {
			t.Errorf("Check: %s: got place %d, want %d", c.name, place, c.place)
		}
	}
}

func TestOthersTellWhatCheckTells(t *testing.T) {
	for _, c := range checks {
		if c.want == api.OK {
			continue
		}
		// What is handed in beside the tree is wrong too: the tree comes first.
		for _, path := range []string{"a", "z", "", "A", overPath} {
			lines, err := Get(c.in, path)
			wantErr(t, "Get: "+c.name, err, c.want)
			dropped, err := Drop(c.in, path)
			wantErr(t, "Drop: "+c.name, err, c.want)
			put, err := Put(c.in, file(path, "\n"))
			wantErr(t, "Put: "+c.name, err, c.want)
			if len(lines) != 0 || len(dropped) != 0 || len(put) != 0 {
				t.Errorf("%s: %q, %q, %q beside an error", c.name, lines, dropped, put)
			}
		}
	}
}

func TestGet(t *testing.T) {
	tree := list(file("a", "x"), file("b"), file("c/d", "y", "", "y"), file(fullPath, times(60, full)...))
	for _, f := range tree {
		lines, err := Get(tree, f.Path)
		wantErr(t, "Get", err, api.OK)
		if !slices.Equal(lines, f.Lines) {
			t.Errorf("Get(%s): got %q, want %q", f.Path, lines, f.Lines)
		}
	}
}

// wrongPaths are asked of Get, Drop and Put.
var wrongPaths = []struct {
	path string
	want api.Errno
}{
	{"", api.ErrSyntax},
	{"B", api.ErrSyntax},
	{"b/", api.ErrSyntax},
	{"./b", api.ErrSyntax},
	{"b\x00", api.ErrSyntax},
	{overPath, api.ErrFull},
	{strings.Repeat("/", 21), api.ErrFull},
}

func TestGetAndDropWrong(t *testing.T) {
	for _, tree := range [][]api.File{nil, named("b"), named("b", "d", "f"), many(8)} {
		cases := slices.Clone(wrongPaths)
		for _, path := range []string{"a", "b.", "c", "b/c", "e", "g", "d8"} {
			cases = append(cases, struct {
				path string
				want api.Errno
			}{path, api.ErrNone})
		}
		for _, c := range cases {
			lines, err := Get(tree, c.path)
			wantErr(t, "Get "+c.path, err, c.want)
			less, err := Drop(tree, c.path)
			wantErr(t, "Drop "+c.path, err, c.want)
			if len(lines) != 0 || len(less) != 0 {
				t.Errorf("%s: %q, %q beside an error", c.path, lines, less)
			}
		}
	}
}

func TestPut(t *testing.T) {
	for _, c := range []struct {
		name string
		in   []api.File
		f    api.File
		want []api.File
	}{
		{"into none", nil, file("a", "x"), list(file("a", "x"))},
		{"one without lines", nil, file("a"), named("a")},
		{"ahead", named("b", "c"), file("a", "x"), list(file("a", "x"), file("b"), file("c"))},
		{"between", list(file("a", "y"), file("c", "z")), file("b", "x"), list(file("a", "y"), file("b", "x"), file("c", "z"))},
		{"behind", named("a", "b"), file("c", "x"), list(file("a"), file("b"), file("c", "x"))},
		{"a longer path behind its beginning", named("a", "b"), file("aa"), named("a", "aa", "b")},
		{"by bytes", named("a", "a/b"), file("a-"), named("a", "a-", "a/b")},
		{"in the place of the only one", list(file("a", "x", "y")), file("a", "z"), list(file("a", "z"))},
		{"in the place of the first", list(file("a", "x"), file("b", "y")), file("a", "z"), list(file("a", "z"), file("b", "y"))},
		{"in the place of one between", list(file("a", "x"), file("b", "y"), file("c", "y")), file("b", "z", "z"), list(file("a", "x"), file("b", "z", "z"), file("c", "y"))},
		{"in the place of the last", list(file("a", "x"), file("b", "y")), file("b"), list(file("a", "x"), file("b"))},
		{"the same again", list(file("a", "x")), file("a", "x"), list(file("a", "x"))},
		{"as an eighth", many(7), file("d7", "x"), append(many(7), file("d7", "x"))},
		{"as an eighth, ahead", many(7), file("a"), append(named("a"), many(7)...)},
		{"in the place of the last of 8", many(8), file("d7", "x"), append(many(7), file("d7", "x"))},
		{"in the place of the first of 8", many(8), file("d0", "x"), append(list(file("d0", "x")), many(8)[1:]...)},
		{"full in every way", nil, file(fullPath, times(60, full)...), list(file(fullPath, times(60, full)...))},
	} {
		got, err := Put(c.in, c.f)
		wantErr(t, "Put: "+c.name, err, api.OK)
		if !equal(got, c.want) {
			t.Errorf("Put: %s: got %q, want %q", c.name, got, c.want)
		}
	}
}

func TestPutWrong(t *testing.T) {
	type one struct {
		name string
		in   []api.File
		f    api.File
		want api.Errno
	}
	cases := []one{
		{"byte 10", nil, file("a", "x", "\n"), api.ErrShape},
		{"a line that is too long", nil, file("a", over), api.ErrFull},
		{"too many lines", nil, file("a", times(61, "")...), api.ErrFull},
		{"byte 10 in the place of one", named("a"), file("a", "\n"), api.ErrShape},
		{"a ninth, ahead", many(8), file("a"), api.ErrFull},
		{"a ninth, between", many(8), file("d3.", "x"), api.ErrFull},
		{"a ninth, behind", many(8), file("e"), api.ErrFull},
		{"a path comes ahead of too many", many(8), file("A"), api.ErrSyntax},
		{"lines come ahead of too many", many(8), file("a", "\n"), api.ErrShape},
	}
	for _, w := range wrongPaths {
		cases = append(cases, one{"path " + w.path, named("b"), file(w.path), w.want},
			one{"path ahead of lines " + w.path, named("b"), file(w.path, "\n"), w.want})
	}
	for _, c := range cases {
		got, err := Put(c.in, c.f)
		wantErr(t, "Put: "+c.name, err, c.want)
		if len(got) != 0 {
			t.Errorf("Put: %s: %q beside an error", c.name, got)
		}
	}
}

func TestDrop(t *testing.T) {
	for _, c := range []struct {
		in   []api.File
		path string
		want []api.File
	}{
		{named("a"), "a", nil},
		{list(file("a", "x"), file("b", "y"), file("c", "z")), "a", list(file("b", "y"), file("c", "z"))},
		{list(file("a", "x"), file("b", "y"), file("c", "z")), "b", list(file("a", "x"), file("c", "z"))},
		{list(file("a", "x"), file("b", "y"), file("c", "z")), "c", list(file("a", "x"), file("b", "y"))},
		{many(8), "d7", many(7)},
		{many(8), "d0", many(8)[1:]},
	} {
		got, err := Drop(c.in, c.path)
		wantErr(t, "Drop "+c.path, err, api.OK)
		if !equal(got, c.want) {
			t.Errorf("Drop %s: got %q, want %q", c.path, got, c.want)
		}
	}
}

// TestEverySmallTree holds a tree against a map, over all trees of some
// paths and all that can be asked of them.
func TestEverySmallTree(t *testing.T) {
	paths := []string{"-", "a", "a-", "a/b", "aa", "b"}
	for set := range 1 << len(paths) {
		var tree []api.File
		for i, p := range paths {
			if set>>i&1 == 1 {
				tree = append(tree, file(p, p, strconv.Itoa(i)))
			}
		}
		for _, p := range paths {
			checkAgainstMap(t, tree, p)
		}
	}
}

func checkAgainstMap(t *testing.T, tree []api.File, p string) {
	t.Helper()
	held := map[string][]string{}
	for _, f := range tree {
		held[f.Path] = f.Lines
	}
	want := api.OK
	if _, ok := held[p]; !ok {
		want = api.ErrNone
	}
	lines, err := Get(tree, p)
	wantErr(t, "Get", err, want)
	if !slices.Equal(lines, held[p]) {
		t.Errorf("Get(%q, %s): got %q", tree, p, lines)
	}
	less, err := Drop(tree, p)
	wantErr(t, "Drop", err, want)
	delete(held, p)
	if want == api.OK && !equal(less, sorted(held)) {
		t.Errorf("Drop(%q, %s): got %q", tree, p, less)
	}
	more, err := Put(tree, file(p, "new"))
	wantErr(t, "Put", err, api.OK)
	held[p] = []string{"new"}
	if !equal(more, sorted(held)) {
		t.Errorf("Put(%q, %s): got %q", tree, p, more)
	}
}

func sorted(held map[string][]string) []api.File {
	var t []api.File
	for p, l := range held {
		t = append(t, file(p, l...))
	}
	slices.SortFunc(t, func(a, b api.File) int { return cmp.Compare(a.Path, b.Path) })
	return t
}

// P2 of DOC.md: nothing that was handed in is written into, nor read behind
// its length.
func TestListsAreLeftAlone(t *testing.T) {
	lines := []string{"x", "y", "\n"}
	whole := list(file("b"), file("d"), file("f"), file("A", "\n"), file("a"))
	whole[1].Lines = lines[:2]
	want := clone(whole)
	tree := whole[:3]
	more := []string{"n", "\n"}
	for _, path := range []string{"a", "b", "c", "d", "e", "f", "g"} {
		if _, err := Check(tree); err != nil {
			t.Errorf("Check: %v", err)
		}
		Get(tree, path)
		Drop(tree, path)
		if _, err := Put(tree, api.File{Path: path, Lines: more[:1]}); err != nil {
			t.Errorf("Put %s: %v", path, err)
		}
		if !equal(whole, want) || lines[2] != "\n" || !slices.Equal(more, []string{"n", "\n"}) {
			t.Fatalf("%s: changed to %q, %q, %q", path, whole, lines, more)
		}
	}
}

// scribble writes into all of a tree that can be written into, and behind it.
func scribble(t []api.File) {
	for i := range t {
		l := t[i].Lines[:cap(t[i].Lines)]
		for j := range l {
			l[j] = "changed"
		}
		t[i] = file("changed", "changed")
	}
	t = t[:cap(t)]
	for i := range t {
		t[i] = file("changed", "changed")
	}
}

// P2 of DOC.md: what comes out is fresh memory, and no two lists share any.
func TestAnswersAreFreshMemory(t *testing.T) {
	tree := list(file("b", "x", "y"), file("d", "z"), file("f", "w"))
	want := clone(tree)
	f := file("c", "n")
	got, _ := Get(tree, "b")
	got[0] = "changed"
	for _, path := range []string{"b", "d", "f"} {
		got, _ := Drop(tree, path)
		scribble(got)
		got, _ = Put(tree, file(path, "n"))
		scribble(got)
	}
	put, _ := Put(tree, f)
	scribble(put)
	copied := Copy(tree)
	if !equal(copied, want) {
		t.Errorf("Copy: got %q", copied)
	}
	scribble(copied)
	if !equal(tree, want) || f.Lines[0] != "n" {
		t.Errorf("handed in, became %q, %q", tree, f)
	}

	// One list of lines, handed in twice, comes out as two.
	lines := []string{"x"}
	two := list(api.File{Path: "a", Lines: lines}, api.File{Path: "b", Lines: lines})
	got2, _ := Put(two, api.File{Path: "c", Lines: lines})
	got2[0].Lines[0] = "changed"
	if !equal(got2[1:], list(file("b", "x"), file("c", "x"))) {
		t.Errorf("the lines of one file are those of another one: %q", got2)
	}
}
