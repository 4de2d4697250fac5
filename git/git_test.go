package git

import (
	"errors"
	"slices"
	"strconv"
	"strings"
	"testing"

	"handstitch/api"
	"handstitch/patch"
	"handstitch/plain"
)

func wantErr(t *testing.T, what string, err error, want api.Errno) {
	t.Helper()
	if got := plain.Told(err); got != want || (err == nil) != (want == api.OK) {
		t.Errorf("%s: got error %v (%v), want %v", what, err, got, want)
	}
}

// at reads marks from words such as "-x", " y", "+z".
func at(old, new int, words ...string) api.Hunk {
	h := api.Hunk{Old: old, New: new}
	for _, w := range words {
		h.Marks = append(h.Marks, api.Mark{Sign: w[0], Text: w[1:]})
	}
	return h
}

func edit(path string, l ...api.Hunk) api.Change {
	return api.Change{What: api.Edit, Path: path, Hunks: l}
}

func made(path string, l ...api.Hunk) api.Change {
	return api.Change{What: api.Make, Path: path, Hunks: l}
}

func wipe(path string, l ...api.Hunk) api.Change {
	return api.Change{What: api.Wipe, Path: path, Hunks: l}
}

func list(l ...api.Change) []api.Change { return l }

func text(lines ...string) string { return strings.Join(lines, "\n") + "\n" }

func times(n int, s string) []string {
	l := make([]string, n)
	for i := range l {
		l[i] = s
	}
	return l
}

// name gives paths that rise, up to 26 of them.
func name(i int) string { return "d" + string(rune('a'+i)) }

// all gives n changes without hunks.
func all(what, n int) []api.Change {
	var p []api.Change
	for i := range n {
		p = append(p, api.Change{What: what, Path: name(i)})
	}
	return p
}

// allText gives the lines of all(api.Make, n).
func allText(n int) []string {
	var l []string
	for i := range n {
		l = append(l, "--- /dev/null", "+++ b/"+name(i))
	}
	return l
}

func equalHunks(a, b []api.Hunk) bool {
	return slices.EqualFunc(a, b, func(x, y api.Hunk) bool {
		return x.Old == y.Old && x.New == y.New && slices.Equal(x.Marks, y.Marks)
	})
}

func equal(a, b []api.Change) bool {
	return slices.EqualFunc(a, b, func(x, y api.Change) bool {
		return x.What == y.What && x.Path == y.Path && equalHunks(x.Hunks, y.Hunks)
	})
}

// full is a line that has as many bytes as may be; over has one more.
var (
	full     = strings.Repeat("x", 80)
	over     = strings.Repeat("x", 81)
	fullPath = strings.Repeat("p", 20)
	overPath = strings.Repeat("p", 21)
)

// pairs are patches and their text, each way, worked out by hand.
var pairs = []struct {
	patch []api.Change
	text  string
}{
	{nil, ""},
	{[]api.Change{}, ""},
	{list(made("a")), text("--- /dev/null", "+++ b/a")},
	{list(wipe("a")), text("--- a/a", "+++ /dev/null")},
	{list(made("a", at(0, 0, "+x", "+"))), text("--- /dev/null", "+++ b/a", "@@ -0,0 +1,2 @@", "+x", "+")},
	{list(wipe("a", at(0, 0, "-x", "-"))), text("--- a/a", "+++ /dev/null", "@@ -1,2 +0,0 @@", "-x", "-")},
	{list(edit("a", at(0, 0, "-x", "+y"))), text("--- a/a", "+++ b/a", "@@ -1,1 +1,1 @@", "-x", "+y")},
	// What has one sign alone is an Edit all the same.
	{list(edit("a", at(0, 0, "+x"))), text("--- a/a", "+++ b/a", "@@ -0,0 +1,1 @@", "+x")},
	{list(edit("a", at(0, 0, "-x"))), text("--- a/a", "+++ b/a", "@@ -1,1 +0,0 @@", "-x")},
	{list(edit("a", at(0, 0, "+a"), at(3, 4, " b", "-c"), at(9, 9, "+d"))),
		text("--- a/a", "+++ b/a", "@@ -0,0 +1,1 @@", "+a", "@@ -4,2 +5,1 @@", " b", "-c", "@@ -9,0 +10,1 @@", "+d")},
	// Several, with and without hunks.
	{list(edit("a", at(0, 0, "-x")), made("b"), made("c", at(0, 0, "+x")), wipe("d"), wipe("e", at(0, 0, "-x")), edit("f", at(1, 1, "+x"))),
		text("--- a/a", "+++ b/a", "@@ -1,1 +0,0 @@", "-x", "--- /dev/null", "+++ b/b", "--- /dev/null", "+++ b/c", "@@ -0,0 +1,1 @@", "+x",
			"--- a/d", "+++ /dev/null", "--- a/e", "+++ /dev/null", "@@ -1,1 +0,0 @@", "-x", "--- a/f", "+++ b/f", "@@ -1,0 +2,1 @@", "+x")},
	// Paths that look like something else.
	{list(wipe("a/b"), made("b/a"), made("dev/null")), text("--- a/a/b", "+++ /dev/null", "--- /dev/null", "+++ b/b/a", "--- /dev/null", "+++ b/dev/null")},
	{list(made("---"), edit("a/a/a", at(0, 0, "-x"))), text("--- /dev/null", "+++ b/---", "--- a/a/a/a", "+++ b/a/a/a", "@@ -1,1 +0,0 @@", "-x")},
	// Marks that look like heads.
	{list(edit("a", at(0, 0, "--- a/b", "+++ b/b", " @@ -1,1 +1,1 @@")), made("b")),
		text("--- a/a", "+++ b/a", "@@ -1,2 +1,2 @@", "--- a/b", "+++ b/b", " @@ -1,1 +1,1 @@", "--- /dev/null", "+++ b/b")},
	{list(wipe("a", at(0, 0, "--- a/b", "--- /dev/null")), wipe("b")),
		text("--- a/a", "+++ /dev/null", "@@ -1,2 +0,0 @@", "--- a/b", "--- /dev/null", "--- a/b", "+++ /dev/null")},
	{list(made("a", at(0, 0, "+++ b/a", "+++ /dev/null")), wipe("b")),
		text("--- /dev/null", "+++ b/a", "@@ -0,0 +1,2 @@", "+++ b/a", "+++ /dev/null", "--- a/b", "+++ /dev/null")},
	{list(made("a", at(0, 0, "+\x00\r\xff"))), text("--- /dev/null", "+++ b/a", "@@ -0,0 +1,1 @@", "+\x00\r\xff")},
	// As much as may be.
	{list(made(fullPath, at(0, 0, times(60, "+"+full)...))), text(slices.Concat([]string{"--- /dev/null", "+++ b/" + fullPath, "@@ -0,0 +1,60 @@"}, times(60, "+"+full))...)},
	{all(api.Make, 16), text(allText(16)...)},
}

// G1.
func TestPrint(t *testing.T) {
	for _, p := range pairs {
		got, err := Print(p.patch)
		wantErr(t, "Print", err, api.OK)
		if got != p.text {
			t.Errorf("Print(%v): got %q, want %q", p.patch, got, p.text)
		}
	}
}

// G1.
func TestParse(t *testing.T) {
	for _, p := range pairs {
		got, err := Parse(p.text)
		wantErr(t, "Parse", err, api.OK)
		if !equal(got, p.patch) {
			t.Errorf("Parse(%q): got %v, want %v", p.text, got, p.patch)
		}
	}
}

// G1: Print tells chapter 7's Check's error.
func TestPrintWrong(t *testing.T) {
	for _, c := range []struct {
		name string
		in   []api.Change
		want api.Errno
	}{
		{"17 changes", all(api.Make, 17), api.ErrFull},
		{"What is 0", list(api.Change{Path: "a"}), api.ErrRange},
		{"What is 4", list(made("a"), api.Change{What: 4, Path: "b"}), api.ErrRange},
		{"no path", list(made("")), api.ErrSyntax},
		{"a wrong path", list(made("a"), wipe("b\n")), api.ErrSyntax},
		{"a long path", list(wipe(overPath)), api.ErrFull},
		{"byte 10", list(made("a", at(0, 0, "+\n"))), api.ErrShape},
		{"a long line", list(made("a", at(0, 0, "+"+over))), api.ErrFull},
		{"a wrong sign", list(made("a", at(0, 0, "!x"))), api.ErrRange},
		{"no change", list(edit("a", at(0, 0, " x"))), api.ErrNone},
		{"far behind", list(edit("a", at(60, 60, "+x"))), api.ErrRange},
		{"New is not Old", list(edit("a", at(0, 1, "+x"))), api.ErrShape},
		{"an Edit without a hunk", list(edit("a")), api.ErrShape},
		{"a Make that takes", list(made("a", at(0, 0, "-x"))), api.ErrShape},
		{"a Wipe that puts", list(wipe("a", at(0, 0, "+x"))), api.ErrShape},
		{"falling", list(made("b"), made("a")), api.ErrShape},
		{"twice", list(made("a"), wipe("a")), api.ErrShape},
		{"of two wrong changes the first is told", list(made("a", at(0, 0)), made("")), api.ErrNone},
	} {
		got, err := Print(c.in)
		wantErr(t, "Print: "+c.name, err, c.want)
		if got != "" {
			t.Errorf("Print: %s: %q beside an error", c.name, got)
		}
	}
}

func wantWrong(t *testing.T, name, in string, want api.Errno) {
	t.Helper()
	got, err := Parse(in)
	wantErr(t, "Parse: "+name, err, want)
	if len(got) != 0 {
		t.Errorf("Parse: %s: %v beside an error", name, got)
	}
}

// G1: what are no two lines ahead of hunks, alone, behind a change without
// hunks, behind one with, and ahead of a change.
func TestParseWrongHead(t *testing.T) {
	for _, l := range [][]string{
		{""}, {"", ""}, {"a"}, {"a", "b"}, {" "},
		{"--- a/a"}, {"+++ b/a"}, {"--- /dev/null"}, {"+++ /dev/null"},
		{"--- a/a", ""}, {"", "+++ b/a"}, {"--- a/a", "", "+++ b/a"},
		{"+++ b/a", "--- a/a"}, {"+++ b/a", "--- /dev/null"}, {"+++ /dev/null", "--- a/a"},
		{"--- /dev/null", "+++ /dev/null"}, {"--- a/a", "--- a/a"}, {"+++ b/a", "+++ b/a"},
		{"--- /dev/null", "--- a/a"}, {"--- a/a", "--- /dev/null"}, {"--- /dev/null", "--- /dev/null"},
		// Other paths.
		{"--- a/a", "+++ b/b"}, {"--- a/a", "+++ b/a "}, {"--- a/a ", "+++ b/a"}, {"--- a/a\r", "+++ b/a"}, {"--- a/", "+++ b/a"}, {"--- a/a", "+++ b/"}, {"--- a/a", "+++ b/A"},
		// Other sides.
		{"--- b/a", "+++ b/a"}, {"--- a/a", "+++ a/a"}, {"--- b/a", "+++ a/a"}, {"--- a", "+++ b"}, {"--- a", "+++ a"}, {"--- /a", "+++ /a"},
		{"--- b/a", "+++ /dev/null"}, {"--- /dev/null", "+++ a/a"}, {"--- a", "+++ /dev/null"}, {"--- /dev/null", "+++ a"}, {"--- A/a", "+++ b/a"}, {"--- a/a", "+++ B/a"},
		// Near /dev/null.
		{"--- /dev/null ", "+++ b/a"}, {"--- /dev/nul", "+++ b/a"}, {"--- /dev/nulls", "+++ b/a"}, {"--- dev/null", "+++ b/a"}, {"--- a//dev/null", "+++ b/a"}, {"--- ", "+++ b/a"}, {"--- /dev/null\r", "+++ b/a"},
		{"--- a/a", "+++ /dev/null "}, {"--- a/a", "+++ /dev/nul"}, {"--- a/a", "+++ dev/null"}, {"--- a/a", "+++ b//dev/null"}, {"--- a/a", "+++ "}, {"--- a/a", "+++ /dev/null\t"},
		// Near the signs.
		{"-- a/a", "+++ b/a"}, {"---- a/a", "+++ b/a"}, {"--- a/a", "++ b/a"}, {"--- a/a", "++++ b/a"}, {"---a/a", "+++ b/a"}, {"--- a/a", "+++b/a"},
		{"---  a/a", "+++ b/a"}, {"--- a/a", "+++  b/a"}, {" --- a/a", "+++ b/a"}, {"--- a/a", " +++ b/a"}, {"---\ta/a", "+++\tb/a"}, {"+++ a/a", "--- b/a"},
		{"diff --git a/a b/a", "--- a/a", "+++ b/a"}, {"index 0..1", "--- a/a", "+++ b/a"},
		// Hunks without a head, or within it.
		{"@@ -1,1 +0,0 @@", "-x"}, {"@@ -0,0 +1,1 @@", "+x", "--- a/a", "+++ b/a"}, {"--- a/a", "@@ -1,1 +0,0 @@", "-x", "+++ b/a"}, {"--- a/a", "@@ -1,1 +0,0 @@", "-x"},
	} {
		ahead := []string{"--- /dev/null", "+++ b/-"}
		hunk := []string{"@@ -0,0 +1,1 @@", "+x"}
		wantWrong(t, "alone "+text(l...), text(l...), api.ErrSyntax)
		if !strings.HasPrefix(l[0], "@@") { // a hunk would be one of the change ahead
			wantWrong(t, "behind a change "+text(l...), text(slices.Concat(ahead, l)...), api.ErrSyntax)
			wantWrong(t, "behind a hunk "+text(l...), text(slices.Concat(ahead, hunk, l)...), api.ErrSyntax)
			wantWrong(t, "ahead of a hunk "+text(l...), text(slices.Concat(l, hunk)...), api.ErrSyntax)
		}
		wantWrong(t, "ahead of a change "+text(l...), text(slices.Concat(l, ahead)...), api.ErrSyntax)
	}
}

// G1: what are no hunks, and what does not end well.
func TestParseWrongForm(t *testing.T) {
	for _, c := range []struct{ name, in string }{
		{"just a line end", "\n"},
		{"no line ends", "a"},
		{"a head that is not ended", "--- /dev/null\n+++ b/a"},
		{"half a head that is not ended", "--- /dev/null"},
		{"a mark that is not ended", "--- /dev/null\n+++ b/a\n@@ -0,0 +1,1 @@\n+x"},
		{"something behind the last line end", text("--- /dev/null", "+++ b/a") + " "},
		{"a head without an end behind a change", text("--- /dev/null", "+++ b/a") + "--- /dev/null\n+++ b/b"},
		{"an empty line at the end", text("--- /dev/null", "+++ b/a", "")},
		{"an empty line at the beginning", text("", "--- /dev/null", "+++ b/a")},
		{"an empty line behind hunks", text("--- /dev/null", "+++ b/a", "@@ -0,0 +1,1 @@", "+x", "")},
		{"an empty line between", text("--- /dev/null", "+++ b/a", "", "--- /dev/null", "+++ b/b")},
		{"lines that end with 13 and 10", "--- /dev/null\r\n+++ b/a\r\n"},
		{"a mark without a hunk", text("--- /dev/null", "+++ b/a", "+x")},
		{"a mark too many", text("--- /dev/null", "+++ b/a", "@@ -0,0 +1,1 @@", "+x", "+y")},
		{"a kept mark too many", text("--- /dev/null", "+++ b/a", "@@ -0,0 +1,1 @@", "+x", " y")},
		{"a mark too few", text("--- /dev/null", "+++ b/a", "@@ -0,0 +1,2 @@", "+x")},
		{"a mark too few, and a change", text("--- /dev/null", "+++ b/a", "@@ -0,0 +1,2 @@", "+x", "--- /dev/null", "+++ b/b")},
		{"a mark too few, for which a head is taken", text("--- a/a", "+++ /dev/null", "@@ -1,2 +0,0 @@", "-x", "--- a/b", "+++ /dev/null")},
		{"two marks too few, for which a head is taken, and no hunk behind", text("--- a/a", "+++ b/a", "@@ -1,1 +1,1 @@", "--- a/b", "+++ b/b", "-x")},
		{"a wrong sign", text("--- /dev/null", "+++ b/a", "@@ -0,0 +1,1 @@", "!x")},
		{"an empty mark", text("--- /dev/null", "+++ b/a", "@@ -0,0 +1,1 @@", "")},
		{"a wrong head of a hunk", text("--- /dev/null", "+++ b/a", "@@ -0 +1 @@", "+x")},
		{"line 0", text("--- /dev/null", "+++ b/a", "@@ -0,0 +0,1 @@", "+x")},
		{"a needless 0", text("--- /dev/null", "+++ b/a", "@@ -0,0 +01,1 @@", "+x")},
		{"four digits", text("--- a/a", "+++ b/a", "@@ -1000,0 +1000,0 @@")},
		{"words behind the head of a hunk", text("--- /dev/null", "+++ b/a", "@@ -0,0 +1,1 @@ f", "+x")},
		{"no newline", text("--- /dev/null", "+++ b/a", "@@ -0,0 +1,1 @@", "+x", "\\ No newline at end of file")},
		{"the head of a later hunk", text("--- a/a", "+++ b/a", "@@ -0,0 +1,1 @@", "+x", "@@ -0,0 +1,x @@", "+x")},

		// The form of all of it comes ahead of what Check tells of any of it.
		{"behind a long path", text("--- /dev/null", "+++ b/"+overPath, "x")},
		{"behind a long line", text("--- /dev/null", "+++ b/a", "@@ -0,0 +1,1 @@", "+"+over, "x")},
		{"behind a hunk that changes nothing", text("--- a/a", "+++ b/a", "@@ -1,1 +1,1 @@", " x", "--- a/b")},
		{"behind a hunk that is out of range", text("--- a/a", "+++ b/a", "@@ -999,1 +999,1 @@", "-x", "+y", "@@ -1,1 +1,1 @@")},
		{"behind an Edit without hunks", text("--- a/a", "+++ b/a", "--- a/b", "+++ b/c")},
		{"behind a fall", text("--- /dev/null", "+++ b/b", "--- /dev/null", "+++ b/a", "--- /dev/null")},
		{"behind too many", text(append(allText(17), "x")...)},
	} {
		wantWrong(t, c.name, c.in, api.ErrSyntax)
	}
}

// G1: of texts of the right form chapter 7's Check's error.
func TestParseTellsWhatCheckTells(t *testing.T) {
	for _, c := range []struct {
		name string
		in   []string
		want api.Errno
	}{
		{"17 changes", allText(17), api.ErrFull},
		{"17 changes, the first of them wrong", append([]string{"--- /dev/null", "+++ b/A"}, allText(16)...), api.ErrFull},
		{"an Edit without a hunk", []string{"--- a/a", "+++ b/a"}, api.ErrShape},
		{"a hunk without marks", []string{"--- a/a", "+++ b/a", "@@ -0,0 +0,0 @@"}, api.ErrNone},
		{"a Make with a hunk without marks", []string{"--- /dev/null", "+++ b/a", "@@ -0,0 +0,0 @@"}, api.ErrNone},
		{"a hunk that changes nothing", []string{"--- a/a", "+++ b/a", "@@ -1,1 +1,1 @@", " x"}, api.ErrNone},
		{"a long line", []string{"--- a/a", "+++ /dev/null", "@@ -1,1 +0,0 @@", "-" + over}, api.ErrFull},
		{"121 marks", slices.Concat([]string{"--- a/a", "+++ /dev/null", "@@ -1,121 +0,0 @@"}, times(121, "-x")), api.ErrFull},
		{"61 lines", slices.Concat([]string{"--- a/a", "+++ /dev/null", "@@ -1,61 +0,0 @@"}, times(61, "-x")), api.ErrRange},
		{"61 hunks", slices.Concat([]string{"--- a/a", "+++ b/a"}, times(61, "@@ -0,0 +0,0 @@")), api.ErrFull},
		{"Old at 61", []string{"--- a/a", "+++ b/a", "@@ -61,0 +62,1 @@", "+x"}, api.ErrRange},
		{"New is not Old", []string{"--- a/a", "+++ b/a", "@@ -0,0 +2,1 @@", "+x"}, api.ErrShape},
		{"hunks that fall", []string{"--- a/a", "+++ b/a", "@@ -4,1 +3,0 @@", "-x", "@@ -1,1 +0,0 @@", "-x"}, api.ErrShape},
		{"a Make that takes", []string{"--- /dev/null", "+++ b/a", "@@ -1,1 +0,0 @@", "-x"}, api.ErrShape},
		{"a Make that keeps", []string{"--- /dev/null", "+++ b/a", "@@ -1,1 +1,2 @@", " x", "+y"}, api.ErrShape},
		{"a Make of two hunks", []string{"--- /dev/null", "+++ b/a", "@@ -0,0 +1,1 @@", "+x", "@@ -0,0 +2,1 @@", "+y"}, api.ErrShape},
		{"a Make at 1", []string{"--- /dev/null", "+++ b/a", "@@ -1,0 +2,1 @@", "+x"}, api.ErrShape},
		{"a Wipe that puts", []string{"--- a/a", "+++ /dev/null", "@@ -0,0 +1,1 @@", "+x"}, api.ErrShape},
		{"a Wipe at 1", []string{"--- a/a", "+++ /dev/null", "@@ -2,1 +1,0 @@", "-x"}, api.ErrShape},
		{"falling", []string{"--- /dev/null", "+++ b/b", "--- /dev/null", "+++ b/a"}, api.ErrShape},
		{"twice", []string{"--- a/a", "+++ /dev/null", "--- /dev/null", "+++ b/a"}, api.ErrShape},
		{"the hunks of a later change", []string{"--- /dev/null", "+++ b/a", "--- a/b", "+++ b/b", "@@ -1,1 +1,1 @@", " x"}, api.ErrNone},
		{"two marks too few, for which a head is taken", []string{"--- a/a", "+++ b/a", "@@ -1,1 +1,1 @@", "--- a/b", "+++ b/b", "@@ -9,1 +9,0 @@", "-x"}, api.ErrShape},
		{"of two wrong changes the first is told", []string{"--- a/a", "+++ b/a", "@@ -0,0 +0,0 @@", "--- a/b", "+++ b/b"}, api.ErrNone},
		{"a wrong hunk comes ahead of a later fall", []string{"--- a/b", "+++ b/b", "@@ -0,0 +0,0 @@", "--- a/a", "+++ /dev/null"}, api.ErrNone},
	} {
		wantWrong(t, c.name, text(c.in...), c.want)
	}
}

// G1: a path may be any bytes, so far as the form goes: what is wrong with one
// is told only in its turn.
func TestParseAnyPath(t *testing.T) {
	for _, path := range []string{"", " ", "A", "a b", "..", "a//b", "/a", "a/", "\x00", "\xff\xfe", "\r", "\t", "/dev/null", "b/A", "--- a/a", "\"a\"", "+++ b/a", "@@ -1,1 +1,1 @@", "_"} {
		for _, head := range [][]string{{"--- a/" + path, "+++ b/" + path}, {"--- /dev/null", "+++ b/" + path}, {"--- a/" + path, "+++ /dev/null"}} {
			wantWrong(t, path, text(head...), api.ErrSyntax)
			none := []string{"--- a/a", "+++ b/a", "@@ -0,0 +0,0 @@"}
			wantWrong(t, "behind a wrong hunk "+path, text(slices.Concat(none, head)...), api.ErrNone)
			wantWrong(t, "ahead of a wrong hunk "+path, text(slices.Concat(head, none)...), api.ErrSyntax)
			wantWrong(t, "among too many "+path, text(slices.Concat(head, allText(16))...), api.ErrFull)
		}
	}
	for _, path := range []string{overPath, strings.Repeat("/", 21), strings.Repeat("\xff", 1000)} {
		wantWrong(t, path, text("--- a/"+path, "+++ b/"+path), api.ErrFull)
		wantWrong(t, path, text("--- /dev/null", "+++ b/"+path), api.ErrFull)
		wantWrong(t, path, text("--- a/"+path, "+++ /dev/null"), api.ErrFull)
		wantWrong(t, path, text("--- a/"+path, "+++ b/"+path+"x"), api.ErrSyntax)
	}
}

// G1: texts of more than MaxText bytes, whatever is in them.
func TestParseTooLong(t *testing.T) {
	const most = 400000
	head := "--- /dev/null\n+++ b/"
	long := head + strings.Repeat("x", most-len(head)-1) + "\n"
	wantWrong(t, "as long as may be", long, api.ErrFull)
	wantWrong(t, "one byte more", long[:len(long)-1]+"x\n", api.ErrSyntax)
	wantWrong(t, "very many changes", strings.Repeat(head+"\n", most/(len(head)+1)), api.ErrFull)
	wantWrong(t, "too many changes for a text", strings.Repeat(head+"\n", most), api.ErrSyntax)
	wantWrong(t, "very many hunks", head+"a\n"+strings.Repeat("@@ -0,0 +0,0 @@\n", most/17), api.ErrFull)
	wantWrong(t, "very many lines", strings.Repeat("\n", most), api.ErrSyntax)
}

// smallTrees are all trees of up to three paths, each with one of some files.
func smallTrees() [][]api.File {
	trees := [][]api.File{nil}
	for _, path := range []string{"--", "a/a", "dev/null"} {
		for _, t := range trees[:len(trees):len(trees)] {
			for _, lines := range [][]string{nil, {"-- a/a", "++ b/a"}, {"++ b/a", "", "@@ -1,1 +1,1 @@", "-- a/a"}} {
				trees = append(trees, append(slices.Clone(t), api.File{Path: path, Lines: lines}))
			}
		}
	}
	return trees
}

// What is told is told back: what leads from every small tree to every other.
func TestThereAndBack(t *testing.T) {
	trees := smallTrees()
	for i, a := range trees {
		for j, b := range trees {
			p, err := patch.Diff(a, b, (i+j)%3)
			if err != nil {
				t.Fatal(err)
			}
			told, err := Print(p)
			if err != nil {
				t.Fatalf("Print(%v): %v", p, err)
			}
			if back, err := Parse(told); err != nil || !equal(back, p) {
				t.Fatalf("Parse(%q): got %v, %v, want %v", told, back, err, p)
			}
		}
	}
}

// What is told is told back, even the longest that may be: it is not too long
// for a text.
func TestTheLongest(t *testing.T) {
	var hunks []api.Hunk
	for i := range 60 {
		hunks = append(hunks, at(i, i, "-"+full, "+"+full))
	}
	var p []api.Change
	for i := range 16 {
		p = append(p, edit(strings.Repeat("p", 18)+name(i)[1:]+"q", hunks...))
	}
	told, err := Print(p)
	wantErr(t, "Print", err, api.OK)
	back, err := Parse(told)
	wantErr(t, "Parse", err, api.OK)
	if !equal(back, p) || len(told) < 100000 {
		t.Errorf("the longest patch, of %d bytes, is not told back", len(told))
	}
}

// lines gives a change's lines as the document words them, whatever it is.
func lines(c api.Change) []string {
	out := []string{"--- a/" + c.Path, "+++ b/" + c.Path}
	if c.What == api.Make {
		out[0] = "--- /dev/null"
	}
	if c.What == api.Wipe {
		out[1] = "+++ /dev/null"
	}
	for _, h := range c.Hunks {
		before, after := 0, 0
		var marks []string
		for _, m := range h.Marks {
			if m.Sign != '+' {
				before++
			}
			if m.Sign != '-' {
				after++
			}
			marks = append(marks, string([]byte{m.Sign})+m.Text)
		}
		number := func(ahead, size int) string {
			return strconv.Itoa(ahead+min(size, 1)) + "," + strconv.Itoa(size)
		}
		out = append(out, "@@ -"+number(h.Old, before)+" +"+number(h.New, after)+" @@")
		out = append(out, marks...)
	}
	return out
}

// smallTexts gives the patches of all texts of at most n lines that are of the
// right form and of some few words, by their text.
func smallTexts(n int) map[string][]api.Change {
	marks := []string{"--- a/a", "--- /dev/null", "+++ b/a", "+++ /dev/null", "-x"}
	hunks := []api.Hunk{at(0, 0)}
	for _, m := range marks {
		hunks = append(hunks, at(0, 0, m))
		for _, o := range marks {
			if m[0] != o[0] {
				hunks = append(hunks, at(0, 0, m, o))
			}
		}
	}
	var changes []api.Change
	for _, what := range []int{api.Edit, api.Make, api.Wipe} {
		work := []api.Change{{What: what, Path: "a"}}
		for len(work) > 0 {
			c := work[0]
			work = work[1:]
			changes = append(changes, c)
			for _, h := range hunks {
				next := c
				next.Hunks = append(slices.Clone(c.Hunks), h)
				if len(lines(next)) <= n {
					work = append(work, next)
				}
			}
		}
	}
	whole := map[string][]api.Change{"": nil}
	var grow func(ahead string, left int, p []api.Change)
	grow = func(ahead string, left int, p []api.Change) {
		for _, c := range changes {
			if l := lines(c); len(l) <= left {
				q := append(slices.Clone(p), c)
				whole[ahead+text(l...)] = q
				grow(ahead+text(l...), left-len(l), q)
			}
		}
	}
	grow("", n, nil)
	return whole
}

// G1 at all texts of up to five lines from some: those that are of the right
// form, and no others, are read, as just what they were made from.
func TestEverySmallText(t *testing.T) {
	const most = 5
	whole := smallTexts(most)
	words := []string{"--- a/a", "--- /dev/null", "+++ b/a", "+++ /dev/null", "-x", "@@ -0,0 +0,0 @@", "@@ -1,1 +0,0 @@", "@@ -0,0 +1,1 @@", "@@ -1,1 +1,1 @@", ""}
	met := 0
	var try func(s []string)
	try = func(s []string) {
		in := ""
		if len(s) > 0 {
			in = text(s...)
		}
		want, isWhole := whole[in]
		wantErr := error(api.ErrSyntax)
		if isWhole {
			met++
			_, wantErr = patch.Check(want)
		}
		if got, err := Parse(in); !errors.Is(err, wantErr) || err == nil && !equal(got, want) || err != nil && len(got) != 0 {
			t.Fatalf("Parse(%q): got %v, %v, want %v, %v", in, got, err, want, wantErr)
		}
		if len(s) < most {
			for _, w := range words {
				try(append(slices.Clip(s), w))
			}
		}
	}
	try(nil)
	if met != len(whole) {
		t.Errorf("of %d texts of the right form only %d were met", len(whole), met)
	}
}

// G1: a text with one byte changed, taken away or put in is refused, or is just
// the text of what it is read as.
func TestNearTexts(t *testing.T) {
	good := text("--- a/a", "+++ b/a", "@@ -1,2 +1,1 @@", " a", "--- a/b", "@@ -12,0 +12,1 @@", "+@@", "--- /dev/null", "+++ b/b", "--- a/c", "+++ /dev/null")
	if _, err := Parse(good); err != nil {
		t.Fatal(err)
	}
	try := func(s string) {
		p, err := Parse(s)
		if err != nil {
			if len(p) != 0 {
				t.Errorf("Parse(%q): got %v beside %v", s, p, err)
			}
			return
		}
		if back, err := Print(p); err != nil || back != s {
			t.Errorf("Parse(%q): got %v, of which the text is %q, %v", s, p, back, err)
		}
	}
	for i := range len(good) {
		try(good[:i])
		try(good[:i] + good[i+1:])
		for c := range 256 {
			b := string([]byte{byte(c)})
			try(good[:i] + b + good[i+1:])
			try(good[:i] + b + good[i:])
		}
	}
}

// P2 and P4 of DOC.md: nothing that was handed in is written into, nor read
// behind its length.
func TestListsAreLeftAlone(t *testing.T) {
	marks := at(0, 0, "-x", "+y", "!z").Marks
	hunks := []api.Hunk{{Marks: marks[:2]}, {Old: -1, Marks: marks}}
	p := list(edit("a", hunks[:1]...), api.Change{What: -1})
	p[0].Hunks = hunks[:1]
	got, err := Print(p[:1])
	wantErr(t, "Print", err, api.OK)
	if want := text("--- a/a", "+++ b/a", "@@ -1,1 +1,1 @@", "-x", "+y"); got != want {
		t.Errorf("Print: got %q, want %q", got, want)
	}
	if !equal(p, list(edit("a", at(0, 0, "-x", "+y")), api.Change{What: -1})) || hunks[1].Old != -1 || !slices.Equal(hunks[1].Marks, at(0, 0, "-x", "+y", "!z").Marks) {
		t.Errorf("changed to %v, %v", p, hunks)
	}
}

// P2 of DOC.md: what comes out is fresh memory, and no two lists share any.
func TestAnswersAreFreshMemory(t *testing.T) {
	want := list(edit("a", at(0, 0, "-x"), at(3, 2, "+y")), made("b", at(0, 0, "+z")), wipe("c"))
	in, _ := Print(want)
	one, _ := Parse(in)
	two, _ := Parse(in)
	for i := range one {
		_ = append(one[i].Hunks, at(-1, -1), at(-1, -1), at(-1, -1))
		for _, h := range one[i].Hunks {
			_ = append(h.Marks, at(0, 0, "!x", "!y", "!z").Marks...)
		}
	}
	if !equal(one, want) {
		t.Errorf("the changes share memory: %v", one)
	}
	one[0].Hunks[0].Marks[0].Text = "changed"
	one[0].Hunks[1] = api.Hunk{}
	one[1] = api.Change{}
	if !equal(two, want) {
		t.Errorf("a second answer became %v", two)
	}
}
