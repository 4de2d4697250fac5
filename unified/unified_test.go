package unified

import (
	"slices"
	"strconv"
	"strings"
	"testing"

	"handstitch/api"
	"handstitch/hunk"
	"handstitch/plain"
)

func wantErr(t *testing.T, what string, err error, want api.Errno) {
	t.Helper()
	if got := plain.Told(err); got != want || (err == nil) != (want == api.OK) {
		t.Errorf("%s: got error %v (%v), want %v", what, err, got, want)
	}
}

// marks reads marks from words such as "-x", " y", "+z".
func marks(words ...string) []api.Mark {
	var s []api.Mark
	for _, w := range words {
		s = append(s, api.Mark{Sign: w[0], Text: w[1:]})
	}
	return s
}

func at(old, new int, words ...string) api.Hunk {
	return api.Hunk{Old: old, New: new, Marks: marks(words...)}
}

func list(l ...api.Hunk) []api.Hunk { return l }

func text(lines ...string) string { return strings.Join(lines, "\n") + "\n" }

func times(n int, s string) []string {
	l := make([]string, n)
	for i := range l {
		l[i] = s
	}
	return l
}

func equal(a, b []api.Hunk) bool {
	return slices.EqualFunc(a, b, func(x, y api.Hunk) bool {
		return x.Old == y.Old && x.New == y.New && slices.Equal(x.Marks, y.Marks)
	})
}

// full is a line that has as many bytes as may be; over has one more.
var (
	full = strings.Repeat("x", 80)
	over = strings.Repeat("x", 81)
)

// pairs are hunks and their text, each way, worked out by hand.
var pairs = []struct {
	hunks []api.Hunk
	text  string
}{
	{nil, ""},
	{[]api.Hunk{}, ""},
	// 1 is left out where there are no lines, in the one file, or the other.
	{list(at(0, 0, "+a")), text("@@ -0,0 +1,1 @@", "+a")},
	{list(at(0, 0, "-a")), text("@@ -1,1 +0,0 @@", "-a")},
	{list(at(1, 1, "+x")), text("@@ -1,0 +2,1 @@", "+x")},
	{list(at(5, 5, "-a", "-b")), text("@@ -6,2 +5,0 @@", "-a", "-b")},
	{list(at(0, 0, "-a", "+b")), text("@@ -1,1 +1,1 @@", "-a", "+b")},
	{list(at(9, 9, " a", "-b", "+c", "+d", " e")), text("@@ -10,3 +10,4 @@", " a", "-b", "+c", "+d", " e")},
	// The marks stay in their order.
	{list(at(0, 0, "+b", "-a", " c", "+d", "-e")), text("@@ -1,3 +1,3 @@", "+b", "-a", " c", "+d", "-e")},
	{list(at(0, 0, "+a"), at(3, 4, "-b", "-c"), at(9, 8, "+d")),
		text("@@ -0,0 +1,1 @@", "+a", "@@ -4,2 +4,0 @@", "-b", "-c", "@@ -9,0 +9,1 @@", "+d")},
	// Texts that look like something else.
	{list(at(0, 0, "-", "+")), text("@@ -1,1 +1,1 @@", "-", "+")},
	{list(at(0, 0, " ", "+ ")), text("@@ -1,1 +1,2 @@", " ", "+ ")},
	{list(at(0, 0, "--- a/b", "+++ b/b", " @@ -1,1 +1,1 @@")), text("@@ -1,2 +1,2 @@", "--- a/b", "+++ b/b", " @@ -1,1 +1,1 @@")},
	{list(at(0, 0, "-\x00\r\t\xff", "+\xe2\x80\xa8")), text("@@ -1,1 +1,1 @@", "-\x00\r\t\xff", "+\xe2\x80\xa8")},
	// As much as may be.
	{list(at(59, 59, "-"+full, "+"+full)), text("@@ -60,1 +60,1 @@", "-"+full, "+"+full)},
	{list(at(0, 0, "-a"), at(60, 59, "+a")), text("@@ -1,1 +0,0 @@", "-a", "@@ -60,0 +60,1 @@", "+a")},
	{list(at(0, 0, slices.Concat(times(60, "-a"), times(60, "+b"))...)),
		text(slices.Concat([]string{"@@ -1,60 +1,60 @@"}, times(60, "-a"), times(60, "+b"))...)},
	{list(at(10, 10, times(50, "+a")...)), text(slices.Concat([]string{"@@ -10,0 +11,50 @@"}, times(50, "+a"))...)},
}

// U1.
func TestPrint(t *testing.T) {
	for _, p := range pairs {
		got, err := Print(p.hunks)
		wantErr(t, "Print", err, api.OK)
		if got != p.text {
			t.Errorf("Print(%v): got %q, want %q", p.hunks, got, p.text)
		}
	}
}

// U1.
func TestParse(t *testing.T) {
	for _, p := range pairs {
		l, place, err := Parse(p.text)
		wantErr(t, "Parse", err, api.OK)
		if place != 0 || !equal(l, p.hunks) {
			t.Errorf("Parse(%q): got %v, %d, want %v, 0", p.text, l, place, p.hunks)
		}
	}
}

// U1: Print tells chapter 3's Check's error.
func TestPrintWrong(t *testing.T) {
	var puts []api.Hunk
	for i := range 61 {
		puts = append(puts, at(0, i, "+a"))
	}
	for _, c := range []struct {
		name string
		in   []api.Hunk
		want api.Errno
	}{
		{"60 hunks", puts[:60], api.OK},
		{"61 hunks", puts, api.ErrFull},
		{"121 marks", list(at(0, 0, times(121, "-a")...)), api.ErrFull},
		{"a wrong sign", list(at(0, 0, "!a")), api.ErrRange},
		{"byte 10", list(at(0, 0, "+a\nb")), api.ErrShape},
		{"81 bytes", list(at(0, 0, "+"+over)), api.ErrFull},
		{"no mark", list(at(0, 0)), api.ErrNone},
		{"no change", list(at(0, 0, " a")), api.ErrNone},
		{"Old below 0", list(at(-1, -1, "-a")), api.ErrRange},
		{"Old at 61", list(at(61, 61, "+a")), api.ErrRange},
		{"61 lines", list(at(0, 0, times(61, "+a")...)), api.ErrRange},
		{"New is not Old", list(at(0, 1, "+a")), api.ErrShape},
		{"the second is wrong", list(at(0, 0, "+a"), at(0, 0, "+a")), api.ErrShape},
	} {
		got, err := Print(c.in)
		wantErr(t, "Print: "+c.name, err, c.want)
		if c.want != api.OK && got != "" {
			t.Errorf("Print: %s: %q beside an error", c.name, got)
		}
	}
}

func wantWrong(t *testing.T, name, in string, place int, want api.Errno) {
	t.Helper()
	l, got, err := Parse(in)
	wantErr(t, "Parse: "+name, err, want)
	if got != place {
		t.Errorf("Parse: %s: got place %d, want %d", name, got, place)
	}
	if len(l) != 0 {
		t.Errorf("Parse: %s: %v beside an error", name, l)
	}
}

// U1: what is no head line, alone and behind a hunk.
func TestParseWrongHead(t *testing.T) {
	hunk := []string{"@@ -1,1 +0,0 @@", "-a"}
	for _, s := range []string{
		"", " ", "a", "@", "@@", " a", "-a", "+a", "--- a/b", "+++ b/b",
		"@@ @@", "@@ - + @@", "@@ -, +, @@", "@@ -0 +1,1 @@", "@@ -0,0 +1 @@", "@@ -0,0 @@", "@@ -0,0@@",
		"@@ -,0 +1,1 @@", "@@ -0, +1,1 @@", "@@ -0,0 +,1 @@", "@@ -0,0 +1, @@",
		"@@ -0,0,0 +1,1 @@", "@@ -0,0 +1,1,1 @@", "@@ -0,0 +1,1 +1,1 @@",
		"@@ +1,1 -0,0 @@", "@@ -0,0 -1,1 @@", "@@ +0,0 +1,1 @@",
		"@ -0,0 +1,1 @@", "@@ -0,0 +1,1 @", "@@@ -0,0 +1,1 @@", "@@ -0,0 +1,1 @@@",
		" @@ -0,0 +1,1 @@", "@@ -0,0 +1,1 @@ ", "@@ -0,0 +1,1 @@\r", "@@ -0,0 +1,1 @@ func f()",
		"@@  -0,0 +1,1 @@", "@@ - 0,0 +1,1 @@", "@@ -0 ,0 +1,1 @@", "@@ -0, 0 +1,1 @@", "@@ -0,0  +1,1 @@",
		"@@ -0,0 + 1,1 @@", "@@ -0,0 +1,1  @@", "@@-0,0 +1,1 @@", "@@ -0,0+1,1 @@", "@@ -0,0 +1,1@@", "@@\t-0,0 +1,1 @@",
		// Needless digits.
		"@@ -00,0 +1,1 @@", "@@ -0,00 +1,1 @@", "@@ -0,0 +01,1 @@", "@@ -0,0 +1,01 @@", "@@ -0,0 +001,1 @@", "@@ -000,0 +1,1 @@",
		// Four digits.
		"@@ -1000,0 +1,1 @@", "@@ -0,1000 +1,1 @@", "@@ -0,0 +1000,1 @@", "@@ -0,0 +1,1000 @@", "@@ -0000,0 +1,1 @@",
		"@@ -99999999999999999999,0 +1,1 @@", "@@ -0,0 +1,18446744073709551617 @@",
		// No digits.
		"@@ --1,0 +1,1 @@", "@@ --0,0 +1,1 @@", "@@ -+0,0 +1,1 @@", "@@ -0,0 ++1,1 @@", "@@ -0,+0 +1,1 @@", "@@ -0,-0 +1,1 @@",
		"@@ -0,-1 +1,1 @@", "@@ -x,0 +1,1 @@", "@@ -0,0 +1,x @@", "@@ -0x0,0 +1,1 @@", "@@ -0,0 +1_0,1 @@", "@@ -0,0 +1.,1 @@", "@@ -0,0 +\xd9\xa1,1 @@",
		// Line 0 is none.
		"@@ -0,1 +1,1 @@", "@@ -1,1 +0,1 @@", "@@ -0,1 +0,0 @@", "@@ -0,0 +0,1 @@", "@@ -0,999 +1,1 @@",
	} {
		wantWrong(t, "first "+s, text(s, "+a"), 0, api.ErrSyntax)
		wantWrong(t, "alone "+s, text(s), 0, api.ErrSyntax)
		wantWrong(t, "behind a hunk "+s, text(append(slices.Clone(hunk), s, "+a")...), 2, api.ErrSyntax)
	}
}

// U1: which line is the first that cannot stand there.
func TestParseWrongPlace(t *testing.T) {
	for _, c := range []struct {
		name, in string
		place    int
	}{
		{"a wrong sign", text("@@ -1,0 +2,1 @@", "-x"), 1},
		{"kept where the new lines are there", text("@@ -1,2 +1,1 @@", " a", " b"), 2},
		{"kept where the old lines are there", text("@@ -1,1 +1,2 @@", "-a", " b"), 2},
		{"kept where only new lines are wanted", text("@@ -0,0 +1,1 @@", " a"), 1},
		{"put where the new lines are there", text("@@ -1,1 +1,1 @@", "+a", "+b"), 2},
		{"no such sign", text("@@ -1,1 +1,1 @@", "!a", "-b", "+c"), 1},
		{"byte 0 for a sign", text("@@ -0,0 +1,1 @@", "\x00a"), 1},
		{"an empty line for a mark", text("@@ -1,1 +1,2 @@", "", "+a"), 1},
		{"an empty line for a later mark", text("@@ -1,1 +1,2 @@", "-a", "+b", ""), 3},
		{"a head for a mark", text("@@ -1,1 +1,1 @@", "@@ -1,1 +1,1 @@"), 1},
		{"a head too early", text("@@ -1,1 +1,1 @@", "-a", "@@ -1,1 +1,1 @@"), 2},
		{"no newline", text("@@ -0,0 +1,2 @@", "+a", "\\ No newline at end of file"), 2},
		{"one mark too many", text("@@ -0,0 +1,1 @@", "+a", "+b"), 2},
		{"one kept too many", text("@@ -0,0 +1,1 @@", "+a", " b"), 2},
		{"one taken too many", text("@@ -0,0 +1,1 @@", "+a", "-b"), 2},
		{"an empty line too many", text("@@ -0,0 +1,1 @@", "+a", ""), 2},
		{"a mark of a hunk of none", text("@@ -0,0 +0,0 @@", "+a"), 1},
		{"just a line end", "\n", 0},
		{"two line ends", "\n\n", 0},
		{"of two the first is told", text("@@ -1,1 +1,1 @@", "-a", "-b", "!c", ""), 2},

		{"no line ends", "a", 0},
		{"a head that is not ended", "@@ -0,0 +1,1 @@", 0},
		{"a head that is not ended and wants none", "@@ -0,0 +0,0 @@", 0},
		{"a part of a head", "@@ -0,0 +", 0},
		{"marks are missing", text("@@ -1,1 +1,1 @@"), 1},
		{"a taken mark is missing", text("@@ -1,1 +1,1 @@", "+a"), 2},
		{"a put mark is missing", text("@@ -1,1 +1,1 @@", "-a"), 2},
		{"the last mark is not ended", "@@ -0,0 +1,1 @@\n+a", 1},
		{"the last mark is not ended, nor right", "@@ -0,0 +1,1 @@\n-a", 1},
		{"the last mark but one is not ended", "@@ -0,0 +1,2 @@\n+a", 1},
		{"the last mark is ended by byte 13", "@@ -0,0 +1,1 @@\n+a\r", 1},
		{"the second hunk is too short", text("@@ -0,0 +1,1 @@", "+a", "@@ -1,1 +2,2 @@", " a"), 4},
		{"the second hunk has no marks", text("@@ -0,0 +1,1 @@", "+a", "@@ -1,1 +2,2 @@"), 3},
		{"something behind the last line end", text("@@ -0,0 +1,1 @@", "+a") + " ", 2},
		{"a head behind the last line end", text("@@ -0,0 +1,1 @@", "+a") + "@@ -0,0 +0,0 @@", 2},
		{"a wrong line comes ahead of no end", "@@ -0,0 +1,1 @@\n-a\n+b", 1},
		{"a wrong line comes ahead of an early end", text("@@ -1,2 +1,1 @@", "+a", "+b"), 2},

		{"the form comes ahead of what Check tells", text("@@ -61,1 +61,1 @@", "-a", "+"+over, "!"), 3},
		{"a form that is wrong late", text(append(times(70, "@@ -0,0 +0,0 @@"), "x")...), 70},
	} {
		wantWrong(t, c.name, c.in, c.place, api.ErrSyntax)
	}
}

// U1: of texts of the right form chapter 3's Check's error, at 0 whichever
// hunk it is.
func TestParseTellsWhatCheckTells(t *testing.T) {
	good := []string{"@@ -1,1 +0,0 @@", "-a"}
	for _, c := range []struct {
		name string
		in   []string
		want api.Errno
	}{
		{"no mark", []string{"@@ -0,0 +0,0 @@"}, api.ErrNone},
		{"no mark, far behind", []string{"@@ -999,0 +999,0 @@"}, api.ErrNone},
		{"no mark in the second", append(slices.Clone(good), "@@ -5,0 +4,0 @@"), api.ErrNone},
		{"no change", []string{"@@ -1,1 +1,1 @@", " a"}, api.ErrNone},
		{"81 bytes", []string{"@@ -0,0 +1,1 @@", "+" + over}, api.ErrFull},
		{"120 taken", slices.Concat([]string{"@@ -1,120 +0,0 @@"}, times(120, "-a")), api.ErrRange},
		{"121 taken", slices.Concat([]string{"@@ -1,121 +0,0 @@"}, times(121, "-a")), api.ErrFull},
		{"999 of each", slices.Concat([]string{"@@ -1,999 +1,999 @@"}, times(999, "-a"), times(999, "+b")), api.ErrFull},
		{"999 kept", slices.Concat([]string{"@@ -999,999 +999,999 @@"}, times(999, " a")), api.ErrFull},
		{"61 taken", slices.Concat([]string{"@@ -1,61 +0,0 @@"}, times(61, "-a")), api.ErrRange},
		{"Old at 60", []string{"@@ -61,1 +61,1 @@", "-a", "+b"}, api.ErrRange},
		{"Old at 61", []string{"@@ -61,0 +62,1 @@", "+a"}, api.ErrRange},
		{"Old at 998", []string{"@@ -999,1 +999,1 @@", "-a", "+b"}, api.ErrRange},
		{"New is Old, and 1", []string{"@@ -0,0 +2,1 @@", "+a"}, api.ErrShape},
		{"New is Old, less 1", []string{"@@ -1,0 +1,1 @@", "+a"}, api.ErrShape},
		{"1 is not left out", []string{"@@ -1,1 +1,0 @@", "-a"}, api.ErrShape},
		{"the second is wrong", append(slices.Clone(good), "@@ -3,0 +4,1 @@", "+a"), api.ErrShape},
		{"the second is ahead", append([]string{"@@ -4,1 +3,0 @@", "-a"}, good...), api.ErrShape},
		{"the second is out of range", append(slices.Clone(good), "@@ -62,0 +62,1 @@", "+a"), api.ErrRange},
		{"of two wrong hunks the first is told", []string{"@@ -1,1 +1,1 @@", " a", "@@ -0,0 +2,1 @@", "+a"}, api.ErrNone},
		{"61 hunks", times(61, "@@ -0,0 +0,0 @@"), api.ErrFull},
		{"60 hunks without marks", times(60, "@@ -0,0 +0,0 @@"), api.ErrNone},
	} {
		wantWrong(t, c.name, text(c.in...), 0, c.want)
	}
}

// U1: texts of more than MaxText bytes, whatever is in them.
func TestParseTooLong(t *testing.T) {
	const most = 400000
	head := "@@ -0,0 +1,1 @@\n+"
	long := head + strings.Repeat("x", most-len(head)-1) + "\n"
	wantWrong(t, "as long as may be", long, 0, api.ErrFull)
	wantWrong(t, "one byte more in a mark", long[:len(long)-1]+"x\n", 0, api.ErrSyntax)
	wantWrong(t, "as long as may be, not ended", long[:len(long)-1]+"x", 1, api.ErrSyntax)
	wantWrong(t, "too long, not ended", long+"x", 0, api.ErrSyntax)
	wantWrong(t, "too long, and a later line is wrong", head+"a\n"+strings.Repeat("\n", most), 0, api.ErrSyntax)
	wantWrong(t, "as long as may be, and a later line is wrong", head+"\n"+strings.Repeat("\n", most-len(head)-1), 2, api.ErrSyntax)
	wantWrong(t, "very many hunks", strings.Repeat("@@ -0,0 +0,0 @@\n", most/16), 0, api.ErrFull)
}

// every gives all marks of at most n lines whose texts tell the places.
func every(n int) [][]api.Mark {
	all := [][]api.Mark{nil}
	last := all
	for i := range n {
		var next [][]api.Mark
		for _, s := range last {
			for _, sign := range []byte{' ', '-', '+'} {
				next = append(next, append(slices.Clone(s), api.Mark{Sign: sign, Text: strings.Repeat("-", i)}))
			}
		}
		all = append(all, next...)
		last = next
	}
	return all
}

// What is told is told back: all small scripts, cut into hunks.
func TestThereAndBack(t *testing.T) {
	for _, s := range every(7) {
		for n := range 3 {
			l, err := hunk.Cut(s, n)
			if err != nil {
				t.Fatal(err)
			}
			told, err := Print(l)
			if err != nil {
				t.Fatalf("Print(%v): %v", l, err)
			}
			back, place, err := Parse(told)
			if err != nil || place != 0 || !equal(back, l) {
				t.Fatalf("Parse(%q): got %v, %d, %v, want %v", told, back, place, err, l)
			}
		}
	}
}

// lines gives a hunk's lines as the document words them, with whatever places.
func lines(h api.Hunk) []string {
	old, new := 0, 0
	var out []string
	for _, m := range h.Marks {
		if m.Sign != '+' {
			old++
		}
		if m.Sign != '-' {
			new++
		}
		out = append(out, string([]byte{m.Sign})+m.Text)
	}
	number := func(ahead, size int) string {
		if size == 0 {
			return strconv.Itoa(ahead) + ",0"
		}
		return strconv.Itoa(ahead+1) + "," + strconv.Itoa(size)
	}
	return append([]string{"@@ -" + number(h.Old, old) + " +" + number(h.New, new) + " @@"}, out...)
}

// smallTexts gives all texts of at most n lines, as lines, of hunks with at
// most two old and one new line, by their text; parts has the beginnings of
// these and of longer ones.
func smallTexts(n int) (whole map[string][]api.Hunk, parts map[string]bool) {
	var hunks []api.Hunk
	for _, s := range every(3) {
		for i := range s {
			s[i].Text = "a"
		}
		if before, after := hunk.Size(api.Hunk{Marks: s}); before <= 2 && after <= 1 {
			for place := range 4 {
				hunks = append(hunks, api.Hunk{Old: place / 2, New: place % 2, Marks: s})
			}
		}
	}
	whole, parts = map[string][]api.Hunk{"": nil}, map[string]bool{"": true}
	type item struct {
		l     []api.Hunk
		lines []string
	}
	work := []item{{}}
	for len(work) > 0 {
		x := work[0]
		work = work[1:]
		for _, h := range hunks {
			next := item{append(slices.Clone(x.l), h), append(slices.Clone(x.lines), lines(h)...)}
			for i := range min(n, len(next.lines)) {
				parts[text(next.lines[:i+1]...)] = true
			}
			if len(next.lines) <= n {
				whole[text(next.lines...)] = next.l
				work = append(work, next)
			}
		}
	}
	return whole, parts
}

// U1 at all texts of up to four lines from some: what is told is how many of
// their lines are the beginning of a text of the right form.
func TestEverySmallText(t *testing.T) {
	const most = 4
	whole, parts := smallTexts(most)
	words := []string{" a", "-a", "+a", "", "@@ -1,2 +1,1 @@", "@@ -0,1 +1,1 @@", "@@ -0,0 +0,1 @@"}
	for i := range 4 {
		for j := range 4 {
			// Of these L is 0 or 1 without lines, and 1 or 2 with one.
			words = append(words, "@@ -"+[]string{"0,0", "1,0", "1,1", "2,1"}[i]+" +"+[]string{"0,0", "1,0", "1,1", "2,1"}[j]+" @@")
		}
	}
	var try func(s []string)
	try = func(s []string) {
		checkText(t, s, "", whole, parts)
		checkText(t, s, "@@ -0,0 +0,0 @@", whole, parts)
		if len(s) < most {
			for _, w := range words {
				try(append(slices.Clip(s), w))
			}
		}
	}
	try(nil)
}

func checkText(t *testing.T, s []string, rest string, whole map[string][]api.Hunk, parts map[string]bool) {
	t.Helper()
	in := strings.Join(append(slices.Clip(s), rest), "\n")
	wantPlace := 0
	for wantPlace < len(s) && parts[text(s[:wantPlace+1]...)] {
		wantPlace++
	}
	want, isWhole := whole[in]
	wantErr := error(api.ErrSyntax)
	if isWhole {
		wantPlace = 0
		_, wantErr = hunk.Check(want)
	}
	l, place, err := Parse(in)
	if err != wantErr || place != wantPlace || err == nil && !equal(l, want) || err != nil && len(l) != 0 {
		t.Fatalf("Parse(%q): got %v, %d, %v, want %v, %d, %v", in, l, place, err, want, wantPlace, wantErr)
	}
}

// U1: a text with one byte changed, taken away or put in is refused, or is just
// the text of what it is read as.
func TestNearTexts(t *testing.T) {
	good := text("@@ -1,2 +1,1 @@", " a", "-b", "@@ -12,0 +12,1 @@", "+@@")
	try := func(s string) {
		l, place, err := Parse(s)
		if err != nil {
			if lines := strings.Count(s, "\n"); len(l) != 0 || place < 0 || place > lines {
				t.Errorf("Parse(%q): got %v, %d beside %v", s, l, place, err)
			}
			return
		}
		if back, err := Print(l); err != nil || back != s || place != 0 {
			t.Errorf("Parse(%q): got %v, %d, of which the text is %q, %v", s, l, place, back, err)
		}
	}
	for i := range len(good) {
		try(good[:i])
		try(good[:i] + good[i+1:])
		for c := range 256 {
			b := string([]byte{byte(c)})
			try(good[:i] + b + good[i+1:])
			try(good[:i] + b + good[i:])
		}
	}
}

// P2 and P4 of DOC.md: nothing that was handed in is written into, nor read
// behind its length.
func TestListsAreLeftAlone(t *testing.T) {
	s := marks(" a", "-b", "!c", "+\n")
	wantMarks := slices.Clone(s)
	hunks := []api.Hunk{{Old: 1, New: 1, Marks: s[:2]}, {Old: -1, Marks: s}}
	got, err := Print(hunks[:1])
	wantErr(t, "Print", err, api.OK)
	if want := text("@@ -2,2 +2,1 @@", " a", "-b"); got != want {
		t.Errorf("Print: got %q, want %q", got, want)
	}
	if !slices.Equal(s, wantMarks) || hunks[0].Old != 1 || hunks[1].Old != -1 || len(hunks[0].Marks) != 2 {
		t.Errorf("changed to %q, %v", s, hunks)
	}
}

// P2 of DOC.md: what comes out is fresh memory, and no two lists share any.
func TestAnswersAreFreshMemory(t *testing.T) {
	in := text("@@ -1,1 +0,0 @@", "-ab", "@@ -3,0 +3,1 @@", "+cd")
	one, _, _ := Parse(in)
	two, _, _ := Parse(in)
	for i := range one {
		_ = append(one[i].Marks, marks("!x", "!y", "!z")...)
	}
	want := list(at(0, 0, "-ab"), at(3, 2, "+cd"))
	if !equal(one, want) {
		t.Errorf("the hunks share memory: %v", one)
	}
	one[0].Marks[0].Text = "changed"
	one[1] = api.Hunk{}
	if !equal(two, want) {
		t.Errorf("a second answer became %v", two)
	}
}

// Read goes as far as hunks do, and looks at nothing but their form.
func TestRead(t *testing.T) {
	for _, c := range []struct {
		name    string
		in      []string
		want    []api.Hunk
		n       int
		isWhole bool
	}{
		{"nil", nil, nil, 0, true},
		{"no hunk", []string{"--- a/b", "+++ b/b"}, nil, 0, true},
		{"an empty line", []string{""}, nil, 0, true},
		{"a head that is wrong", []string{"@@ -0,1 +1,1 @@", " a"}, nil, 0, true},
		{"a number that is wrong", []string{"@@ -1,-1 +1,1 @@", " a"}, nil, 0, true},
		{"a hunk", []string{"@@ -0,0 +1,1 @@", "+a"}, list(at(0, 0, "+a")), 2, true},
		{"a hunk, and no other", []string{"@@ -0,0 +1,1 @@", "+a", "--- a/b"}, list(at(0, 0, "+a")), 2, true},
		{"two hunks, and a wrong head", []string{"@@ -0,0 +1,1 @@", "+a", "@@ -5,1 +5,0 @@", "-b", "@@ -0,9 +0,9 @@"}, list(at(0, 0, "+a"), at(4, 5, "-b")), 4, true},
		{"a mark that looks like a head", []string{"@@ -1,1 +0,0 @@", "--- a/b", "--- a/b"}, list(at(0, 0, "--- a/b")), 2, true},
		{"too early an end", []string{"@@ -1,1 +1,1 @@", "-a"}, list(at(0, 0, "-a")), 2, false},
		{"a head alone", []string{"@@ -1,1 +1,1 @@"}, list(at(0, 0)), 1, false},
		{"a mark that cannot stand there", []string{"@@ -1,1 +1,1 @@", "-a", "-b", "+c"}, list(at(0, 0, "-a")), 2, false},
		{"a sign that is none", []string{"@@ -0,0 +1,1 @@", "!a"}, list(at(0, 0)), 1, false},
		{"an empty line for a mark", []string{"@@ -0,0 +1,1 @@", ""}, list(at(0, 0)), 1, false},
		{"what Check refuses", []string{"@@ -999,0 +0,0 @@", "@@ -1,1 +9,1 @@", " " + over}, list(at(999, 0), at(0, 8, " "+over)), 3, true},
	} {
		l, n, isWhole := Read(c.in)
		if !equal(l, c.want) || n != c.n || isWhole != c.isWhole {
			t.Errorf("Read: %s: got %v, %d, %v, want %v, %d, %v", c.name, l, n, isWhole, c.want, c.n, c.isWhole)
		}
	}
}
