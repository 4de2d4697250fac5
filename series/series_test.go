package series

import (
	"fmt"
	"regexp"
	"slices"
	"strconv"
	"strings"
	"testing"

	"handstitch/api"
	"handstitch/git"
	"handstitch/mail"
	"handstitch/patch"
	"handstitch/plain"
	"handstitch/tree"
)

func wantErr(t *testing.T, what string, err error, want api.Errno) {
	t.Helper()
	if got := plain.Told(err); got != want || (err == nil) != (want == api.OK) {
		t.Errorf("%s: got error %v (%v), want %v", what, err, got, want)
	}
}

// at reads marks from words such as "-x", " y", "+z".
func at(old, new int, words ...string) api.Hunk {
	h := api.Hunk{Old: old, New: new}
	for _, w := range words {
		h.Marks = append(h.Marks, api.Mark{Sign: w[0], Text: w[1:]})
	}
	return h
}

func edit(path string, l ...api.Hunk) api.Change {
	return api.Change{What: api.Edit, Path: path, Hunks: l}
}

func made(path string, l ...api.Hunk) api.Change {
	return api.Change{What: api.Make, Path: path, Hunks: l}
}

func wipe(path string, l ...api.Hunk) api.Change {
	return api.Change{What: api.Wipe, Path: path, Hunks: l}
}

func list(l ...api.Change) []api.Change { return l }

func several(p ...[]api.Change) [][]api.Change { return p }

func file(path string, lines ...string) api.File {
	return api.File{Path: path, Lines: lines}
}

func files(l ...api.File) []api.File { return l }

func letters(l ...api.Mail) []api.Mail { return l }

// of gives a mail as handstitch would send it, of whatever words.
func of(subject, id, body string) api.Mail {
	return api.Mail{From: "handstitch", Subject: subject, ID: id, Body: []byte(body)}
}

// one gives the mail at a place of so many.
func one(place, count int, title, body string) api.Mail {
	return of(fmt.Sprintf("[PATCH %d/%d] %s", place, count, title), fmt.Sprintf("%d.%d", place, count), body)
}

func name(i int) string { return "d" + string(rune('a'+i)) }

// all gives changes without hunks, of name(from) to name(to-1).
func all(what, from, to int) []api.Change {
	var p []api.Change
	for i := from; i < to; i++ {
		p = append(p, api.Change{What: what, Path: name(i)})
	}
	return p
}

func equalMails(a, b []api.Mail) bool {
	return slices.EqualFunc(a, b, func(x, y api.Mail) bool {
		return x.From == y.From && x.Subject == y.Subject && x.ID == y.ID && string(x.Body) == string(y.Body)
	})
}

func equalChanges(a, b []api.Change) bool {
	return slices.EqualFunc(a, b, func(x, y api.Change) bool {
		return x.What == y.What && x.Path == y.Path && slices.EqualFunc(x.Hunks, y.Hunks, func(x, y api.Hunk) bool {
			return x.Old == y.Old && x.New == y.New && slices.Equal(x.Marks, y.Marks)
		})
	})
}

func equalFiles(a, b []api.File) bool {
	return slices.EqualFunc(a, b, func(x, y api.File) bool {
		return x.Path == y.Path && slices.Equal(x.Lines, y.Lines)
	})
}

// shown is not as long as mails may be.
func shown(l []api.Mail) string {
	text := ""
	for i, m := range l {
		if i == 20 {
			text += " .."
			break
		}
		text += fmt.Sprintf("{%.20q %.50q %.20q %d bytes: %.60q}", m.From, m.Subject, m.ID, len(m.Body), m.Body)
	}
	return fmt.Sprintf("%d: %s", len(l), text)
}

func wantMails(t *testing.T, title string, p [][]api.Change, want []api.Mail) {
	t.Helper()
	got, err := Pack(title, p)
	wantErr(t, "Pack", err, api.OK)
	if !equalMails(got, want) {
		t.Errorf("Pack of %q, %.300v: got %s, want %s", title, p, shown(got), shown(want))
	}
}

func wantNoMails(t *testing.T, title string, p [][]api.Change, want api.Errno) {
	t.Helper()
	got, err := Pack(title, p)
	if plain.Told(err) != want || got != nil {
		t.Errorf("Pack of %.50q, %.300v: got %s and error %v, want nothing and %v", title, p, shown(got), err, want)
	}
}

func wantSeries(t *testing.T, l []api.Mail, title string, p [][]api.Change) {
	t.Helper()
	gotTitle, got, err := Open(l)
	wantErr(t, "Open", err, api.OK)
	if gotTitle != title || !slices.EqualFunc(got, p, equalChanges) {
		t.Errorf("Open of %s: got %q, %.300v, want %q, %.300v", shown(l), gotTitle, got, title, p)
	}
}

// wantNoSeries asks for the error, and for nothing beside it; of Run too.
func wantNoSeries(t *testing.T, l []api.Mail, want api.Errno) {
	t.Helper()
	title, p, err := Open(l)
	if plain.Told(err) != want || title != "" || p != nil {
		t.Errorf("Open of %s: got %q, %.300v and error %v, want nothing and %v", shown(l), title, p, err, want)
	}
	wantNoRun(t, nil, l, want)
}

func wantRun(t *testing.T, a []api.File, l []api.Mail, want []api.File) {
	t.Helper()
	got, err := Run(a, l)
	wantErr(t, "Run", err, api.OK)
	if !equalFiles(got, want) {
		t.Errorf("Run of %.300v, %s: got %.300v, want %.300v", a, shown(l), got, want)
	}
}

func wantNoRun(t *testing.T, a []api.File, l []api.Mail, want api.Errno) {
	t.Helper()
	got, err := Run(a, l)
	if plain.Told(err) != want || got != nil {
		t.Errorf("Run of %.300v, %s: got %.300v and error %v, want nothing and %v", a, shown(l), got, err, want)
	}
}

// long gives a patch that has a text of so many bytes.
func long(t *testing.T, size int) []api.Change {
	t.Helper()
	full := slices.Repeat([]api.Mark{{Sign: api.Put, Text: strings.Repeat("x", 80)}}, 60)
	var p []api.Change
	over := -size
	for over < 0 {
		p = append(p, made(name(len(p)), api.Hunk{Marks: slices.Clone(full)}))
		over = len(printed(t, p)) - size
	}
	for i := range p {
		for j := range 60 {
			m := &p[i].Hunks[0].Marks[j]
			less := min(80, over)
			m.Text = m.Text[less:]
			over -= less
		}
	}
	if got := len(printed(t, p)); got != size {
		t.Fatalf("a text of %d bytes, want %d", got, size)
	}
	return p
}

func printed(t *testing.T, p []api.Change) string {
	t.Helper()
	text, err := git.Print(p)
	if err != nil {
		t.Fatalf("Print: %v", err)
	}
	return text
}

// numbers gives numbers below n, the same for the same seed.
func numbers(seed uint64) func(n int) int {
	return func(n int) int {
		seed = seed*6364136223846793005 + 1442695040888963407
		return int(seed >> 33 % uint64(n))
	}
}

// byHand: series and their mails, worked out by hand.
var byHand = []struct {
	title string
	p     [][]api.Change
	mails []api.Mail
}{
	{"t", nil, letters(of("[PATCH 0/0] t", "0.0", ""))},
	{"x", several(list(made("a"))), letters(
		of("[PATCH 0/1] x", "0.1", ""),
		of("[PATCH 1/1] x", "1.1", "--- /dev/null\n+++ b/a\n"),
	)},
	// A patch without changes has a mail of its own, without a body as the cover.
	{"none of it", several(nil, nil), letters(
		of("[PATCH 0/2] none of it", "0.2", ""),
		of("[PATCH 1/2] none of it", "1.2", ""),
		of("[PATCH 2/2] none of it", "2.2", ""),
	)},
	{"a title", several(
		list(made("a", at(0, 0, "+x", "+y")), wipe("b", at(0, 0, "-"))),
		nil,
		list(edit("a", at(1, 1, "-y", "+z"))),
	), letters(
		of("[PATCH 0/3] a title", "0.3", ""),
		of("[PATCH 1/3] a title", "1.3", "--- /dev/null\n+++ b/a\n@@ -0,0 +1,2 @@\n+x\n+y\n--- a/b\n+++ /dev/null\n@@ -1,1 +0,0 @@\n-\n"),
		of("[PATCH 2/3] a title", "2.3", ""),
		of("[PATCH 3/3] a title", "3.3", "--- a/a\n+++ b/a\n@@ -2,1 +2,1 @@\n-y\n+z\n"),
	)},
	// Titles that look like something else.
	{"[PATCH 1/1] x", nil, letters(of("[PATCH 0/0] [PATCH 1/1] x", "0.0", ""))},
	{"] ", nil, letters(of("[PATCH 0/0] ] ", "0.0", ""))},
	{" ", several(nil), letters(of("[PATCH 0/1]  ", "0.1", ""), of("[PATCH 1/1]  ", "1.1", ""))},
	{"] ] ] ] ] ] ] ] ] ] ", nil, letters(of("[PATCH 0/0] ] ] ] ] ] ] ] ] ] ] ", "0.0", ""))},
	{"/1] <a> ~", nil, letters(of("[PATCH 0/0] /1] <a> ~", "0.0", ""))},
	{"t", make([][]api.Change, 8), letters(
		of("[PATCH 0/8] t", "0.8", ""), of("[PATCH 1/8] t", "1.8", ""), of("[PATCH 2/8] t", "2.8", ""),
		of("[PATCH 3/8] t", "3.8", ""), of("[PATCH 4/8] t", "4.8", ""), of("[PATCH 5/8] t", "5.8", ""),
		of("[PATCH 6/8] t", "6.8", ""), of("[PATCH 7/8] t", "7.8", ""), of("[PATCH 8/8] t", "8.8", ""),
	)},
}

// S1, S2.
func TestByHand(t *testing.T) {
	for _, c := range byHand {
		wantMails(t, c.title, c.p, c.mails)
		wantSeries(t, c.mails, c.title, c.p)
	}
}

// orders calls f with each order of the mails.
func orders(l []api.Mail, n int, f func([]api.Mail)) {
	if n == len(l) {
		f(l)
		return
	}
	for i := n; i < len(l); i++ {
		l[n], l[i] = l[i], l[n]
		orders(l, n+1, f)
		l[n], l[i] = l[i], l[n]
	}
}

// TestEachOrder: S2.
func TestEachOrder(t *testing.T) {
	for _, c := range byHand {
		if len(c.mails) < 7 {
			orders(slices.Clone(c.mails), 0, func(l []api.Mail) { wantSeries(t, l, c.title, c.p) })
		}
	}
	next := numbers(1)
	var p [][]api.Change
	for i := range 8 {
		p = append(p, all(api.Wipe, i, i+3))
	}
	l, err := Pack("eight", p)
	wantErr(t, "Pack", err, api.OK)
	for range 2000 {
		i, j := next(len(l)), next(len(l))
		l[i], l[j] = l[j], l[i]
		wantSeries(t, l, "eight", p)
	}
}

// TestPackTitles: S1: each byte and each length, what is told of it both ways.
func TestPackTitles(t *testing.T) {
	p := several(list(made("a")))
	for c := range 256 {
		b := string([]byte{byte(c)})
		for _, title := range []string{b, b + "x", "x" + b, "x" + b + "y", b + strings.Repeat("x", 19), strings.Repeat("x", 19) + b} {
			wantTitle(t, title, p, 32 <= c && c <= 126)
		}
	}
	for n := range 60 {
		wantTitle(t, strings.Repeat("x", n), p, 1 <= n && n <= 20)
		wantTitle(t, strings.Repeat(" ", n), p, 1 <= n && n <= 20)
		wantTitle(t, strings.Repeat("é", n), p, false)
	}
	wantTitle(t, strings.Repeat("x", 1<<20), p, false)
}

func wantTitle(t *testing.T, title string, p [][]api.Change, good bool) {
	t.Helper()
	l := letters(one(0, 1, title, ""), one(1, 1, title, "--- /dev/null\n+++ b/a\n"))
	if good {
		wantMails(t, title, p, l)
		wantSeries(t, l, title, p)
		return
	}
	wantNoMails(t, title, p, api.ErrSyntax)
	wantNoSeries(t, l, api.ErrSyntax)
	wantNoSeries(t, l[1:], api.ErrSyntax)
}

// S1.
func TestPackWrong(t *testing.T) {
	good, great, over := list(made("a")), long(t, 40000), long(t, 40001)
	for _, c := range []struct {
		title string
		p     [][]api.Change
		want  api.Errno
	}{
		{"t", make([][]api.Change, 9), api.ErrFull},
		{"t", make([][]api.Change, 1000), api.ErrFull},
		{"", nil, api.ErrSyntax},
		{"t\n", nil, api.ErrSyntax},
		// What chapter 7 tells.
		{"t", several(list(api.Change{})), api.ErrRange},
		{"t", several(list(made(""))), api.ErrSyntax},
		{"t", several(list(made("A"))), api.ErrSyntax},
		{"t", several(list(made(strings.Repeat("p", 21)))), api.ErrFull},
		{"t", several(list(edit("a"))), api.ErrShape},
		{"t", several(list(edit("a", at(0, 0, " x")))), api.ErrNone},
		{"t", several(list(edit("a", at(-1, -1, "+x")))), api.ErrRange},
		{"t", several(list(edit("a", at(0, 0, "+x\n")))), api.ErrShape},
		{"t", several(list(edit("a", at(0, 0, "?x")))), api.ErrRange},
		{"t", several(list(made("b"), made("a"))), api.ErrShape},
		{"t", several(all(api.Make, 0, 17)), api.ErrFull},
		// A text is too great.
		{"t", several(over), api.ErrFull},
		{"t", several(good, over), api.ErrFull},
		{"t", several(long(t, 60000)), api.ErrFull},
		{"t", several(great, great, over), api.ErrFull},
		// Wrong in two ways.
		{"", make([][]api.Change, 9), api.ErrFull},
		{"", append(make([][]api.Change, 8), list(edit("a"))), api.ErrFull},
		{"t", append(make([][]api.Change, 8), list(edit("a"))), api.ErrFull},
		{"", several(list(edit("a"))), api.ErrSyntax},
		{"", several(over), api.ErrSyntax},
		{"t", several(list(edit("a")), list(api.Change{})), api.ErrShape},
		{"t", several(list(api.Change{}), list(edit("a"))), api.ErrRange},
		{"t", several(good, list(edit("a")), over), api.ErrShape},
		{"t", several(good, over, list(edit("a"))), api.ErrFull},
		{"t", several(append(over, made("a"))), api.ErrShape},
		{"t", several(list(api.Change{}), over), api.ErrRange},
	} {
		wantNoMails(t, c.title, c.p, c.want)
	}
}

// TestGreatestTexts: S1, S2: as many bytes as may be, and one more.
func TestGreatestTexts(t *testing.T) {
	for size := 39000; size <= 41000; size += 25 {
		wantSize(t, size)
	}
	for size := 39990; size <= 40010; size++ {
		wantSize(t, size)
	}
}

func wantSize(t *testing.T, size int) {
	t.Helper()
	p := several(list(made("a")), long(t, size))
	l := letters(one(0, 2, "t", ""), one(1, 2, "t", "--- /dev/null\n+++ b/a\n"), one(2, 2, "t", printed(t, p[1])))
	if size > 40000 {
		wantNoMails(t, "t", p, api.ErrFull)
		wantNoSeries(t, l, api.ErrFull)
		return
	}
	wantMails(t, "t", p, l)
	wantSeries(t, l, "t", p)
}

// wrongAlone: mails that are none by themselves.
var wrongAlone = []struct {
	mail api.Mail
	want api.Errno
}{
	// What chapter 12 tells, whatever else there is.
	{api.Mail{}, api.ErrSyntax},
	{of("", "1.1", ""), api.ErrSyntax},
	{of("[PATCH 1/1] t", "", ""), api.ErrSyntax},
	{of("[PATCH 1/1] t", "<1.1>", ""), api.ErrSyntax},
	{of("[PATCH 1/1] t\n", "1.1", ""), api.ErrSyntax},
	{of("[PATCH 1/1] "+strings.Repeat("t", 29), "1.1", ""), api.ErrSyntax},
	{one(1, 1, "t", strings.Repeat("x", 40001)), api.ErrFull},
	{one(0, 1, "t", strings.Repeat("x", 40001)), api.ErrFull},
	{one(9, 1, "t", strings.Repeat("x", 40001)), api.ErrFull},
	{api.Mail{From: "a", Subject: "b", ID: "c", Body: make([]byte, 40001)}, api.ErrFull},
	{of("", "1.1", strings.Repeat("x", 40001)), api.ErrSyntax},
	// From somebody else.
	{api.Mail{From: "a", Subject: "[PATCH 1/1] t", ID: "1.1"}, api.ErrSyntax},
	{api.Mail{From: "", Subject: "[PATCH 1/1] t", ID: "1.1"}, api.ErrSyntax},
	{api.Mail{From: "Handstitch", Subject: "[PATCH 1/1] t", ID: "1.1"}, api.ErrSyntax},
	{api.Mail{From: "handstitch ", Subject: "[PATCH 1/1] t", ID: "1.1"}, api.ErrSyntax},
	// Of other words.
	{of("t", "1.1", ""), api.ErrSyntax},
	{of("[PATCH 1/1]", "1.1", ""), api.ErrSyntax},
	{of("[PATCH 1/1] ", "1.1", ""), api.ErrSyntax},
	{of("[PATCH 1/1]t", "1.1", ""), api.ErrSyntax},
	{of("[PATCH 1/1 t", "1.1", ""), api.ErrSyntax},
	{of("[PATCH 11] t", "1.1", ""), api.ErrSyntax},
	{of("[PATCH 1] t", "1.1", ""), api.ErrSyntax},
	{of("[PATCH] t", "1.1", ""), api.ErrSyntax},
	{of("[PATCH /1] t", "1.1", ""), api.ErrSyntax},
	{of("[PATCH 1/] t", "1.1", ""), api.ErrSyntax},
	{of("[PATCH 1.1] t", "1.1", ""), api.ErrSyntax},
	{of("[patch 1/1] t", "1.1", ""), api.ErrSyntax},
	{of("PATCH 1/1] t", "1.1", ""), api.ErrSyntax},
	{of("[PATCH  1/1] t", "1.1", ""), api.ErrSyntax},
	{of("[PATCH1/1] t", "1.1", ""), api.ErrSyntax},
	{of(" [PATCH 1/1] t", "1.1", ""), api.ErrSyntax},
	{of("[PATCH x] [PATCH 1/1] t", "1.1", ""), api.ErrSyntax},
	{of("[PATCH 1/1] 123456789012345678901", "1.1", ""), api.ErrSyntax},
	{of("[PATCH 1/1] t", "1", ""), api.ErrSyntax},
	{of("[PATCH 1/1] t", "11", ""), api.ErrSyntax},
	{of("[PATCH 1/1] t", "1.", ""), api.ErrSyntax},
	{of("[PATCH 1/1] t", ".1", ""), api.ErrSyntax},
	{of("[PATCH 0/0] t", ".", ""), api.ErrSyntax},
	{of("[PATCH 0/0] t", "0", ""), api.ErrSyntax},
	{of("[PATCH 0/0] t", "x.y", ""), api.ErrSyntax},
	{of("[PATCH x/y] t", "x.y", ""), api.ErrSyntax},
	{of("[PATCH 1/1] t", "1/1", ""), api.ErrSyntax},
	{of("[PATCH 1/1] t", "1.1.1", ""), api.ErrSyntax},
	{of("[PATCH 1/1] t", "1.1 ", ""), api.ErrSyntax},
	{of("[PATCH 1/1] t", " 1.1", ""), api.ErrSyntax},
	// Subject and ID say another thing.
	{of("[PATCH 1/2] t", "1.1", ""), api.ErrSyntax},
	{of("[PATCH 1/2] t", "2.2", ""), api.ErrSyntax},
	{of("[PATCH 0/2] t", "2.0", ""), api.ErrSyntax},
	{of("[PATCH 1/2] t", "2.1", ""), api.ErrSyntax},
	{of("[PATCH 0/1] t", "1.1", ""), api.ErrSyntax},
	// Numbers that are none of these.
	{of("[PATCH 01/1] t", "01.1", ""), api.ErrSyntax},
	{of("[PATCH 1/01] t", "1.01", ""), api.ErrSyntax},
	{of("[PATCH 00/1] t", "00.1", ""), api.ErrSyntax},
	{of("[PATCH 0/00] t", "0.00", ""), api.ErrSyntax},
	{of("[PATCH +1/1] t", "+1.1", ""), api.ErrSyntax},
	{of("[PATCH 1/+1] t", "1.+1", ""), api.ErrSyntax},
	{of("[PATCH -0/0] t", "-0.0", ""), api.ErrSyntax},
	{of("[PATCH -1/1] t", "-1.1", ""), api.ErrSyntax},
	{of("[PATCH -1/-1] t", "-1.-1", ""), api.ErrSyntax},
	{of("[PATCH 0/-1] t", "0.-1", ""), api.ErrSyntax},
	{of("[PATCH 0x1/1] t", "0x1.1", ""), api.ErrSyntax},
	{of("[PATCH 1/1_0] t", "1.1_0", ""), api.ErrSyntax},
	{one(1, 0, "t", ""), api.ErrSyntax},
	{one(2, 1, "t", ""), api.ErrSyntax},
	{one(9, 8, "t", ""), api.ErrSyntax},
	{one(0, 9, "t", ""), api.ErrSyntax},
	{one(1, 9, "t", ""), api.ErrSyntax},
	{one(9, 9, "t", ""), api.ErrSyntax},
	{one(1, 10, "t", ""), api.ErrSyntax},
	{of("[PATCH 1/18446744073709551617] t", "1.18446744073709551617", ""), api.ErrSyntax},
	{of("[PATCH 1/9223372036854775807] t", "1.9223372036854775807", ""), api.ErrSyntax},
	{of("[PATCH -9223372036854775808/1] t", "-9223372036854775808.1", ""), api.ErrSyntax},
	// A cover has no body, not even a patch's.
	{one(0, 1, "t", "\n"), api.ErrSyntax},
	{one(0, 1, "t", "--- /dev/null\n+++ b/a\n"), api.ErrSyntax},
	{one(0, 0, "t", "--- /dev/null\n+++ b/a\n"), api.ErrSyntax},
	{one(0, 1, "t", "--- a/a\n+++ b/a\n"), api.ErrSyntax},
	// What chapter 8 tells.
	{one(1, 1, "t", "\n"), api.ErrSyntax},
	{one(1, 1, "t", "x"), api.ErrSyntax},
	{one(1, 1, "t", "--- /dev/null\n+++ b/a"), api.ErrSyntax},
	{one(1, 1, "t", "--- /dev/null\r\n+++ b/a\r\n"), api.ErrSyntax},
	{one(1, 1, "t", "--- /dev/null\n+++ b/a\n\n"), api.ErrSyntax},
	{one(1, 1, "t", "--- /dev/null\n+++ b/A\n"), api.ErrSyntax},
	{one(1, 1, "t", "--- /dev/null\n+++ b/"+strings.Repeat("a", 21)+"\n"), api.ErrFull},
	{one(1, 1, "t", strings.Repeat("x", 40000)), api.ErrSyntax},
	{one(1, 1, "t", "--- a/a\n+++ b/a\n"), api.ErrShape},
	{one(1, 1, "t", "--- /dev/null\n+++ b/b\n--- /dev/null\n+++ b/a\n"), api.ErrShape},
	{one(1, 1, "t", "--- a/a\n+++ b/a\n@@ -1,1 +1,1 @@\n x\n"), api.ErrNone},
	{one(1, 1, "t", "--- a/a\n+++ b/a\n@@ -61,1 +60,0 @@\n-x\n"), api.ErrRange},
	{one(1, 1, "t", strings.Repeat("--- /dev/null\n+++ b/a\n", 17)), api.ErrFull},
	// The mail's own form comes ahead of its body's.
	{of("[PATCH 1/2] t", "1.1", "--- a/a\n+++ b/a\n"), api.ErrSyntax},
	{one(9, 9, "t", "--- a/a\n+++ b/a\n"), api.ErrSyntax},
	{api.Mail{From: "a", Subject: "[PATCH 1/1] t", ID: "1.1", Body: []byte("--- a/a\n+++ b/a\n")}, api.ErrSyntax},
}

// TestOpenWrongAlone: S2: wherever it stands in a series, and though it does
// not go with the others.
func TestOpenWrongAlone(t *testing.T) {
	good, err := Pack("t", several(list(made("a")), list(wipe("a"))))
	wantErr(t, "Pack", err, api.OK)
	for _, c := range wrongAlone {
		wantNoSeries(t, letters(c.mail), c.want)
		wantNoSeries(t, letters(c.mail, c.mail), c.want)
		for i := range len(good) + 1 {
			wantNoSeries(t, slices.Insert(slices.Clone(good), i, c.mail), c.want)
		}
		for i := range good {
			l := slices.Clone(good)
			l[i] = c.mail
			wantNoSeries(t, l, c.want)
		}
		// Wrong together comes behind.
		wantNoSeries(t, letters(good[1], good[1], c.mail), c.want)
		wantNoSeries(t, letters(one(0, 1, "a", ""), one(1, 1, "b", ""), c.mail), c.want)
		wantNoSeries(t, letters(one(0, 1, "a", ""), one(0, 2, "a", ""), c.mail), c.want)
	}
	for i, c := range wrongAlone {
		d := wrongAlone[(i*7+3)%len(wrongAlone)]
		wantNoSeries(t, letters(good[0], c.mail, good[1], d.mail), c.want)
		wantNoSeries(t, letters(d.mail, c.mail), d.want)
	}
}

// TestOpenWrongTogether: S2.
func TestOpenWrongTogether(t *testing.T) {
	cover, first, second := one(0, 2, "t", ""), one(1, 2, "t", "--- /dev/null\n+++ b/a\n"), one(2, 2, "t", "")
	for _, c := range []struct {
		l    []api.Mail
		want api.Errno
	}{
		{nil, api.ErrNone},
		{letters(cover), api.ErrNone},
		{letters(first), api.ErrNone},
		{letters(second), api.ErrNone},
		{letters(cover, first), api.ErrNone},
		{letters(cover, second), api.ErrNone},
		{letters(second, first), api.ErrNone},
		{letters(one(0, 8, "t", "")), api.ErrNone},
		{letters(cover, first, second, cover), api.ErrClash},
		{letters(cover, first, second, first), api.ErrClash},
		{letters(second, cover, first, second), api.ErrClash},
		{letters(one(0, 0, "t", ""), one(0, 0, "t", "")), api.ErrClash},
		// Twice, and another one is missing; twice, with another body.
		{letters(cover, cover), api.ErrClash},
		{letters(cover, first, first), api.ErrClash},
		{letters(second, second, second), api.ErrClash},
		{letters(cover, first, one(1, 2, "t", "")), api.ErrClash},
		{letters(cover, first, one(1, 2, "t", ""), second), api.ErrClash},
		// Another title, another count.
		{letters(cover, first, one(2, 2, "u", "")), api.ErrShape},
		{letters(one(0, 2, "T", ""), first, second), api.ErrShape},
		{letters(cover, one(1, 2, "t ", ""), second), api.ErrShape},
		{letters(cover, one(1, 3, "t", ""), second), api.ErrShape},
		{letters(cover, first, one(2, 3, "t", "")), api.ErrShape},
		{letters(one(0, 1, "t", ""), first), api.ErrShape},
		{letters(one(0, 0, "t", ""), one(0, 0, "u", "")), api.ErrShape},
		{letters(one(0, 0, "t", ""), one(0, 1, "t", ""), one(1, 1, "t", "")), api.ErrShape},
		{letters(cover, first, second, one(0, 0, "t", "")), api.ErrShape},
		{letters(cover, first, second, one(0, 2, "u", "")), api.ErrShape},
		// And twice, and missing.
		{letters(cover, cover, one(2, 2, "u", "")), api.ErrShape},
		{letters(one(2, 2, "u", ""), cover, cover), api.ErrShape},
		{letters(cover, one(2, 2, "u", ""), cover), api.ErrShape},
		{letters(first, one(1, 3, "t", "")), api.ErrShape},
	} {
		wantNoSeries(t, c.l, c.want)
	}
}

// form is how the document has a mail's head, as two lines.
var form = regexp.MustCompile(`\A\[PATCH ([0-8])/([0-8])\] ([ -~]{1,20})\n([0-8])\.([0-8])\z`)

// openable is Open, as the document words it.
func openable(l []api.Mail) (string, [][]api.Change, api.Errno) {
	count := map[string]int{}
	bodies := map[string]string{}
	series := map[string]bool{}
	for _, m := range l {
		if err := mail.Check(m); err != nil {
			return "", nil, plain.Told(err)
		}
		found := form.FindStringSubmatch(m.Subject + "\n" + m.ID)
		if m.From != "handstitch" || found == nil || found[1] != found[4] || found[2] != found[5] || found[1] > found[2] || found[1] == "0" && len(m.Body) > 0 {
			return "", nil, api.ErrSyntax
		}
		if _, err := git.Parse(string(m.Body)); err != nil {
			return "", nil, plain.Told(err)
		}
		series[found[2]+" "+found[3]] = true
		bodies[found[1]] = string(m.Body)
		count[found[1]]++
	}
	if len(series) > 1 {
		return "", nil, api.ErrShape
	}
	for _, n := range count {
		if n > 1 {
			return "", nil, api.ErrClash
		}
	}
	for key := range series {
		var p [][]api.Change
		for i := range key[0] - '0' + 1 {
			changes, _ := git.Parse(bodies[strconv.Itoa(int(i))])
			p = append(p, changes)
		}
		if len(count) == len(p) {
			return key[2:], p[1:], api.OK
		}
	}
	return "", nil, api.ErrNone
}

func asOpened(t *testing.T, l []api.Mail) api.Errno {
	t.Helper()
	title, p, want := openable(l)
	if want == api.OK {
		wantSeries(t, l, title, p)
	} else {
		wantNoSeries(t, l, want)
	}
	return want
}

// TestManyLists: S2: mails of a few series, drawn as they come, held against
// the document's wording.
func TestManyLists(t *testing.T) {
	var pool []api.Mail
	for count := range 3 {
		for place := range count + 1 {
			pool = append(pool, one(place, count, "t", ""))
		}
	}
	pool = append(pool, one(1, 2, "t", "--- /dev/null\n+++ b/a\n"), one(1, 1, "u", ""), one(2, 2, "u", ""), one(2, 1, "t", ""), one(1, 1, "t", "--- a/a\n+++ b/a\n"))
	told := map[api.Errno]int{}
	next := numbers(2)
	for range 40000 {
		var l []api.Mail
		for range next(5) {
			l = append(l, pool[next(len(pool))])
		}
		told[asOpened(t, l)]++
	}
	for _, want := range []api.Errno{api.OK, api.ErrSyntax, api.ErrShape, api.ErrClash, api.ErrNone} {
		if told[want] < 100 {
			t.Errorf("%v was told %d times", want, told[want])
		}
	}
}

// TestNearMails: S2: mails that are one byte away from good ones.
func TestNearMails(t *testing.T) {
	bytes := "\n !/.-+0123789PTt[]~\x7f"
	others := letters(one(0, 2, "t", ""), one(2, 2, "t", ""))
	told := map[api.Errno]int{}
	for _, m := range letters(one(1, 2, "t", ""), one(1, 2, "t", "--- /dev/null\n+++ b/a\n")) {
		for i, word := range []string{m.From, m.Subject, m.ID, string(m.Body)} {
			for _, other := range near(word, bytes) {
				n := m
				switch i {
				case 0:
					n.From = other
				case 1:
					n.Subject = other
				case 2:
					n.ID = other
				default:
					n.Body = []byte(other)
				}
				told[asOpened(t, letters(n))]++
				told[asOpened(t, append(letters(n), others...))]++
			}
		}
	}
	if told[api.OK] == 0 || told[api.ErrShape] == 0 || told[api.ErrSyntax] == 0 {
		t.Errorf("too few were told: %v", told)
	}
}

// near gives texts with a byte more, a byte less and another byte.
func near(s, bytes string) []string {
	var l []string
	for i := range len(s) + 1 {
		for j := range len(bytes) {
			l = append(l, s[:i]+bytes[j:j+1]+s[i:])
			if i < len(s) {
				l = append(l, s[:i]+bytes[j:j+1]+s[i+1:])
			}
		}
		if i < len(s) {
			l = append(l, s[:i]+s[i+1:])
		}
	}
	return l
}

// S2.
func TestRun(t *testing.T) {
	for _, c := range []struct {
		before []api.File
		p      [][]api.Change
		after  []api.File
	}{
		{nil, nil, nil},
		{nil, several(nil), nil},
		{files(file("a", "x"), file("b")), nil, files(file("a", "x"), file("b"))},
		{nil, several(list(made("a"))), files(file("a"))},
		{nil, several(list(made("a")), list(wipe("a"))), nil},
		{nil, several(list(made("a")), list(wipe("a")), list(made("a", at(0, 0, "+x")))), files(file("a", "x"))},
		// Each patch finds what the one ahead of it left.
		{files(file("a", "x")), several(
			list(edit("a", at(0, 0, "-x", "+y"))),
			list(edit("a", at(0, 0, "-y", "+z"))),
			list(made("b", at(0, 0, "+x"))),
			list(edit("a", at(1, 1, "+x")), wipe("b", at(0, 0, "-x"))),
		), files(file("a", "z", "x"))},
		// Room that an earlier patch gives.
		{eight(), several(list(wipe("da")), list(made("zz"))), append(eight()[1:], file("zz"))},
	} {
		l, err := Pack("t", c.p)
		wantErr(t, "Pack", err, api.OK)
		wantRun(t, c.before, l, c.after)
		slices.Reverse(l)
		wantRun(t, c.before, l, c.after)
	}
}

// eight gives as many files as a tree may have.
func eight() []api.File {
	var t []api.File
	for i := range 8 {
		t = append(t, file(name(i)))
	}
	return t
}

// S2.
func TestRunWrong(t *testing.T) {
	full, none := append(eight(), file("zz")), letters()
	clash, wrong := letters(one(0, 0, "t", ""), one(0, 0, "t", "")), letters(api.Mail{})
	pack := func(p ...[]api.Change) []api.Mail {
		l, err := Pack("t", p)
		wantErr(t, "Pack", err, api.OK)
		return l
	}
	for _, c := range []struct {
		before []api.File
		l      []api.Mail
		want   api.Errno
	}{
		// The tree comes ahead of the mails, and these of what they would do.
		{full, pack(), api.ErrFull},
		{full, none, api.ErrFull},
		{files(file("b"), file("a")), pack(), api.ErrShape},
		{files(file("b"), file("a")), wrong, api.ErrShape},
		{files(file("A")), clash, api.ErrSyntax},
		{files(file("a", "x\n")), none, api.ErrShape},
		{files(file("a")), none, api.ErrNone},
		{files(file("a")), clash, api.ErrClash},
		{files(file("a")), wrong, api.ErrSyntax},
		{nil, pack(list(wipe("a")), nil)[:2], api.ErrNone},
		{files(file("a")), pack(list(made("a")), nil)[1:], api.ErrNone},
		{files(file("a")), append(pack(list(made("a"))), one(0, 0, "t", "")), api.ErrShape},
		// What chapter 7 tells.
		{nil, pack(list(wipe("a"))), api.ErrNone},
		{nil, pack(list(edit("a", at(0, 0, "+x")))), api.ErrNone},
		{files(file("a")), pack(list(made("a"))), api.ErrClash},
		{files(file("a", "x")), pack(list(wipe("a"))), api.ErrClash},
		{files(file("a", "x")), pack(list(edit("a", at(0, 0, "-y")))), api.ErrClash},
		{files(file("a", slices.Repeat([]string{"x"}, 60)...)), pack(list(edit("a", at(0, 0, "+x")))), api.ErrFull},
		{eight(), pack(list(made("zz"))), api.ErrFull},
		// Of the first patch that has one: not of a later one, nor of the cover.
		{nil, pack(nil, list(wipe("a"))), api.ErrNone},
		{nil, pack(list(made("a")), list(made("a"))), api.ErrClash},
		{nil, pack(list(made("a")), list(wipe("b")), list(made("a"))), api.ErrNone},
		{nil, pack(list(made("a")), list(made("a")), list(wipe("b"))), api.ErrClash},
		// Room that only a later patch gives.
		{eight(), pack(list(made("zz")), list(wipe("da"))), api.ErrFull},
		{nil, pack(all(api.Make, 0, 8), all(api.Make, 8, 16)), api.ErrFull},
	} {
		wantNoRun(t, c.before, c.l, c.want)
		if _, err := tree.Check(c.before); err == nil {
			slices.Reverse(c.l)
			wantNoRun(t, c.before, c.l, c.want)
		}
	}
}

// drawn gives a tree of a few files.
func drawn(next func(int) int) []api.File {
	var t []api.File
	for i := range 8 {
		if next(3) > 0 {
			continue
		}
		f := file(name(i))
		for range next(6) {
			f.Lines = append(f.Lines, string(rune('x'+next(3))))
		}
		t = append(t, f)
	}
	return t
}

// TestFromTreeToTree: S1, S2: packed, boxed, in whatever order; what is
// missing is missed.
func TestFromTreeToTree(t *testing.T) {
	next := numbers(3)
	for range 600 {
		trees := [][]api.File{drawn(next)}
		var p [][]api.Change
		for i := range next(9) {
			trees = append(trees, drawn(next))
			changes, err := patch.Diff(trees[i], trees[i+1], next(4))
			wantErr(t, "Diff", err, api.OK)
			p = append(p, changes)
		}
		l := boxed(t, p)
		for i := range l {
			j := i + next(len(l)-i)
			l[i], l[j] = l[j], l[i]
		}
		wantSeries(t, l, "from tree to tree", p)
		wantRun(t, trees[0], l, trees[len(p)])
		for i := range l {
			wantNoSeries(t, slices.Concat(l[:i], l[i+1:]), api.ErrNone)
			wantNoSeries(t, slices.Concat(l, l[i:i+1]), api.ErrClash)
		}
	}
}

// boxed gives the mails of a series that went through a box.
func boxed(t *testing.T, p [][]api.Change) []api.Mail {
	t.Helper()
	packed, err := Pack("from tree to tree", p)
	wantErr(t, "Pack", err, api.OK)
	text, err := mail.Box(packed)
	wantErr(t, "Box", err, api.OK)
	l, err := mail.Open(text)
	wantErr(t, "Open", err, api.OK)
	if !equalMails(l, packed) {
		t.Errorf("mails that went through a box: got %s, want %s", shown(l), shown(packed))
	}
	return l
}

// TestNoNumberPanics: P1 of the whole.
func TestNoNumberPanics(t *testing.T) {
	wild := []int{-1 << 63, -1<<63 + 1, -61, -1, 0, 1, 4, 60, 61, 1<<63 - 2, 1<<63 - 1}
	for _, n := range wild {
		for _, m := range wild {
			wild := api.Change{What: n, Path: "a", Hunks: []api.Hunk{at(m, n, "+x")}}
			if _, err := Pack("t", several(list(wild))); (err == nil) != (n == 1 && m == 1) {
				t.Errorf("%v: got error %v", wild, err)
			}
			wild.What, wild.Hunks[0].New = api.Edit, m
			if _, err := Pack("t", several(list(wild))); (err == nil) != (0 <= m && m < 60) {
				t.Errorf("%v: got error %v", wild, err)
			}
		}
	}
}

// TestGreatLists: P1 of the whole: what is long by itself costs no more.
func TestGreatLists(t *testing.T) {
	l := slices.Repeat(letters(one(1, 1, "t", "--- /dev/null\n+++ b/a\n")), 1<<16)
	wantNoSeries(t, l, api.ErrClash)
	l[len(l)-1] = one(0, 2, "t", "")
	wantNoSeries(t, l, api.ErrShape)
	l[len(l)-2].From = strings.Repeat("x", 1<<20)
	wantNoSeries(t, l, api.ErrSyntax)
	wantNoMails(t, strings.Repeat("t", 1<<24), nil, api.ErrSyntax)
	wantNoMails(t, "t", make([][]api.Change, 1<<20), api.ErrFull)
	wantNoMails(t, "t", several(make([]api.Change, 1<<16)), api.ErrFull)
	wantNoSeries(t, letters(one(1, 1, "t", strings.Repeat("x", 1<<24))), api.ErrFull)
}

// given has a tree and patches with something behind each list.
func given() ([]api.File, [][]api.Change) {
	t := files(file("a", "x", "behind"), file("behind"))[:1]
	t[0].Lines = t[0].Lines[:1]
	p := several(
		list(edit("a", at(0, 0, "-x", "+y", "+behind"), at(7, 7, "+behind")), wipe("behind")),
		list(made("b", at(0, 0, "+z", "?")), made("behind")),
		list(made("behind")),
	)[:2]
	for i := range p {
		p[i] = p[i][:1]
		p[i][0].Hunks = p[i][0].Hunks[:1]
		marks := p[i][0].Hunks[0].Marks
		p[i][0].Hunks[0].Marks = marks[:len(marks)-1]
	}
	return t, p
}

// behind tells what is in lists and behind them.
func behind(a []api.File, p [][]api.Change) string {
	a, p = a[:cap(a)], p[:cap(p)]
	text := ""
	for _, f := range a {
		text += fmt.Sprint(f.Path, f.Lines[:cap(f.Lines)])
	}
	for _, changes := range p {
		for _, c := range changes[:cap(changes)] {
			text += fmt.Sprint(c.What, c.Path)
			for _, h := range c.Hunks[:cap(c.Hunks)] {
				text += fmt.Sprint(h.Old, h.New, h.Marks[:cap(h.Marks)])
			}
		}
	}
	return text
}

func TestListsAreLeftAlone(t *testing.T) {
	a, p := given()
	was := behind(a, p)
	l, err := Pack("t", p)
	wantErr(t, "Pack", err, api.OK)
	want := letters(
		one(0, 2, "t", ""),
		one(1, 2, "t", "--- a/a\n+++ b/a\n@@ -1,1 +1,1 @@\n-x\n+y\n"),
		one(2, 2, "t", "--- /dev/null\n+++ b/b\n@@ -0,0 +1,1 @@\n+z\n"),
	)
	if !equalMails(l, want) {
		t.Fatalf("Pack: got %s, want %s", shown(l), shown(want))
	}
	for i := range l {
		l[i].Body = append(l[i].Body, "behind"...)[:len(l[i].Body)]
	}
	l = append(l, one(1, 1, "behind", ""))[:3]
	wantSeries(t, l, "t", p)
	wantRun(t, a, l, files(file("a", "y"), file("b", "z")))
	if now := behind(a, p); now != was {
		t.Errorf("a list was written: got %s, want %s", now, was)
	}
	for i, m := range l {
		if !equalMails(letters(m), want[i:i+1]) || string(m.Body[:len(m.Body)+6]) != string(m.Body)+"behind" {
			t.Errorf("mail %d was written: %s", i, shown(letters(m)))
		}
	}
	if !equalMails(l[3:4], letters(one(1, 1, "behind", ""))) {
		t.Errorf("what lies behind the mails was written: %s", shown(l[3:4]))
	}
}

func TestAnswersAreFreshMemory(t *testing.T) {
	a, p := given()
	same := several(p[0], p[0])
	l, err := Pack("t", same)
	wantErr(t, "Pack", err, api.OK)
	l[1].Body[0] = '!'
	_ = append(l[0].Body, "!!!"...)
	_ = append(l[1].Body, "!!!"...)
	if l[2].Body[0] == '!' || !equalMails(l[:1], letters(one(0, 2, "t", ""))) {
		t.Errorf("Pack: two mails share memory: %s", shown(l))
	}
	l, err = Pack("t", same)
	wantErr(t, "Pack", err, api.OK)
	_, got, err := Open(l)
	wantErr(t, "Open", err, api.OK)
	for i := range l {
		clear(l[i].Body)
	}
	got[0][0].Path = "!"
	got[0][0].Hunks[0].Marks[0].Text = "!"
	_ = append(got[0], made("!"))
	_ = append(got[0][0].Hunks, at(1, 1, "+!"))
	if !equalChanges(got[1], p[0]) {
		t.Errorf("Open: an answer shares memory: %v", got)
	}
	empty := letters(one(0, 0, "t", ""))
	after, err := Run(a, empty)
	wantErr(t, "Run", err, api.OK)
	after[0].Path = "!"
	after[0].Lines[0] = "!"
	_ = append(after[0].Lines, "!")
	if !equalFiles(a, files(file("a", "x"))) || a[0].Lines[:2][1] != "behind" {
		t.Errorf("Run: the answer shares memory with the tree: %v", a)
	}
}
