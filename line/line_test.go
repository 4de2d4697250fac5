package line

import (
	"slices"
	"strings"
	"testing"

	"handstitch/api"
	"handstitch/plain"
)

func wantErr(t *testing.T, what string, err error, want api.Errno) {
	t.Helper()
	if got := plain.Told(err); got != want || (err == nil) != (want == api.OK) {
		t.Errorf("%s: got error %v (%v), want %v", what, err, got, want)
	}
}

func times(n int, s string) []string {
	l := make([]string, n)
	for i := range l {
		l[i] = s
	}
	return l
}

// full is a line that has as many bytes as may be; over has one more.
var (
	full = strings.Repeat("x", 80)
	over = strings.Repeat("x", 81)
)

// L1: what Check tells, which Join tells too.
var checks = []struct {
	name string
	in   []string
	want api.Errno
}{
	{"nil", nil, api.OK},
	{"empty", []string{}, api.OK},
	{"one empty line", []string{""}, api.OK},
	{"ordinary", []string{"a", "", "b c"}, api.OK},
	{"any bytes but 10", []string{"\x00\t\r\x0b\x85\xff\xe2\x80\xa8"}, api.OK},
	{"80 bytes", []string{full}, api.OK},
	{"81 bytes", []string{over}, api.ErrFull},
	{"bytes are counted, not runes", []string{strings.Repeat("\u00e9", 41)}, api.ErrFull},
	{"60 lines", times(60, ""), api.OK},
	{"60 full lines", times(60, full), api.OK},
	{"61 lines", times(61, ""), api.ErrFull},
	{"byte 10 alone", []string{"\n"}, api.ErrShape},
	{"byte 10 at the end", []string{"a\n"}, api.ErrShape},
	{"byte 10 at the beginning", []string{"\na"}, api.ErrShape},
	{"byte 10 in a later line", []string{"a", "b", "c\nd"}, api.ErrShape},
	{"byte 10 in the last of 60", append(times(59, ""), "\n"), api.ErrShape},
	{"too long in the last of 60", append(times(59, ""), over), api.ErrFull},
	{"too many lines comes ahead of byte 10", times(61, "\n"), api.ErrFull},
	{"in one line byte 10 comes ahead of too long", []string{over + "\n"}, api.ErrShape},
	{"a line that is too long comes ahead of a later byte 10", []string{over, "\n"}, api.ErrFull},
	{"a byte 10 comes ahead of a later line that is too long", []string{"\n", over}, api.ErrShape},
}

func TestCheck(t *testing.T) {
	for _, c := range checks {
		wantErr(t, "Check: "+c.name, Check(c.in), c.want)
	}
}

func TestJoinTellsWhatCheckTells(t *testing.T) {
	for _, c := range checks {
		text, err := Join(c.in)
		wantErr(t, "Join: "+c.name, err, c.want)
		if c.want != api.OK && text != "" {
			t.Errorf("Join: %s: %q beside an error", c.name, text)
		}
	}
}

// pairs are lines and their text, each way.
var pairs = []struct {
	lines []string
	text  string
}{
	{nil, ""},
	{[]string{""}, "\n"},
	{[]string{"", ""}, "\n\n"},
	{[]string{"a"}, "a\n"},
	{[]string{"a", ""}, "a\n\n"},
	{[]string{"", "a"}, "\na\n"},
	{[]string{"a", "b"}, "a\nb\n"},
	{[]string{" a\t", "\r", "\x00\xff"}, " a\t\n\r\n\x00\xff\n"},
	{[]string{full, full}, full + "\n" + full + "\n"},
	{times(60, ""), strings.Repeat("\n", 60)},
	{times(60, full), strings.Repeat(full+"\n", 60)},
}

func TestJoin(t *testing.T) {
	for _, p := range pairs {
		text, err := Join(p.lines)
		wantErr(t, "Join", err, api.OK)
		if text != p.text {
			t.Errorf("Join(%q): got %q, want %q", p.lines, text, p.text)
		}
	}
}

func TestSplit(t *testing.T) {
	for _, p := range pairs {
		lines, err := Split(p.text)
		wantErr(t, "Split", err, api.OK)
		if !slices.Equal(lines, p.lines) {
			t.Errorf("Split(%q): got %q, want %q", p.text, lines, p.lines)
		}
	}
}

func TestSplitWrong(t *testing.T) {
	for _, c := range []struct {
		name, text string
		want       api.Errno
	}{
		{"no end", "a", api.ErrSyntax},
		{"no end of the last line", "a\nb", api.ErrSyntax},
		{"ends by byte 13", "a\r", api.ErrSyntax},
		{"a byte 0 behind the end", "a\n\x00", api.ErrSyntax},
		{"a line of 81 bytes", over + "\n", api.ErrFull},
		{"a last line of 81 bytes", "a\n" + over + "\n", api.ErrFull},
		{"61 lines", strings.Repeat("\n", 61), api.ErrFull},
		{"61 lines, the last one not empty", strings.Repeat("\n", 60) + "a\n", api.ErrFull},
		{"62 lines", strings.Repeat("a\n", 62), api.ErrFull},
		{"63 lines", strings.Repeat("a\n", 63), api.ErrFull},
		{"very many lines", strings.Repeat("\n", 1<<20), api.ErrFull},
		{"no end comes ahead of too long", over, api.ErrSyntax},
		{"no end comes ahead of too many", strings.Repeat("\n", 61) + "a", api.ErrSyntax},
	} {
		lines, err := Split(c.text)
		wantErr(t, "Split: "+c.name, err, c.want)
		if len(lines) != 0 {
			t.Errorf("Split: %s: %q beside an error", c.name, lines)
		}
	}
}

// TestThereAndBack goes through all short texts of three bytes.
func TestThereAndBack(t *testing.T) {
	texts := []string{""}
	for range 6 {
		for _, s := range texts {
			for _, c := range []string{"a", "\r", "\n"} {
				texts = append(texts, s+c)
			}
		}
		slices.Sort(texts)
		texts = slices.Compact(texts)
	}
	for _, s := range texts {
		lines, err := Split(s)
		if s != "" && s[len(s)-1] != '\n' {
			wantErr(t, "Split", err, api.ErrSyntax)
			continue
		}
		wantErr(t, "Split", err, api.OK)
		if len(lines) != strings.Count(s, "\n") {
			t.Errorf("Split(%q): %d lines", s, len(lines))
		}
		if back, err := Join(lines); err != nil || back != s {
			t.Errorf("Join(Split(%q)): got %q, %v", s, back, err)
		}
	}
}

// P2 of DOC.md: nothing that was handed in is written into, nor read behind
// its length.
func TestListsAreLeftAlone(t *testing.T) {
	whole := []string{"a", "b", "\n", over}
	want := slices.Clone(whole)
	wantErr(t, "Check", Check(whole[:2]), api.OK)
	text, err := Join(whole[:2])
	wantErr(t, "Join", err, api.OK)
	if text != "a\nb\n" {
		t.Errorf("Join: got %q", text)
	}
	if !slices.Equal(whole, want) {
		t.Errorf("changed to %q", whole)
	}
}

// P2 of DOC.md: what comes out is fresh memory.
func TestSplitAnswersFreshMemory(t *testing.T) {
	one, _ := Split("ab\ncd\n")
	two, _ := Split("ab\ncd\n")
	one[0] = "changed"
	if !slices.Equal(two, []string{"ab", "cd"}) {
		t.Errorf("a second answer became %q", two)
	}
}

// L2.
func TestPath(t *testing.T) {
	for _, c := range []struct {
		path string
		want api.Errno
	}{
		{"a", api.OK},
		{"a/b.c", api.OK},
		{"a/b/c", api.OK},
		{"abcdefghijklm", api.OK},
		{"nopqrstuvwxyz", api.OK},
		{"0123456789", api.OK},
		{"-", api.OK},
		{"--/-.-", api.OK},
		{"...", api.OK},
		{".a", api.OK},
		{"a.", api.OK},
		{"..a", api.OK},
		{"a../...", api.OK},
		{".-", api.OK},
		{strings.Repeat("a", 20), api.OK},
		{"a/a/a/a/a/a/a/a/a/aa", api.OK},
		{strings.Repeat("a", 21), api.ErrFull},
		{"a/a/a/a/a/a/a/a/a/a/a", api.ErrFull},
		{"", api.ErrSyntax},
		{"/", api.ErrSyntax},
		{"/a", api.ErrSyntax},
		{"a/", api.ErrSyntax},
		{"a//b", api.ErrSyntax},
		{".", api.ErrSyntax},
		{"..", api.ErrSyntax},
		{"./a", api.ErrSyntax},
		{"a/.", api.ErrSyntax},
		{"../a", api.ErrSyntax},
		{"a/..", api.ErrSyntax},
		{"a/./b", api.ErrSyntax},
		{"a/../b", api.ErrSyntax},
		{"a b", api.ErrSyntax},
		{"a\n", api.ErrSyntax},
		{"A", api.ErrSyntax},
		{"a/b_c", api.ErrSyntax},
		{"\u00e9", api.ErrSyntax},
		{strings.Repeat("A", 20), api.ErrSyntax},
		{strings.Repeat("a", 19) + "/", api.ErrSyntax},
		{strings.Repeat("/", 21), api.ErrFull},
		{strings.Repeat("A", 21), api.ErrFull},
		{strings.Repeat("\u00e9", 11), api.ErrFull},
	} {
		wantErr(t, "Path("+c.path+")", Path(c.path), c.want)
	}
}

// L2: each of the 256 bytes, alone and within a name.
func TestPathBytes(t *testing.T) {
	const good = "abcdefghijklmnopqrstuvwxyz0123456789.-"
	for i := range 256 {
		c := string([]byte{byte(i)})
		want := api.ErrSyntax
		if strings.Contains(good, c) {
			want = api.OK
		}
		if c != "/" {
			wantErr(t, "Path(a"+c+"a)", Path("a"+c+"a"), want)
			wantErr(t, "Path(b/"+c+"a)", Path("b/"+c+"a"), want)
		}
		if c == "." {
			want = api.ErrSyntax
		}
		wantErr(t, "Path("+c+")", Path(c), want)
	}
}
