package edit

import (
	"slices"
	"strings"
	"testing"

	"handstitch/api"
	"handstitch/plain"
)

func wantErr(t *testing.T, what string, err error, want api.Errno) {
	t.Helper()
	if got := plain.Told(err); got != want || (err == nil) != (want == api.OK) {
		t.Errorf("%s: got error %v (%v), want %v", what, err, got, want)
	}
}

// marks reads a script from words such as "-x", " y", "+z".
func marks(words ...string) []api.Mark {
	var s []api.Mark
	for _, w := range words {
		s = append(s, api.Mark{Sign: w[0], Text: w[1:]})
	}
	return s
}

func times(n int, s string) []string {
	l := make([]string, n)
	for i := range l {
		l[i] = s
	}
	return l
}

// full is a line that has as many bytes as may be; over has one more.
var (
	full = strings.Repeat("x", 80)
	over = strings.Repeat("x", 81)
)

// E1: what Check tells, which Old and New tell too.
var checks = []struct {
	name string
	in   []api.Mark
	want api.Errno
}{
	{"nil", nil, api.OK},
	{"empty", []api.Mark{}, api.OK},
	{"each sign", marks(" a", "-b", "+c"), api.OK},
	{"empty texts", marks(" ", "-", "+"), api.OK},
	{"a text that looks like marks", marks(" -a", "-+b", "+ c"), api.OK},
	{"any bytes but 10", marks("+\x00\t\r\x0b\x85\xff\xe2\x80\xa8"), api.OK},
	{"80 bytes", marks(" "+full, "-"+full, "+"+full), api.OK},
	{"120 marks", marks(times(120, "-a")...), api.OK},
	{"120 marks that are kept", marks(times(120, " a")...), api.OK},
	{"121 marks", marks(times(121, "-a")...), api.ErrFull},
	{"no sign", []api.Mark{{}}, api.ErrRange},
	{"another sign", marks("!a"), api.ErrRange},
	{"a later sign", marks(" a", "-b", "+c", "=d"), api.ErrRange},
	{"the sign of the 120th", marks(append(times(119, " a"), "=d")...), api.ErrRange},
	{"byte 10 kept", marks(" \n"), api.ErrShape},
	{"byte 10 taken", marks("-a\n"), api.ErrShape},
	{"byte 10 put", marks("+\na"), api.ErrShape},
	{"a later byte 10", marks(" a", "-b", "+c\nd"), api.ErrShape},
	{"81 bytes kept", marks(" " + over), api.ErrFull},
	{"81 bytes taken", marks("-" + over), api.ErrFull},
	{"81 bytes put", marks(" a", "+"+over), api.ErrFull},
	{"bytes are counted, not runes", marks("+" + strings.Repeat("\u00e9", 41)), api.ErrFull},
	{"too many marks come ahead of a sign", marks(times(121, "!a")...), api.ErrFull},
	{"too many marks come ahead of byte 10", marks(times(121, "+\n")...), api.ErrFull},
	{"in one mark the sign comes ahead of byte 10", marks("!\n"), api.ErrRange},
	{"in one mark the sign comes ahead of too long", marks("!" + over), api.ErrRange},
	{"in one mark byte 10 comes ahead of too long", marks("+" + over + "\n"), api.ErrShape},
	{"a byte 10 comes ahead of a later sign", marks(" \n", "!a"), api.ErrShape},
	{"too long comes ahead of a later sign", marks(" "+over, "!a"), api.ErrFull},
	{"too long comes ahead of a later byte 10", marks("-"+over, "+\n"), api.ErrFull},
	{"a sign comes ahead of a later byte 10", marks("!", "+\n"), api.ErrRange},
}

func TestCheck(t *testing.T) {
	for _, c := range checks {
		wantErr(t, "Check: "+c.name, Check(c.in), c.want)
	}
}

func TestOldAndNewTellWhatCheckTells(t *testing.T) {
	for _, c := range checks {
		old, err := Old(c.in)
		wantErr(t, "Old: "+c.name, err, c.want)
		if c.want != api.OK && len(old) != 0 {
			t.Errorf("Old: %s: %q beside an error", c.name, old)
		}
		new, err := New(c.in)
		wantErr(t, "New: "+c.name, err, c.want)
		if c.want != api.OK && len(new) != 0 {
			t.Errorf("New: %s: %q beside an error", c.name, new)
		}
	}
}

// E1: each of the 256 signs.
func TestSigns(t *testing.T) {
	for i := range 256 {
		want := api.ErrRange
		if i == ' ' || i == '-' || i == '+' {
			want = api.OK
		}
		wantErr(t, "Check of sign "+string(rune(i)), Check([]api.Mark{{Sign: byte(i), Text: "a"}}), want)
	}
}

// E1.
func TestOldAndNew(t *testing.T) {
	for _, c := range []struct {
		s        []api.Mark
		old, new []string
	}{
		{nil, nil, nil},
		{marks(" a"), []string{"a"}, []string{"a"}},
		{marks("-a"), []string{"a"}, nil},
		{marks("+a"), nil, []string{"a"}},
		{marks(" a", "+b"), []string{"a"}, []string{"a", "b"}},
		{marks("-x", " y", "+z"), []string{"x", "y"}, []string{"y", "z"}},
		{marks("+b", "-a", " c", " c", "+", "-"), []string{"a", "c", "c", ""}, []string{"b", "c", "c", ""}},
		{marks(" "+full, "-"+full, "+"+full), []string{full, full}, []string{full, full}},
		{marks("--", "++", "  "), []string{"-", " "}, []string{"+", " "}},
		// A script may have more lines than a file.
		{marks(times(120, " a")...), times(120, "a"), times(120, "a")},
		{marks(times(120, "-a")...), times(120, "a"), nil},
		{marks(times(120, "+a")...), nil, times(120, "a")},
	} {
		old, err := Old(c.s)
		wantErr(t, "Old", err, api.OK)
		if !slices.Equal(old, c.old) {
			t.Errorf("Old(%v): got %q, want %q", c.s, old, c.old)
		}
		new, err := New(c.s)
		wantErr(t, "New", err, api.OK)
		if !slices.Equal(new, c.new) {
			t.Errorf("New(%v): got %q, want %q", c.s, new, c.new)
		}
	}
}

// E2: ordinary inputs and edges, worked out by hand.
var scripts = []struct {
	a, b []string
	want []api.Mark
}{
	{nil, nil, nil},
	{[]string{}, []string{}, nil},
	{[]string{"a"}, []string{"a"}, marks(" a")},
	{[]string{""}, []string{""}, marks(" ")},
	{nil, []string{"a", "b"}, marks("+a", "+b")},
	{[]string{"a", "b"}, nil, marks("-a", "-b")},
	{[]string{"x", "y"}, []string{"y", "z"}, marks("-x", " y", "+z")},
	// Take is ahead of Put, though its byte is behind.
	{[]string{"a"}, []string{"b"}, marks("-a", "+b")},
	{[]string{"a", "b"}, []string{"c", "d"}, marks("-a", "-b", "+c", "+d")},
	{[]string{"a", "b"}, []string{"b", "a"}, marks("-a", " b", "+a")},
	// Keep is ahead of both: of like lines the first is kept.
	{[]string{"a", "a"}, []string{"a"}, marks(" a", "-a")},
	{[]string{"a"}, []string{"a", "a"}, marks(" a", "+a")},
	// The fewest lines come ahead of what is first.
	{[]string{"a", "b", "c"}, []string{"c", "a", "b"}, marks("+c", " a", " b", "-c")},
	{[]string{"a", "b", "c", "a", "b", "b", "a"}, []string{"c", "b", "a", "b", "a", "c"},
		marks("-a", "-b", " c", "-a", " b", "+a", " b", " a", "+c")},
	{[]string{"A"}, []string{"a"}, marks("-A", "+a")},
	{[]string{"a "}, []string{"a"}, marks("-a ", "+a")},
}

func TestScript(t *testing.T) {
	for _, c := range scripts {
		s, err := Script(c.a, c.b)
		wantErr(t, "Script", err, api.OK)
		if !slices.Equal(s, c.want) {
			t.Errorf("Script(%q, %q): got %q, want %q", c.a, c.b, s, c.want)
		}
		n, err := Far(c.a, c.b)
		wantErr(t, "Far", err, api.OK)
		if n != cost(c.want) {
			t.Errorf("Far(%q, %q): got %d, want %d", c.a, c.b, n, cost(c.want))
		}
	}
}

func cost(s []api.Mark) int {
	n := 0
	for _, m := range s {
		if m.Sign != api.Keep {
			n++
		}
	}
	return n
}

// every gives all scripts from a to b, in the document's order of marks.
func every(a, b []string) [][]api.Mark {
	if len(a) == 0 && len(b) == 0 {
		return [][]api.Mark{nil}
	}
	var all [][]api.Mark
	add := func(sign byte, text string, rest [][]api.Mark) {
		for _, s := range rest {
			all = append(all, append([]api.Mark{{Sign: sign, Text: text}}, s...))
		}
	}
	if len(a) > 0 && len(b) > 0 && a[0] == b[0] {
		add(' ', a[0], every(a[1:], b[1:]))
	}
	if len(a) > 0 {
		add('-', a[0], every(a[1:], b))
	}
	if len(b) > 0 {
		add('+', b[0], every(a, b[1:]))
	}
	return all
}

// files gives all files of at most n lines, each one of the words.
func files(n int, words ...string) [][]string {
	all := [][]string{nil}
	last := all
	for range n {
		var next [][]string
		for _, f := range last {
			for _, w := range words {
				next = append(next, append(slices.Clone(f), w))
			}
		}
		all = append(all, next...)
		last = next
	}
	return all
}

// E2: held against all scripts between all small files.
func TestScriptIsTheFirstOfTheFewest(t *testing.T) {
	small := files(4, "x", "y")
	small = append(small, files(3, "x", "y", "z")...)
	for _, a := range small {
		for _, b := range small {
			var best []api.Mark
			for i, s := range every(a, b) {
				if i == 0 || cost(s) < cost(best) {
					best = s
				}
			}
			s, err := Script(a, b)
			if err != nil || !slices.Equal(s, best) {
				t.Errorf("Script(%q, %q): got %q, %v, want %q", a, b, s, err, best)
			}
			if n, err := Far(a, b); err != nil || n != cost(best) {
				t.Errorf("Far(%q, %q): got %d, %v, want %d", a, b, n, err, cost(best))
			}
		}
	}
}

// E2: what was found leads there, at files as long as may be.
func TestScriptOfLongFiles(t *testing.T) {
	var up, down, twos, threes []string
	for i := range 60 {
		up = append(up, string(rune('A'+i)))
		down = append(down, string(rune('A'+59-i)))
		twos = append(twos, string(rune('a'+i%2)))
		threes = append(threes, string(rune('a'+i%3)))
	}
	for _, c := range []struct {
		a, b []string
		far  int
	}{
		{times(60, full), times(60, full), 0},
		{times(60, "a"), times(60, "b"), 120},
		{times(60, "a"), nil, 60},
		{nil, times(60, "a"), 60},
		{times(60, "a"), times(1, "a"), 59},
		{up, up[:59], 1},
		{up, up[1:], 1},
		{up, down, 118},
		{twos, twos[1:], 1},
		{twos, threes, 40},
	} {
		n, err := Far(c.a, c.b)
		wantErr(t, "Far", err, api.OK)
		if n != c.far {
			t.Errorf("Far(%q, %q): got %d, want %d", c.a, c.b, n, c.far)
		}
		s, err := Script(c.a, c.b)
		wantErr(t, "Script", err, api.OK)
		wantErr(t, "Check of a script", Check(s), api.OK)
		old, _ := Old(s)
		new, _ := New(s)
		if !slices.Equal(old, c.a) || !slices.Equal(new, c.b) || cost(s) != n {
			t.Errorf("Script(%q, %q): got %q", c.a, c.b, s)
		}
	}
}

// E2: chapter 1's Check of a, then of b.
func TestScriptAndFarWrong(t *testing.T) {
	good := []string{"a"}
	for _, c := range []struct {
		name string
		a, b []string
		want api.Errno
	}{
		{"61 lines in a", times(61, "a"), good, api.ErrFull},
		{"61 lines in b", good, times(61, "a"), api.ErrFull},
		{"byte 10 in a", []string{"a", "\n"}, good, api.ErrShape},
		{"byte 10 in b", good, []string{"a", "\n"}, api.ErrShape},
		{"81 bytes in a", []string{over}, good, api.ErrFull},
		{"81 bytes in b", good, []string{over}, api.ErrFull},
		{"a comes ahead of b: too long", []string{over}, []string{"\n"}, api.ErrFull},
		{"a comes ahead of b: byte 10", []string{"\n"}, times(61, ""), api.ErrShape},
		{"a comes ahead of b: 61 lines", times(61, ""), []string{"\n"}, api.ErrFull},
		{"both are the same and wrong", []string{"\n"}, []string{"\n"}, api.ErrShape},
	} {
		s, err := Script(c.a, c.b)
		wantErr(t, "Script: "+c.name, err, c.want)
		if len(s) != 0 {
			t.Errorf("Script: %s: %q beside an error", c.name, s)
		}
		n, err := Far(c.a, c.b)
		wantErr(t, "Far: "+c.name, err, c.want)
		if n != 0 {
			t.Errorf("Far: %s: %d beside an error", c.name, n)
		}
	}
}

// P2 of DOC.md: nothing that was handed in is written into, nor read behind
// its length.
func TestListsAreLeftAlone(t *testing.T) {
	whole := []string{"a", "b", "\n", over}
	wantLines := slices.Clone(whole)
	s, err := Script(whole[:2], whole[1:2])
	wantErr(t, "Script", err, api.OK)
	if !slices.Equal(s, marks("-a", " b")) {
		t.Errorf("Script: got %q", s)
	}
	n, err := Far(whole[:2], whole[1:2])
	wantErr(t, "Far", err, api.OK)
	if n != 1 {
		t.Errorf("Far: got %d", n)
	}
	if !slices.Equal(whole, wantLines) {
		t.Errorf("lines changed to %q", whole)
	}
	script := marks("-a", " b", "!c", "+\n")
	wantMarks := slices.Clone(script)
	wantErr(t, "Check", Check(script[:2]), api.OK)
	old, err := Old(script[:2])
	wantErr(t, "Old", err, api.OK)
	new, err := New(script[:2])
	wantErr(t, "New", err, api.OK)
	if !slices.Equal(old, whole[:2]) || !slices.Equal(new, whole[1:2]) {
		t.Errorf("got %q and %q", old, new)
	}
	if !slices.Equal(script, wantMarks) {
		t.Errorf("marks changed to %q", script)
	}
}

// P2 of DOC.md: what comes out is fresh memory, and hangs on the arguments
// alone.
func TestAnswersAreFreshMemory(t *testing.T) {
	a, b := []string{"x", "y"}, []string{"y", "z"}
	one, _ := Script(a, b)
	two, _ := Script(a, b)
	old, _ := Old(two)
	new, _ := New(two)
	one[0].Text, a[0], b[0] = "changed", "changed", "changed"
	old[1] = "changed"
	if !slices.Equal(two, marks("-x", " y", "+z")) {
		t.Errorf("a second answer became %q", two)
	}
	if !slices.Equal(new, []string{"y", "z"}) {
		t.Errorf("the new lines became %q", new)
	}
}

// P2 of DOC.md, for the layers below: Copy is the same and shares nothing.
func TestCopy(t *testing.T) {
	if got := Copy(nil); len(got) != 0 {
		t.Errorf("Copy of nothing: got %q", got)
	}
	s := marks("-a", " b", "+c", "!d")
	got := Copy(s[:3])
	if !slices.Equal(got, marks("-a", " b", "+c")) {
		t.Errorf("Copy: got %q", got)
	}
	s[0].Text = "changed"
	_ = append(got, api.Mark{})
	if got[0].Text != "a" || s[3].Text != "d" {
		t.Errorf("Copy shares memory: %q, %q", got, s)
	}
}
