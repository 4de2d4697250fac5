package apply

import (
	"math"
	"slices"
	"strconv"
	"strings"
	"testing"

	"handstitch/api"
	"handstitch/hunk"
	"handstitch/plain"
)

func wantErr(t *testing.T, what string, err error, want api.Errno) {
	t.Helper()
	if got := plain.Told(err); got != want || (err == nil) != (want == api.OK) {
		t.Errorf("%s: got error %v (%v), want %v", what, err, got, want)
	}
}

// marks reads marks from words such as "-x", " y", "+z".
func marks(words ...string) []api.Mark {
	var s []api.Mark
	for _, w := range words {
		s = append(s, api.Mark{Sign: w[0], Text: w[1:]})
	}
	return s
}

func at(old, new int, words ...string) api.Hunk {
	return api.Hunk{Old: old, New: new, Marks: marks(words...)}
}

func list(l ...api.Hunk) []api.Hunk { return l }

// words gives the lines of a file, each of one word.
func words(text string) []string { return strings.Fields(text) }

func times(n int, s string) []string {
	l := make([]string, n)
	for i := range l {
		l[i] = s
	}
	return l
}

// numbers gives n lines, no two of which are the same.
func numbers(n int) []string {
	l := make([]string, n)
	for i := range l {
		l[i] = strconv.Itoa(i)
	}
	return l
}

func join(l ...[]string) []string { return slices.Concat(l...) }

func equal(a, b []api.Hunk) bool {
	return slices.EqualFunc(a, b, func(x, y api.Hunk) bool {
		return x.Old == y.Old && x.New == y.New && slices.Equal(x.Marks, y.Marks)
	})
}

var over = strings.Repeat("x", 81)

// A1: worked out by hand.
func TestStrict(t *testing.T) {
	for _, c := range []struct {
		name string
		a    []string
		l    []api.Hunk
		want []string
	}{
		{"nothing", nil, nil, nil},
		{"no hunks", words("a b"), nil, words("a b")},
		{"take", words("y x"), list(at(1, 1, "-x")), words("y")},
		{"take all", words("x"), list(at(0, 0, "-x")), nil},
		{"put into an empty file", nil, list(at(0, 0, "+x")), words("x")},
		{"put at the beginning", words("a b"), list(at(0, 0, "+x")), words("x a b")},
		{"put between", words("a b"), list(at(1, 1, "+x")), words("a x b")},
		{"put at the end", words("a b"), list(at(2, 2, "+x")), words("a b x")},
		{"put ahead of what is taken", words("a b"), list(at(0, 0, "+x", "-a")), words("x b")},
		{"with context", words("a b c d"), list(at(0, 0, " a", "-b", "+x", "+y", " c")), words("a x y c d")},
		{"context at the end", words("a b c"), list(at(1, 1, " b", " c", "+d")), words("a b c d")},
		{"several", words("a b c d e f"), list(at(0, 0, "+x"), at(1, 2, "-b", "-c"), at(5, 4, " f", "+y")), words("x a d e f y")},
		{"hunks that touch", words("a b c"), list(at(0, 0, "-a"), at(1, 0, "-b"), at(2, 0, "+x", "-c")), words("x")},
		{"two puts at one place", words("a b"), list(at(1, 1, "+x"), at(1, 2, "+y")), words("a x y b")},
		// The old lines are those of the file as it was, not of what came.
		{"a line that was put is not the next one's", words("a"), list(at(0, 0, "+x"), at(0, 1, "-a")), words("x")},
		{"an empty line", []string{"", "a"}, list(at(0, 0, "-", "+b")), words("b a")},
		{"60 to 60", times(60, "a"), list(at(0, 0, join(times(60, "-a"), times(60, "+b"))...)), times(60, "b")},
		{"59 and 1", times(59, "a"), list(at(59, 59, "+b")), append(times(59, "a"), "b")},
		// What comes at last counts, not what there would be between.
		{"61 between", times(60, "a"), list(at(0, 0, "+b"), at(59, 60, "-a")), append([]string{"b"}, times(59, "a")...)},
	} {
		got, place, err := Strict(c.a, c.l)
		wantErr(t, "Strict: "+c.name, err, api.OK)
		if !slices.Equal(got, c.want) || place != 0 {
			t.Errorf("Strict: %s: got %q, %d, want %q", c.name, got, place, c.want)
		}
	}
}

// A1: the errors, their places, and which of them comes first.
func TestStrictWrong(t *testing.T) {
	for _, c := range []struct {
		name  string
		a     []string
		l     []api.Hunk
		place int
		want  api.Errno
	}{
		{"61 lines", times(61, "a"), nil, 0, api.ErrFull},
		{"byte 10 in a line", []string{"a", "\n"}, nil, 0, api.ErrShape},
		{"81 bytes in a line", []string{"a", over}, nil, 0, api.ErrFull},

		{"61 hunks", nil, make([]api.Hunk, 61), 0, api.ErrFull},
		{"a wrong sign", nil, list(at(0, 0, "!a")), 0, api.ErrRange},
		{"byte 10 in the second hunk", words("a"), list(at(0, 0, "+a"), at(1, 2, "+\n")), 1, api.ErrShape},
		{"no change in the third hunk", words("a b c"), list(at(0, 0, "-a"), at(1, 0, "-b"), at(2, 0, " c")), 2, api.ErrNone},
		{"Old below 0", words("a"), list(at(-1, -1, "+a")), 0, api.ErrRange},
		{"the greatest Old", words("a"), list(at(math.MaxInt, math.MaxInt, "-a")), 0, api.ErrRange},
		{"the least Old", words("a"), list(at(math.MinInt, math.MinInt, "-a")), 0, api.ErrRange},
		{"hunks that overlap", words("a b"), list(at(0, 0, "-a", " b"), at(1, 0, "-b")), 1, api.ErrShape},

		{"the taken line is another", words("a"), list(at(0, 0, "-b")), 0, api.ErrClash},
		{"the kept line ahead is another", words("a b"), list(at(0, 0, " x", "-b")), 0, api.ErrClash},
		{"the kept line behind is another", words("a b"), list(at(0, 0, "-a", " x")), 0, api.ErrClash},
		{"it stands one further ahead", words("x y"), list(at(1, 1, "-x")), 0, api.ErrClash},
		{"it stands one further behind", words("y x"), list(at(0, 0, "-x")), 0, api.ErrClash},
		{"the file ends ahead of it", words("a"), list(at(1, 1, "-a")), 0, api.ErrClash},
		{"the file ends within it", words("a b"), list(at(1, 1, "-b", " c")), 0, api.ErrClash},
		{"a put behind the end", words("a"), list(at(2, 2, "+b")), 0, api.ErrClash},
		{"a put far behind the end", nil, list(at(59, 59, "+b")), 0, api.ErrClash},
		{"the second", words("a b c"), list(at(0, 0, "-a"), at(1, 0, "-x"), at(2, 0, "-y")), 1, api.ErrClash},
		{"the third", words("a b c"), list(at(0, 0, "-a"), at(1, 0, "-b"), at(2, 0, "-x")), 2, api.ErrClash},
		{"what was put is no old line", words("a"), list(at(0, 0, "+x"), at(0, 1, "-x")), 1, api.ErrClash},
		{"only the beginning is the same", words("ab"), list(at(0, 0, "-a")), 0, api.ErrClash},

		{"61 lines come", times(60, "a"), list(at(0, 0, "+b")), 0, api.ErrFull},
		{"61 lines come by the second", times(59, "a"), list(at(0, 0, "+b"), at(1, 2, "+b")), 0, api.ErrFull},
		{"many lines come", times(60, "a"), list(at(0, 0, times(60, "+b")...)), 0, api.ErrFull},

		{"the lines come ahead of the hunks", []string{"\n"}, list(at(0, 0, "!a")), 0, api.ErrShape},
		{"the lines come ahead of a later hunk", times(61, "a"), list(at(0, 0, "+a"), at(0, 0, "+a")), 0, api.ErrFull},
		{"all hunks are looked at ahead of the old lines", words("a"), list(at(0, 0, "-b"), at(1, 0, " c")), 1, api.ErrNone},
		{"the old lines come ahead of too many", times(60, "a"), list(at(0, 0, "+b"), at(9, 10, "-x")), 1, api.ErrClash},
	} {
		got, place, err := Strict(c.a, c.l)
		wantErr(t, "Strict: "+c.name, err, c.want)
		if place != c.place || len(got) != 0 {
			t.Errorf("Strict: %s: got %q, %d, want the place %d", c.name, got, place, c.place)
		}
	}
}

// small gives all files of at most n lines, each of one of the texts.
func small(n int, texts ...string) [][]string {
	all := [][]string{nil}
	last := all
	for range n {
		var next [][]string
		for _, f := range last {
			for _, s := range texts {
				next = append(next, append(slices.Clone(f), s))
			}
		}
		all = append(all, next...)
		last = next
	}
	return all
}

// A1, A2: what was found leads there, and turned it leads back, with whatever
// context; Loose does what Strict does where all of it fits.
func TestThereAndBack(t *testing.T) {
	files := small(4, "a", "b")
	for _, a := range files {
		for _, b := range files {
			for n := range 4 {
				l, _ := hunk.Make(a, b, n)
				back, _ := hunk.Turn(l)
				there(t, a, b, l)
				there(t, b, a, back)
			}
		}
	}
}

func there(t *testing.T, a, b []string, l []api.Hunk) {
	t.Helper()
	got, place, err := Strict(a, l)
	if err != nil || place != 0 || !slices.Equal(got, b) {
		t.Fatalf("Strict(%q, %v): got %q, %d, %v, want %q", a, l, got, place, err, b)
	}
	got, left, where, err := Loose(a, l, 3, 60)
	if err != nil || len(left) != 0 || !slices.Equal(got, b) || !slices.Equal(where, make([]int, len(l))) {
		t.Fatalf("Loose(%q, %v): got %q, %v, %d, %v, want %q", a, l, got, left, where, err, b)
	}
}

// A2: worked out by hand. Left are the hunks of which where tells -1000.
func TestLoose(t *testing.T) {
	for _, c := range []struct {
		name      string
		a         []string
		l         []api.Hunk
		fuzz, far int
		want      []string
		where     []int
	}{
		{"nothing", nil, nil, 0, 0, nil, nil},
		{"no hunks", words("a b"), nil, 3, 60, words("a b"), nil},
		{"where it is said", words("y x"), list(at(1, 1, "-x")), 3, 60, words("y"), []int{0}},
		{"where it is said, though it also stands elsewhere", words("x x x"), list(at(1, 1, "-x", "+y")), 3, 60, words("x y x"), []int{0}},

		// How far it is.
		{"one further ahead", words("x y"), list(at(1, 1, "-x")), 0, 1, words("y"), []int{-1}},
		{"one further behind", words("y x"), list(at(0, 0, "-x")), 0, 1, words("y"), []int{1}},
		{"one, but far is 0", words("y x"), list(at(0, 0, "-x")), 0, 0, words("y x"), []int{-1000}},
		{"two, but far is 1", words("y y x"), list(at(0, 0, "-x")), 0, 1, words("y y x"), []int{-1000}},
		{"two", words("y y x"), list(at(0, 0, "-x")), 0, 2, words("y y"), []int{2}},
		{"59 further behind", numbers(60), list(at(0, 0, "-59")), 0, 60, numbers(59), []int{59}},
		{"59 further ahead", numbers(60), list(at(59, 59, "-0")), 0, 59, numbers(60)[1:], []int{-59}},
		{"60 further ahead", nil, list(at(0, 0, "-x"), at(60, 59, "+y")), 0, 60, words("y"), []int{-1000, -60}},
		{"60 further ahead, but far is 59", nil, list(at(0, 0, "-x"), at(60, 59, "+y")), 0, 59, nil, []int{-1000, -1000}},
		{"ahead comes before behind", words("x y x"), list(at(1, 1, "-x")), 0, 1, words("y x"), []int{-1}},
		{"near comes before ahead", words("x y y x y"), list(at(2, 2, "-x")), 0, 60, words("x y y y"), []int{1}},
		{"it stands nowhere", words("a b"), list(at(0, 0, "-x")), 3, 60, words("a b"), []int{-1000}},
		{"the file ends within it", words("a x"), list(at(1, 1, "-x", " y")), 0, 60, words("a x"), []int{-1000}},
		{"an empty file", nil, list(at(3, 3, "-x")), 3, 60, nil, []int{-1000}},

		// None of its lines is old: there must be so many lines ahead.
		{"a put behind the end", words("a"), list(at(3, 3, "+b")), 0, 1, words("a"), []int{-1000}},
		{"a put behind the end goes to the end", words("a"), list(at(3, 3, "+b")), 0, 2, words("a b"), []int{-2}},
		{"a put into an empty file", nil, list(at(0, 0, "+b")), 0, 0, words("b"), []int{0}},
		{"a put at the end", words("a"), list(at(1, 1, "+b")), 0, 0, words("a b"), []int{0}},

		// What is let go.
		{"the kept line ahead is let go", words("y b c"), list(at(0, 0, " a", "-b", " c")), 1, 0, words("y c"), []int{0}},
		{"the kept line behind is let go", words("a b y"), list(at(0, 0, " a", "-b", " c")), 1, 0, words("a y"), []int{0}},
		{"both are let go", words("y b z"), list(at(0, 0, " a", "-b", " c")), 1, 0, words("y z"), []int{0}},
		{"fuzz is 0", words("y b z"), list(at(0, 0, " a", "-b", " c")), 0, 60, words("y b z"), []int{-1000}},
		{"only the outermost", words("a y b"), list(at(0, 0, " a", " k", "-b")), 1, 60, words("a y b"), []int{-1000}},
		{"the outermost two", words("a y b"), list(at(0, 0, " a", " k", "-b")), 2, 0, words("a y"), []int{0}},
		{"two behind", words("b y a"), list(at(0, 0, "-b", " k", " a")), 2, 0, words("y a"), []int{0}},
		{"two behind, but fuzz is 1", words("b y a"), list(at(0, 0, "-b", " k", " a")), 1, 60, words("b y a"), []int{-1000}},
		{"three at each end", words("1 2 3 x 4 5 6"), list(at(0, 0, " a", " b", " c", "-x", " d", " e", " f")), 3, 0, words("1 2 3 4 5 6"), []int{0}},
		{"four at one end", words("1 2 3 4 x"), list(at(0, 0, " a", " b", " c", " d", "-x")), 3, 60, words("1 2 3 4 x"), []int{-1000}},
		{"four, of which one is the same", words("1 2 3 d x"), list(at(0, 0, " a", " b", " c", " d", "-x")), 3, 0, words("1 2 3 d"), []int{0}},
		{"kept lines between are not let go", words("x z y"), list(at(0, 0, "-x", " k", "-y")), 3, 60, words("x z y"), []int{-1000}},
		{"taken lines are not let go", words("a"), list(at(0, 0, " a", "-b")), 3, 60, words("a"), []int{-1000}},
		{"more fuzz than kept lines", words("y b z"), list(at(0, 0, " a", "-b")), 3, 0, words("y z"), []int{0}},
		{"far comes before fuzz", words("y b c a b c"), list(at(0, 0, " a", "-b", " c")), 1, 3, words("y b c a c"), []int{3}},
		{"fuzz, for far is too near", words("y b c a b c"), list(at(0, 0, " a", "-b", " c")), 1, 2, words("y c a b c"), []int{0}},
		{"little fuzz comes before more", words("y z x a l x"), list(at(0, 0, " k", " l", "-x")), 2, 60, words("y z x a l"), []int{3}},
		{"let go at the beginning: wanted so much further behind", words("b q b"), list(at(1, 1, " a", "-b")), 1, 0, words("b q"), []int{0}},
		{"let go at the end: wanted as it was", words("q b b"), list(at(1, 1, "-b", " a")), 1, 0, words("q b"), []int{0}},
		{"let go, and one further ahead", words("b"), list(at(0, 0, " a", "-b")), 1, 1, nil, []int{-1}},
		{"let go, and one further behind", words("y y b"), list(at(0, 0, " a", "-b")), 1, 1, words("y y"), []int{1}},
		{"all old lines let go, at the end", words("y"), list(at(0, 0, " a", "+b")), 1, 0, words("y b"), []int{0}},
		{"all old lines let go, not enough lines ahead", nil, list(at(0, 0, " a", "+b")), 1, 0, nil, []int{-1000}},
		{"all old lines let go, and one further ahead", nil, list(at(0, 0, " a", "+b")), 1, 1, words("b"), []int{-1}},
		{"all old lines let go, at both ends", words("y z"), list(at(0, 0, " a", "+b", " c")), 1, 0, words("y b z"), []int{0}},
		{"lines that are let go stay as they are", words("1 x 2"), list(at(0, 0, " a", "-x", "+y", " b")), 3, 0, words("1 y 2"), []int{0}},

		// Several hunks.
		{"what was put counts", words("a b"), list(at(0, 0, "+x", "+x"), at(1, 3, "-b")), 0, 0, words("x x a"), []int{0, 0}},
		{"what was taken counts", words("a b c"), list(at(0, 0, "-a"), at(2, 1, "-c")), 0, 0, words("b"), []int{0, 0}},
		{"how far the one ahead went does not", words("q a b"), list(at(0, 0, "-a"), at(1, 0, "-b")), 0, 1, words("q"), []int{1, 1}},
		{"what was left does not", words("a b"), list(at(0, 0, "-x", "+y", "+z"), at(1, 2, "-b")), 0, 0, words("a"), []int{-1000, 0}},
		{"not ahead of what was done", words("y"), list(at(0, 0, "+x"), at(1, 2, "-x")), 0, 60, words("x y"), []int{0, -1000}},
		{"just behind what was done", words("x y"), list(at(0, 0, "+x"), at(1, 2, "-x")), 0, 60, words("x y"), []int{0, -1}},
		{"not partly ahead of what was done", words("y z"), list(at(0, 0, "+x"), at(1, 2, "-x", "-y")), 0, 60, words("x y z"), []int{0, -1000}},
		{"left between", words("a b c"), list(at(0, 0, "-a"), at(1, 0, "-x"), at(2, 0, "-c")), 3, 60, words("b"), []int{0, -1000, 0}},
		{"all left", words("a b c"), list(at(0, 0, "-x"), at(1, 0, "-y"), at(2, 0, "-z")), 3, 60, words("a b c"), []int{-1000, -1000, -1000}},
		{"behind one that went further behind", words("q q q a b"), list(at(0, 0, " a", "+x"), at(1, 2, "-b")), 0, 3, words("q q q a x"), []int{3, 3}},
		{"a kept line of the one ahead is not the next one's", words("a k"), list(at(0, 0, "-a", " k"), at(2, 1, "-k")), 0, 60, words("k"), []int{0, -1000}},
		{"a kept line that was let go is the next one's", words("a m"), list(at(0, 0, "-a", " k"), at(2, 1, "-m")), 1, 1, nil, []int{0, -1}},
		{"the place of a put is not ahead of the one ahead", words("q q a"), list(at(0, 0, "-a"), at(1, 0, "+x")), 0, 2, words("q q x"), []int{2, 2}},
		{"the one ahead took: its end is where it took", words("k a b"), list(at(1, 1, "-a"), at(2, 1, "-k")), 0, 60, words("k b"), []int{0, -1000}},
		{"one left does not free what was done ahead of it", words("k a b"), list(at(1, 1, "-a"), at(2, 1, "-x"), at(3, 1, "-k")), 0, 60, words("k b"), []int{0, -1000, -1000}},
		{"in the lines as they are then", words("a b c"), list(at(0, 0, "+b", "+b", "+b"), at(1, 4, "-b")), 0, 60, words("b b b a c"), []int{0, 0}},

		// More than 60 lines.
		{"60 lines", times(59, "a"), list(at(0, 0, "+b")), 0, 0, append([]string{"b"}, times(59, "a")...), []int{0}},
		{"61 lines", times(60, "a"), list(at(0, 0, "+b")), 3, 60, times(60, "a"), []int{-1000}},
		{"61 lines between", numbers(60), list(at(0, 0, "+b"), at(59, 60, "-59")), 0, 0, numbers(59), []int{-1000, 0}},
		{"61 lines, but for what was taken", numbers(60), list(at(0, 0, "-0"), at(60, 59, "+b")), 0, 0, append(numbers(60)[1:], "b"), []int{0, 0}},
		{"61 lines with kept ones let go", times(60, "a"), list(at(0, 0, " b", "+c")), 1, 0, times(60, "a"), []int{-1000}},
		{"60 lines with kept ones let go", times(59, "a"), list(at(0, 0, " b", "+c", " b")), 1, 0, append([]string{"a", "c"}, times(58, "a")...), []int{0}},
	} {
		checkLooseAnswer(t, c.name, c.a, c.l, c.fuzz, c.far, c.want, c.where)
	}
}

func checkLooseAnswer(t *testing.T, name string, a []string, l []api.Hunk, fuzz, far int, want []string, where []int) {
	t.Helper()
	got, left, places, err := Loose(a, l, fuzz, far)
	wantErr(t, "Loose: "+name, err, api.OK)
	var wantLeft []api.Hunk
	for i, d := range where {
		if d == -1000 {
			wantLeft = append(wantLeft, l[i])
		}
	}
	if !slices.Equal(got, want) || !slices.Equal(places, where) || !equal(left, wantLeft) {
		t.Errorf("Loose: %s: got %q, %v, %d, want %q, %v, %d", name, got, left, places, want, wantLeft, where)
	}
}

// A2: the errors, and which of them comes first.
func TestLooseWrong(t *testing.T) {
	good := list(at(0, 0, "+a"))
	for _, c := range []struct {
		name      string
		a         []string
		l         []api.Hunk
		fuzz, far int
		want      api.Errno
	}{
		{"61 lines", times(61, "a"), good, 0, 0, api.ErrFull},
		{"byte 10 in a line", []string{"\n"}, good, 0, 0, api.ErrShape},
		{"81 bytes in a line", []string{over}, good, 0, 0, api.ErrFull},
		{"61 hunks", nil, make([]api.Hunk, 61), 0, 0, api.ErrFull},
		{"a wrong sign", nil, list(at(0, 0, "!a")), 0, 0, api.ErrRange},
		{"no change in the second hunk", nil, list(at(0, 0, "+a"), at(0, 1, " a")), 0, 0, api.ErrNone},
		{"no mark", nil, list(at(0, 0)), 3, 60, api.ErrNone},
		{"the greatest Old", nil, list(at(math.MaxInt, math.MaxInt, "+a")), 0, 0, api.ErrRange},
		{"the least Old", nil, list(at(math.MinInt, math.MinInt, "+a")), 0, 0, api.ErrRange},
		{"New is not Old", nil, list(at(0, 1, "+a")), 0, 0, api.ErrShape},
		{"fuzz is -1", nil, good, -1, 0, api.ErrRange},
		{"fuzz is 4", nil, good, 4, 0, api.ErrRange},
		{"fuzz is 3", nil, good, 3, 0, api.OK},
		{"far is -1", nil, good, 0, -1, api.ErrRange},
		{"far is 61", nil, good, 0, 61, api.ErrRange},
		{"far is 60", nil, good, 0, 60, api.OK},
		{"the least fuzz", nil, good, math.MinInt, 0, api.ErrRange},
		{"the greatest fuzz", nil, good, math.MaxInt, 0, api.ErrRange},
		{"the least far", nil, good, 0, math.MinInt, api.ErrRange},
		{"the greatest far", nil, good, 0, math.MaxInt, api.ErrRange},
		{"fuzz is wrong where there are no hunks", nil, nil, 4, 0, api.ErrRange},
		{"the lines come ahead of the hunks", []string{"\n"}, list(at(0, 0)), 0, 0, api.ErrShape},
		{"the lines come ahead of fuzz and far", []string{"\n"}, good, -1, -1, api.ErrShape},
		{"the hunks come ahead of fuzz and far", nil, list(at(0, 0)), -1, -1, api.ErrNone},
	} {
		lines, left, where, err := Loose(c.a, c.l, c.fuzz, c.far)
		wantErr(t, "Loose: "+c.name, err, c.want)
		if c.want != api.OK && (len(lines) != 0 || len(left) != 0 || len(where) != 0) {
			t.Errorf("Loose: %s: %q, %v, %d beside an error", c.name, lines, left, where)
		}
	}
}

// attempt is a hunk at one place, with as much let go as is said.
type attempt struct {
	place, d int
	marks    []api.Mark
}

// attempts gives all of them in the order in which the document names them.
func attempts(h api.Hunk, shift, fuzz, far int) []attempt {
	var all []attempt
	for f := range fuzz + 1 {
		s, head := h.Marks, 0
		for range f {
			if s[0].Sign == ' ' {
				s = s[1:]
				head++
			}
			if s[len(s)-1].Sign == ' ' {
				s = s[:len(s)-1]
			}
		}
		for d := range far + 1 {
			place := h.Old + shift + head
			all = append(all, attempt{place - d, -d, s}, attempt{place + d, d, s})
		}
	}
	return all
}

// done does the marks one by one, and tells whether they could be done.
func (y attempt) done(lines []string) ([]string, bool) {
	if y.place < 0 || y.place > len(lines) {
		return nil, false
	}
	out, rest := slices.Clone(lines[:y.place]), lines[y.place:]
	for _, m := range y.marks {
		if m.Sign != '+' && (len(rest) == 0 || rest[0] != m.Text) {
			return nil, false
		}
		if m.Sign != '+' {
			rest = rest[1:]
		}
		if m.Sign != '-' {
			out = append(out, m.Text)
		}
	}
	return append(out, rest...), true
}

// loose is Loose as the document words it.
func loose(lines []string, l []api.Hunk, fuzz, far int) ([]string, []int) {
	var where []int
	shift, end := 0, 0
	for _, h := range l {
		found := -1000
		for _, y := range attempts(h, shift, fuzz, far) {
			next, ok := y.done(lines)
			if !ok || y.place < end || len(next) > 60 {
				continue
			}
			// Behind what was done stand as many lines as before.
			_, kept := hunk.Size(api.Hunk{Marks: y.marks})
			shift += len(next) - len(lines)
			lines, end, found = next, y.place+kept, y.d
			break
		}
		where = append(where, found)
	}
	return lines, where
}

// A2: hunks that were made between two small files, done to a third one.
func TestLooseAtSmallFiles(t *testing.T) {
	files := small(4, "a", "b")
	others := append(small(3, "a", "b", "c"), words("a b a b a b"), words("c b a c a b"), words("b b a c c a a"))
	lists := 0
	for i, a := range files {
		for j, b := range files {
			for n := range 3 {
				l, _ := hunk.Make(a, b, n)
				if (i+3*j+n)%7 == 0 {
					lists++
					looseAtAll(t, others, l)
				}
			}
		}
	}
	if lists < 400 {
		t.Errorf("only %d lists were done", lists)
	}
}

// A2: hunks of which nothing is said but that Check takes them, and more of
// them than two small files would give.
func TestLooseAtSmallHunks(t *testing.T) {
	var kinds [][]api.Mark
	for _, s := range []string{"+a", "-a", "-b", "+a -b", "+b +a"} {
		for _, ahead := range []string{"", "a", "b", "a b"} {
			for _, behind := range []string{"", "b"} {
				s := marks(strings.Fields(s)...)
				for i := len(words(ahead)) - 1; i >= 0; i-- {
					s = append(marks(" "+words(ahead)[i]), s...)
				}
				for _, w := range words(behind) {
					s = append(s, marks(" "+w)...)
				}
				kinds = append(kinds, s)
			}
		}
	}
	others := append(small(2, "a", "b"), words("a b a b a b"), words("b b a a a b b"))
	for i, s := range kinds {
		for j, r := range kinds {
			looseAtAll(t, others, chain(i%3, j%2, s, r, kinds[(i*7+j)%len(kinds)]))
		}
	}
}

// chain lays hunks one behind the other, so that Check takes them.
func chain(first, between int, all ...[]api.Mark) []api.Hunk {
	var l []api.Hunk
	old, new := first, first
	for _, s := range all {
		h := api.Hunk{Old: old, New: new, Marks: s}
		l = append(l, h)
		before, after := hunk.Size(h)
		old, new = old+before+between, new+after+between
	}
	return l
}

func looseAtAll(t *testing.T, files [][]string, l []api.Hunk) {
	t.Helper()
	for _, a := range files {
		for fuzz := range 4 {
			for _, far := range []int{0, 1, 2, 5} {
				lines, where := loose(a, l, fuzz, far)
				checkLooseAnswer(t, "as it is worded", a, l, fuzz, far, lines, where)
				if t.Failed() {
					t.Fatalf("file %q, hunks %v, fuzz %d, far %d", a, l, fuzz, far)
				}
			}
		}
	}
}

// P2 and P4 of DOC.md: nothing that was handed in is written into, nor read
// behind its length.
func TestListsAreLeftAlone(t *testing.T) {
	a := []string{"a", "b", "c", "\n", over}
	s := marks(" a", "-b", "+x", "!d", "+\n")
	l := []api.Hunk{{Old: 0, New: 0, Marks: s[:3]}, {Old: 2, New: 2, Marks: marks("+y", "!z")[:1]}, {Old: -1}}
	wantLines, wantMarks := slices.Clone(a), slices.Clone(s)
	got, _, err := Strict(a[:3], l[:2])
	wantErr(t, "Strict", err, api.OK)
	if !slices.Equal(got, words("a x y c")) {
		t.Errorf("Strict: got %q", got)
	}
	got, _, _, err = Loose(a[:3], l[:2], 3, 60)
	wantErr(t, "Loose", err, api.OK)
	if !slices.Equal(got, words("a x y c")) {
		t.Errorf("Loose: got %q", got)
	}
	if !slices.Equal(a, wantLines) || !slices.Equal(s, wantMarks) || l[0].Old != 0 || l[1].Old != 2 || l[2].Old != -1 {
		t.Errorf("changed to %q, %q, %v", a, s, l)
	}
}

// P2 of DOC.md: what comes out is fresh memory, and no two lists share any.
func TestAnswersAreFreshMemory(t *testing.T) {
	for _, l := range [][]api.Hunk{nil, list(at(0, 0, "+x")), list(at(2, 2, "-c"))} {
		a := words("a b c")
		strict, _, _ := Strict(a, l)
		loose, _, _, _ := Loose(a, l, 0, 0)
		want := slices.Clone(strict)
		a[0], a[1], a[2] = "1", "2", "3"
		if !slices.Equal(strict, want) || !slices.Equal(loose, want) {
			t.Errorf("the lines share memory: %q, %q", strict, loose)
		}
		strict[0], loose[0] = "changed", "changed"
		_, _ = append(strict, "4"), append(loose, "4")
		if !slices.Equal(a, words("1 2 3")) {
			t.Errorf("the lines share memory: %q", a)
		}
	}
	l := list(at(0, 0, "-x"), at(1, 0, "-y"))
	_, left, where, _ := Loose(words("a b"), l, 0, 0)
	_ = append(left[0].Marks, marks("!p", "!q")...)
	left[0].Old, left[0].Marks[0].Text, where[0] = 7, "changed", 7
	if !equal(l, list(at(0, 0, "-x"), at(1, 0, "-y"))) || !equal(left[1:], l[1:]) {
		t.Errorf("the hunks that are left share memory: %v, %v", l, left)
	}
	l[1].Marks[0].Text = "changed"
	if left[1].Marks[0].Text != "y" {
		t.Errorf("the hunks that are left share memory with the list: %v", left)
	}
}
