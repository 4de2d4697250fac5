package base64

import (
	"bytes"
	library "encoding/base64"
	"slices"
	"strings"
	"testing"

	"handstitch/api"
	"handstitch/plain"
)

func wantErr(t *testing.T, what string, err error, want api.Errno) {
	t.Helper()
	if got := plain.Told(err); got != want || (err == nil) != (want == api.OK) {
		t.Errorf("%s: got error %v (%v), want %v", what, err, got, want)
	}
}

func wantText(t *testing.T, b []byte, want string) {
	t.Helper()
	got, err := Encode(b)
	wantErr(t, "Encode", err, api.OK)
	if got != want {
		t.Errorf("Encode of %d bytes: got %q, want %q", len(b), got, want)
	}
}

func wantBytes(t *testing.T, text string, want []byte) {
	t.Helper()
	got, err := Decode(text)
	wantErr(t, "Decode", err, api.OK)
	if !bytes.Equal(got, want) {
		t.Errorf("Decode of %q: got %v, want %v", text, got, want)
	}
}

// wantSyntax asks for an error, and for nothing beside it.
func wantSyntax(t *testing.T, text string) {
	t.Helper()
	got, err := Decode(text)
	if plain.Told(err) != api.ErrSyntax || got != nil {
		t.Errorf("Decode of %.200q: got %v and error %v, want nothing and ErrSyntax", text, got, err)
	}
}

// numbers gives numbers that look like no order, the same ones in each run.
func numbers(seed int) func(below int) int {
	state := uint32(seed)*2654435761 + 1
	return func(below int) int {
		state = state*1664525 + 1013904223
		return int(state>>16) % below
	}
}

// some gives that many bytes that look like no order.
func some(n int) []byte {
	draw := numbers(n)
	out := make([]byte, n)
	for i := range out {
		out[i] = byte(draw(256))
	}
	return out
}

// wrapped has letters in lines of 76.
func wrapped(all string) string {
	out := ""
	for len(all) > 76 {
		out, all = out+all[:76]+"\n", all[76:]
	}
	if all != "" {
		out += all + "\n"
	}
	return out
}

// written is Encode, by the library that the program does without.
func written(b []byte) string {
	return wrapped(library.StdEncoding.EncodeToString(b))
}

// readable is Decode, by that library: whether there are bytes, and which. It
// takes byte 13 wherever it stands.
func readable(text string) ([]byte, bool) {
	all := strings.ReplaceAll(text, "\n", "")
	b, err := library.StdEncoding.Strict().DecodeString(all)
	ok := err == nil && len(b) <= api.MaxBytes && wrapped(all) == text
	return b, ok && !strings.Contains(text, "\r")
}

// byHand: texts that were worked out by hand.
var byHand = []struct {
	b    string
	text string
}{
	{"", ""},
	{"f", "Zg==\n"},
	{"fo", "Zm8=\n"},
	{"foo", "Zm9v\n"},
	{"foob", "Zm9vYg==\n"},
	{"fooba", "Zm9vYmE=\n"},
	{"foobar", "Zm9vYmFy\n"},
	{"hi", "aGk=\n"},
	{"\x00", "AA==\n"},
	{"\x00\x00", "AAA=\n"},
	{"\x00\x00\x00", "AAAA\n"},
	{"\xff", "/w==\n"},
	{"\xff\xff", "//8=\n"},
	{"\xff\xff\xff", "////\n"},
	{"\xfb\xef\xbe", "++++\n"},
	{"\n", "Cg==\n"},
	{strings.Repeat("\x00", 56), strings.Repeat("A", 75) + "=\n"},
	{strings.Repeat("\x00", 57), strings.Repeat("A", 76) + "\n"},
	{strings.Repeat("\x00", 58), strings.Repeat("A", 76) + "\nAA==\n"},
	{strings.Repeat("\x00", 114), strings.Repeat("A", 76) + "\n" + strings.Repeat("A", 76) + "\n"},
	{
		"\x00\x10\x83\x10\x51\x87\x20\x92\x8b\x30\xd3\x8f\x41\x14\x93\x51\x55\x97\x61\x96\x9b\x71\xd7\x9f" +
			"\x82\x18\xa3\x92\x59\xa7\xa2\x9a\xab\xb2\xdb\xaf\xc3\x1c\xb3\xd3\x5d\xb7\xe3\x9e\xbb\xf3\xdf\xbf",
		"ABCDEFGHIJKLMNOPQRSTUVWXYZabcdefghijklmnopqrstuvwxyz0123456789+/\n",
	},
}

func TestByHand(t *testing.T) {
	for _, c := range byHand {
		wantText(t, []byte(c.b), c.text)
		wantBytes(t, c.text, []byte(c.b))
	}
	wantText(t, nil, "")
}

func TestAllLengths(t *testing.T) {
	for n := range 400 {
		b := some(n)
		wantText(t, b, written(b))
		wantBytes(t, written(b), b)
	}
}

// TestAllThrees: each letter at each of the four places, with one, two and
// three bytes.
func TestAllThrees(t *testing.T) {
	for i := range 1 << 16 {
		b := []byte{byte(i >> 8), byte(i), byte(i * 7)}
		for n := range 4 {
			wantText(t, b[:n], written(b[:n]))
			wantBytes(t, written(b[:n]), b[:n])
		}
	}
}

func TestEncodeFull(t *testing.T) {
	for _, n := range []int{api.MaxBytes - 1, api.MaxBytes} {
		b := some(n)
		wantText(t, b, written(b))
		wantBytes(t, written(b), b)
	}
	for _, n := range []int{api.MaxBytes + 1, api.MaxBytes + 2, 3 * api.MaxBytes} {
		text, err := Encode(make([]byte, n))
		wantErr(t, "Encode of too much", err, api.ErrFull)
		if text != "" {
			t.Errorf("Encode of %d bytes: got a text beside the error", n)
		}
		wantSyntax(t, written(make([]byte, n)))
	}
}

func TestDecodeWrong(t *testing.T) {
	line := strings.Repeat("A", 76)
	for _, text := range []string{
		// what is missing is not 0
		"aGl=\n", "aGm=\n", "aH==\n", "Zh==\n", "/x==\n", "//9=\n",
		// not four by four
		"a\n", "aG\n", "aGk\n", "aGkA=\n", "aGkAa\n", "aGk=aGk\n",
		// what is missing is not at the end, or too much of it
		"=\n", "==\n", "===\n", "====\n", "a===\n", "=aGk\n", "a=Gk\n", "aG=k\n", "aGk==\n", "aG===\n",
		"aG==aGk=\n", "aGk=aGk=\n", "AAAA====\n", "aG==\n====\n",
		// no letters
		"aG!=\n", "aG k\n", "aG-_\n", "aG\x00k\n", "aG\x80k\n", "aGk\x00\n", "aGé\n", "aG.k\n", "@AAA\n", "[AAA\n", "`AAA\n", "{AAA\n", ":AAA\n", ",AAA\n",
		// lines
		"aGk=", "\n", "\n\n", "aGk=\n\n", "\naGk=\n", "aGk=\r\n", "aG\nk=\n", "aGk\n=\n", "aGk=\n ", " aGk=\n", "aGk= \n",
		"AAAA\nAAAA\n", line[:72] + "\nAAAA\n", line, line + "AAAA\n", line + "AAAA", line + "\nAAAA", line + "\n\n", line + "\n\nAAAA\n",
		line + "\n" + line + "AAAA\n", line + "A\nAAA\n", line[:75] + "\nAAAAA\n", line[:74] + "==\nAAAA\n",
	} {
		wantSyntax(t, text)
	}
}

// eachText calls try with all texts of up to n bytes from all.
func eachText(all string, n int, try func(string)) {
	var grow func(text string)
	grow = func(text string) {
		try(text)
		if len(text) == n {
			return
		}
		for i := range len(all) {
			grow(text + all[i:i+1])
		}
	}
	grow("")
}

// wantAsRead holds Decode against the library.
func wantAsRead(t *testing.T, text string) bool {
	t.Helper()
	b, ok := readable(text)
	if ok {
		wantBytes(t, text, b)
	} else {
		wantSyntax(t, text)
	}
	return ok
}

func TestAllShortTexts(t *testing.T) {
	good := 0
	eachText("AQg/=\n.", 6, func(text string) {
		if wantAsRead(t, text) {
			good++
		}
	})
	// The empty one; of three bytes, of two, of one: the last letter ends with
	// bits that are 0 if it is none but A, Q, g.
	if want := 1 + 4*4*4*4 + 4*4*3 + 4*3; good != want {
		t.Errorf("%d texts were read, want %d", good, want)
	}
}

// TestNearTexts: texts that are one byte away from good ones.
func TestNearTexts(t *testing.T) {
	for _, n := range []int{1, 2, 3, 55, 56, 57, 58, 59, 60, 112, 113, 114, 115} {
		text := written(some(n))
		for i := range len(text) + 1 {
			wantAsRead(t, text[:i])
			wantAsRead(t, text[i:])
			for _, c := range []string{"A", "z", "=", "\n", "\r", " ", "\x00", "\xff"} {
				wantAsRead(t, text[:i]+c+text[i:])
				if i < len(text) {
					wantAsRead(t, text[:i]+c+text[i+1:])
					wantAsRead(t, text[:i]+text[i+1:])
				}
			}
		}
	}
}

func TestAnyText(t *testing.T) {
	draw := numbers(11)
	for range 2000 {
		text := make([]byte, draw(300))
		for i := range text {
			text[i] = byte(draw(256))
		}
		wantAsRead(t, string(text))
	}
	wantSyntax(t, strings.Repeat("\n", 1<<20))
	wantSyntax(t, strings.Repeat("=", 1<<20))
	wantSyntax(t, strings.Repeat("A", 1<<20)+"\n")
}

func TestListsAreLeftAlone(t *testing.T) {
	for n := range 120 {
		whole := some(120)
		text, err := Encode(whole[:n])
		wantErr(t, "Encode", err, api.OK)
		if text != written(some(120)[:n]) {
			t.Errorf("Encode of %d bytes: what lies behind them was read", n)
		}
		if !slices.Equal(whole, some(120)) {
			t.Errorf("Encode of %d bytes: the list was written", n)
		}
	}
}

func TestAnswersAreFreshMemory(t *testing.T) {
	b := []byte("hi")
	text, err := Encode(b)
	wantErr(t, "Encode", err, api.OK)
	b[0] = '!'
	one, err := Decode(text)
	wantErr(t, "Decode", err, api.OK)
	one[0] = '!'
	wantBytes(t, text, []byte("hi"))
}
