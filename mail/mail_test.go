package mail

import (
	"bytes"
	"encoding/base64"
	"fmt"
	"regexp"
	"slices"
	"strings"
	"testing"

	"handstitch/api"
	"handstitch/plain"
)

func wantErr(t *testing.T, what string, err error, want api.Errno) {
	t.Helper()
	if got := plain.Told(err); got != want || (err == nil) != (want == api.OK) {
		t.Errorf("%s: got error %v (%v), want %v", what, err, got, want)
	}
}

func equal(a, b api.Mail) bool {
	return a.From == b.From && a.Subject == b.Subject && a.ID == b.ID && bytes.Equal(a.Body, b.Body)
}

func of(from, subject, id, body string) api.Mail {
	return api.Mail{From: from, Subject: subject, ID: id, Body: []byte(body)}
}

func list(l ...api.Mail) []api.Mail { return l }

func text(lines ...string) string { return strings.Join(lines, "\n") + "\n" }

// shown is not as long as a mail may be.
func shown(l ...api.Mail) string {
	all := ""
	for _, m := range l {
		all += fmt.Sprintf("{%.50q %.50q %.50q %d bytes: %.20q}", m.From, m.Subject, m.ID, len(m.Body), m.Body)
	}
	return fmt.Sprintf("%d: %.500s", len(l), all)
}

func wantText(t *testing.T, m api.Mail, want string) {
	t.Helper()
	got, err := Print(m)
	wantErr(t, "Print", err, api.OK)
	if got != want {
		t.Errorf("Print of %s: got %.300q, want %.300q", shown(m), got, want)
	}
}

func wantMail(t *testing.T, text string, want api.Mail) {
	t.Helper()
	got, err := Parse(text)
	wantErr(t, "Parse", err, api.OK)
	if !equal(got, want) {
		t.Errorf("Parse of %.300q: got %s, want %s", text, shown(got), shown(want))
	}
}

// wantNoMail asks for ErrSyntax, and for nothing beside it.
func wantNoMail(t *testing.T, text string) {
	t.Helper()
	got, err := Parse(text)
	if plain.Told(err) != api.ErrSyntax || !equal(got, api.Mail{}) || got.Body != nil {
		t.Errorf("Parse of %.300q: got %s and error %v, want nothing and ErrSyntax", text, shown(got), err)
	}
}

func wantBox(t *testing.T, l []api.Mail, want string) {
	t.Helper()
	got, err := Box(l)
	wantErr(t, "Box", err, api.OK)
	if got != want {
		t.Errorf("Box of %s: got %.300q, want %.300q", shown(l...), got, want)
	}
}

func wantMails(t *testing.T, text string, want []api.Mail) {
	t.Helper()
	got, err := Open(text)
	wantErr(t, "Open", err, api.OK)
	if !slices.EqualFunc(got, want, equal) {
		t.Errorf("Open of %.300q: got %s, want %s", text, shown(got...), shown(want...))
	}
}

// wantNoBox asks for ErrSyntax, and for nothing beside it.
func wantNoBox(t *testing.T, text string) {
	t.Helper()
	got, err := Open(text)
	if plain.Told(err) != api.ErrSyntax || got != nil {
		t.Errorf("Open of %.300q: got %s and error %v, want nothing and ErrSyntax", text, shown(got...), err)
	}
}

// form is how the document has a mail: its texts are what stands in brackets.
var form = regexp.MustCompile(`\AFrom: ([ -~]{1,40})\nSubject: ([ -~]{1,40})\nMessage-ID: <([ -;=?-~]{1,40})>\nContent-Transfer-Encoding: base64\n\n((?:[A-Za-z0-9+/=]{1,76}\n)*)\z`)

// wrapped has bytes as lines of 76 letters.
func wrapped(b []byte) string {
	all, out := base64.StdEncoding.EncodeToString(b), ""
	for len(all) > 76 {
		out, all = out+all[:76]+"\n", all[76:]
	}
	if all != "" {
		out += all + "\n"
	}
	return out
}

// readable is Parse, by that form and the library that the program does
// without: whether there is a mail, and which.
func readable(text string) (api.Mail, bool) {
	found := form.FindStringSubmatch(text)
	if found == nil {
		return api.Mail{}, false
	}
	b, err := base64.StdEncoding.Strict().DecodeString(found[4])
	ok := err == nil && len(b) <= api.MaxBytes && wrapped(b) == found[4]
	return api.Mail{From: found[1], Subject: found[2], ID: found[3], Body: b}, ok
}

// openable is Open, line by line: whether there are mails, and which.
func openable(text string) ([]api.Mail, bool) {
	lines := strings.SplitAfter(text, "\n")
	last := len(lines) - 1
	if lines[last] != "" {
		return nil, false
	}
	var l []api.Mail
	for lines = lines[:last]; len(lines) > 0; {
		// The line ahead, the head and the empty line behind it, then the body
		// up to the next empty line.
		end := 6
		for end < len(lines) && lines[end] != "\n" {
			end++
		}
		if end >= len(lines) || lines[0] != "From - \n" {
			return nil, false
		}
		m, ok := readable(strings.Join(lines[1:end], ""))
		if !ok {
			return nil, false
		}
		l, lines = append(l, m), lines[end+1:]
	}
	return l, len(l) <= 16
}

// asRead holds Parse against readable.
func asRead(t *testing.T, text string) bool {
	t.Helper()
	m, ok := readable(text)
	if ok {
		wantMail(t, text, m)
	} else {
		wantNoMail(t, text)
	}
	return ok
}

// asOpened holds Open against openable.
func asOpened(t *testing.T, text string) bool {
	t.Helper()
	l, ok := openable(text)
	if ok {
		wantMails(t, text, l)
	} else {
		wantNoBox(t, text)
	}
	return ok
}

var (
	full     = strings.Repeat("x", 40)
	over     = strings.Repeat("x", 41)
	fullBody = strings.Repeat("\x00", 40000)
	overBody = strings.Repeat("\x00", 40001)
	// letters is a line of a body, of 57 bytes that are 0.
	letters = strings.Repeat("A", 76)
)

// byHand: mails and their texts, worked out by hand.
var byHand = []struct {
	mail api.Mail
	text string
}{
	{of("a", "b", "c", ""), text("From: a", "Subject: b", "Message-ID: <c>", "Content-Transfer-Encoding: base64", "")},
	{of("a", "b", "c", "hi"), text("From: a", "Subject: b", "Message-ID: <c>", "Content-Transfer-Encoding: base64", "", "aGk=")},
	{of("x", "[PATCH 1/1] t", "1.1", "\x00\xff\n"), text("From: x", "Subject: [PATCH 1/1] t", "Message-ID: <1.1>", "Content-Transfer-Encoding: base64", "", "AP8K")},
	{of("a", "b", "c", strings.Repeat("\x00", 58)), text("From: a", "Subject: b", "Message-ID: <c>", "Content-Transfer-Encoding: base64", "", letters, "AA==")},
	// The least and the greatest byte, and as many as may be.
	{of(" ", "~", "  ~", ""), text("From:  ", "Subject: ~", "Message-ID: <  ~>", "Content-Transfer-Encoding: base64", "")},
	{of(full, full, full, ""), text("From: "+full, "Subject: "+full, "Message-ID: <"+full+">", "Content-Transfer-Encoding: base64", "")},
	// Words that look like something else.
	{of("From: ", "Subject: b", "Message-ID: ", ""), text("From: From: ", "Subject: Subject: b", "Message-ID: <Message-ID: >", "Content-Transfer-Encoding: base64", "")},
	{of("From - ", "From - ", "From - ", ""), text("From: From - ", "Subject: From - ", "Message-ID: <From - >", "Content-Transfer-Encoding: base64", "")},
	{of("a <b>", "<c>", " ", ""), text("From: a <b>", "Subject: <c>", "Message-ID: < >", "Content-Transfer-Encoding: base64", "")},
	{of(">", "<", `\`, ""), text("From: >", "Subject: <", `Message-ID: <\>`, "Content-Transfer-Encoding: base64", "")},
	{of(`\n`, `"`, "'", "From - \n"), text(`From: \n`, `Subject: "`, `Message-ID: <'>`, "Content-Transfer-Encoding: base64", "", "RnJvbSAtIAo=")},
	{of("a", "b", "c", fullBody), text("From: a", "Subject: b", "Message-ID: <c>", "Content-Transfer-Encoding: base64", "") +
		strings.Repeat(letters+"\n", 701) + strings.Repeat("A", 56) + "AA==\n"},
}

// M1.
func TestByHand(t *testing.T) {
	for _, c := range byHand {
		wantErr(t, "Check", Check(c.mail), api.OK)
		wantText(t, c.mail, c.text)
		wantMail(t, c.text, c.mail)
	}
	wantText(t, api.Mail{From: "a", Subject: "b", ID: "c"}, byHand[0].text)
}

// M1.
func TestCheckWrong(t *testing.T) {
	for _, c := range []struct {
		mail api.Mail
		want api.Errno
	}{
		{api.Mail{}, api.ErrSyntax},
		{of("", "b", "c", ""), api.ErrSyntax},
		{of("a", "", "c", ""), api.ErrSyntax},
		{of("a", "b", "", ""), api.ErrSyntax},
		{of(over, "b", "c", ""), api.ErrSyntax},
		{of("a", over, "c", ""), api.ErrSyntax},
		{of("a", "b", over, ""), api.ErrSyntax},
		{of("a\n", "b", "c", ""), api.ErrSyntax},
		{of("a", "\nb", "c", ""), api.ErrSyntax},
		{of("a", "b", "c\nd", ""), api.ErrSyntax},
		{of("a", "b", "<c", ""), api.ErrSyntax},
		{of("a", "b", "c>", ""), api.ErrSyntax},
		{of("a", "b", "é", ""), api.ErrSyntax},
		{of(strings.Repeat("x", 1<<20), "b", "c", ""), api.ErrSyntax},
		{of("a", "b", "c", overBody), api.ErrFull},
		{of("a", "b", "c", overBody+overBody), api.ErrFull},
		// Wrong in two ways.
		{of("", "b", "c", overBody), api.ErrSyntax},
		{of("a", over, "c", overBody), api.ErrSyntax},
		{of("a", "b", ">", overBody), api.ErrSyntax},
	} {
		wantWrong(t, c.mail, c.want)
	}
}

// wantWrong asks for the same error of all that is to do with one mail.
func wantWrong(t *testing.T, m api.Mail, want api.Errno) {
	t.Helper()
	wantErr(t, "Check", Check(m), want)
	text, err := Print(m)
	wantErr(t, "Print", err, want)
	box, boxErr := Box(list(m))
	wantErr(t, "Box", boxErr, want)
	if text != "" || box != "" {
		t.Errorf("%s: got %.200q, %.200q beside the error", shown(m), text, box)
	}
}

// TestEachByte: M1: each byte, at the beginning, in the middle and at the end
// of each word, and what is told of it both ways.
func TestEachByte(t *testing.T) {
	for c := range 256 {
		for _, word := range []string{string([]byte{byte(c)}), "w" + string([]byte{byte(c)}), string([]byte{byte(c)}) + "w", "v" + string([]byte{byte(c)}) + "w"} {
			good := 32 <= c && c <= 126
			wantWord(t, of(word, "b", "c", "x"), good)
			wantWord(t, of("a", word, "c", "x"), good)
			wantWord(t, of("a", "b", word, "x"), good && c != '<' && c != '>')
		}
	}
}

func wantWord(t *testing.T, m api.Mail, good bool) {
	t.Helper()
	whole := text("From: "+m.From, "Subject: "+m.Subject, "Message-ID: <"+m.ID+">", "Content-Transfer-Encoding: base64", "", "eA==")
	if good {
		wantText(t, m, whole)
		wantMail(t, whole, m)
		return
	}
	wantWrong(t, m, api.ErrSyntax)
	wantNoMail(t, whole)
}

// TestAllLengths: M1: words and bodies of each length.
func TestAllLengths(t *testing.T) {
	for n := range 130 {
		word := strings.Repeat("w", n)
		wantWord(t, of(word, "b", "c", "x"), 1 <= n && n <= 40)
		wantWord(t, of("a", word, "c", "x"), 1 <= n && n <= 40)
		wantWord(t, of("a", "b", word, "x"), 1 <= n && n <= 40)
		m := of("a", "b", "c", strings.Repeat("w", n))
		whole := byHand[0].text + wrapped(m.Body)
		wantText(t, m, whole)
		wantMail(t, whole, m)
	}
}

// M1.
func TestParseWrong(t *testing.T) {
	head := byHand[0].text
	for _, text := range []string{
		"", "\n", "\n\n\n\n\n", "From: a", "From: a\n",
		// A line is missing, is there twice, or stands elsewhere.
		"Subject: b\nMessage-ID: <c>\nContent-Transfer-Encoding: base64\n\n",
		"From: a\nMessage-ID: <c>\nContent-Transfer-Encoding: base64\n\n",
		"From: a\nSubject: b\nContent-Transfer-Encoding: base64\n\n",
		"From: a\nSubject: b\nMessage-ID: <c>\n\n",
		"From: a\nSubject: b\nMessage-ID: <c>\nContent-Transfer-Encoding: base64\n",
		"From: a\nSubject: b\nMessage-ID: <c>\nContent-Transfer-Encoding: base64",
		"From: a\nSubject: b\nMessage-ID: <c>\nContent-Transfer-Encoding: base64\naGk=\n",
		"From: a\nFrom: a\nSubject: b\nMessage-ID: <c>\nContent-Transfer-Encoding: base64\n\n",
		"Subject: b\nFrom: a\nMessage-ID: <c>\nContent-Transfer-Encoding: base64\n\n",
		"From: a\nSubject: b\nContent-Transfer-Encoding: base64\nMessage-ID: <c>\n\n",
		"From: a\nSubject: b\nMessage-ID: <c>\nTo: d\nContent-Transfer-Encoding: base64\n\n",
		// Lines are otherwise.
		"from: a\nSubject: b\nMessage-ID: <c>\nContent-Transfer-Encoding: base64\n\n",
		"From:a\nSubject: b\nMessage-ID: <c>\nContent-Transfer-Encoding: base64\n\n",
		"From: \nSubject: b\nMessage-ID: <c>\nContent-Transfer-Encoding: base64\n\n",
		"From: a\nSubject: \nMessage-ID: <c>\nContent-Transfer-Encoding: base64\n\n",
		"From: a\nSubject: b\nMessage-ID: <>\nContent-Transfer-Encoding: base64\n\n",
		"From: a\nSubject: b\nMessage-ID: c\nContent-Transfer-Encoding: base64\n\n",
		"From: a\nSubject: b\nMessage-ID: <c\nContent-Transfer-Encoding: base64\n\n",
		"From: a\nSubject: b\nMessage-ID: <<c>>\nContent-Transfer-Encoding: base64\n\n",
		"From: a\nSubject: b\nMessage-ID: <c> \nContent-Transfer-Encoding: base64\n\n",
		"From: a\nSubject: b\n c\nMessage-ID: <c>\nContent-Transfer-Encoding: base64\n\n",
		"From: a\nSubject: b\nMessage-ID: <c>\nContent-Transfer-Encoding: BASE64\n\n",
		"From: a\nSubject: b\nMessage-ID: <c>\nContent-Transfer-Encoding: base64 \n\n",
		strings.ReplaceAll(head, "\n", "\r\n"), " " + head, "\n" + head, head + head, "From - \n" + head,
		// No body.
		head + "\n", head + "aGk=", head + "aGl=\n", head + "aGk\n", head + "aGk=\n\n", head + "\naGk=\n", head + "aGk=\naGk=\n", head + "hi\n",
		head + letters + letters + "\n", head + letters + "\n" + "AA==", head + wrapped([]byte(overBody)),
	} {
		wantNoMail(t, text)
	}
}

// near calls try with all texts that are one byte away from one.
func near(text string, try func(string)) {
	for i := range len(text) + 1 {
		try(text[:i])
		try(text[i:])
		for _, c := range []string{"a", "A", "=", "\n", "\r", " ", "<", ">", "-", ":", "\x00", "\x7f", "\xff"} {
			try(text[:i] + c + text[i:])
			if i < len(text) {
				try(text[:i] + c + text[i+1:])
				try(text[:i] + text[i+1:])
			}
		}
	}
}

// nearLines calls try with all texts that have one line of a text not, twice,
// or elsewhere.
func nearLines(text string, try func(string)) {
	lines := strings.SplitAfter(text, "\n")
	for i := range lines {
		without := slices.Delete(slices.Clone(lines), i, i+1)
		try(strings.Join(without, ""))
		for j := range lines {
			try(strings.Join(slices.Insert(slices.Clone(lines), j, lines[i]), ""))
			try(strings.Join(slices.Insert(slices.Clone(without), j, lines[i]), ""))
		}
	}
}

// someMails are of several kinds.
func someMails() []api.Mail {
	return list(
		of("a", "b", "c", ""), of("From - ", "From - ", "From - ", ""), of("a b", "From - ", "-", "hi"),
		of("a", "From: ", "From - ", strings.Repeat("\x00", 57)), of(" ", " ", " ", strings.Repeat("w", 58)),
		of("From - ", "\\n", "c", "\n\nFrom - \n\n"), of(full, full, full, strings.Repeat("w", 200)),
	)
}

// M1.
func TestNearMails(t *testing.T) {
	for _, m := range someMails() {
		good, whole := 0, printed(t, m)
		try := func(text string) {
			if asRead(t, text) {
				good++
			}
		}
		near(whole, try)
		nearLines(whole, try)
		if good == 0 {
			t.Errorf("none of the texts near %.200q was read", whole)
		}
	}
}

func printed(t *testing.T, m api.Mail) string {
	t.Helper()
	text, err := Print(m)
	wantErr(t, "Print", err, api.OK)
	if got, ok := readable(text); !ok || !equal(got, m) {
		t.Errorf("Print of %s: got %.300q, which is none of it", shown(m), text)
	}
	return text
}

// M2.
func TestBoxByHand(t *testing.T) {
	wantBox(t, nil, "")
	wantBox(t, []api.Mail{}, "")
	wantMails(t, "", nil)
	a, b := of("a", "b", "c", ""), of("x", "From - ", "z", "hi")
	for _, c := range []struct {
		l    []api.Mail
		text string
	}{
		{list(a), text("From - ", "From: a", "Subject: b", "Message-ID: <c>", "Content-Transfer-Encoding: base64", "", "")},
		{list(b), text("From - ", "From: x", "Subject: From - ", "Message-ID: <z>", "Content-Transfer-Encoding: base64", "", "aGk=", "")},
		{list(a, b, a), text("From - ", "From: a", "Subject: b", "Message-ID: <c>", "Content-Transfer-Encoding: base64", "", "",
			"From - ", "From: x", "Subject: From - ", "Message-ID: <z>", "Content-Transfer-Encoding: base64", "", "aGk=", "",
			"From - ", "From: a", "Subject: b", "Message-ID: <c>", "Content-Transfer-Encoding: base64", "", "")},
	} {
		wantBox(t, c.l, c.text)
		wantMails(t, c.text, c.l)
	}
	for _, c := range byHand {
		boxed := "From - \n" + c.text + "\n"
		wantBox(t, list(c.mail), boxed)
		wantBox(t, list(c.mail, c.mail), boxed+boxed)
		wantMails(t, boxed, list(c.mail))
		wantMails(t, boxed+boxed, list(c.mail, c.mail))
	}
}

// M2.
func TestBoxFull(t *testing.T) {
	one := "From - \n" + byHand[0].text + "\n"
	for n := range 40 {
		l := slices.Repeat(list(byHand[0].mail), n)
		if n <= 16 {
			wantBox(t, l, strings.Repeat(one, n))
			wantMails(t, strings.Repeat(one, n), l)
			continue
		}
		text, err := Box(l)
		wantErr(t, "Box of too many", err, api.ErrFull)
		if text != "" {
			t.Errorf("Box of %d: got a text beside the error", n)
		}
		wantNoBox(t, strings.Repeat(one, n))
	}
	great := of(full, full, full, fullBody)
	wantMails(t, strings.Repeat("From - \n"+printed(t, great)+"\n", 16), slices.Repeat(list(great), 16))
}

// M2.
func TestBoxWrong(t *testing.T) {
	good, syntax, tooMuch := of("a", "b", "c", ""), of("a", "b", "<", ""), of("a", "b", "c", overBody)
	for _, c := range []struct {
		l    []api.Mail
		want api.Errno
	}{
		{list(syntax), api.ErrSyntax},
		{list(tooMuch), api.ErrFull},
		{list(good, syntax), api.ErrSyntax},
		{list(good, good, tooMuch), api.ErrFull},
		{list(syntax, tooMuch), api.ErrSyntax},
		{list(good, tooMuch, good, syntax), api.ErrFull},
		{append(slices.Repeat(list(good), 15), syntax), api.ErrSyntax},
		{append(slices.Repeat(list(good), 16), syntax), api.ErrFull},
		{slices.Repeat(list(syntax), 17), api.ErrFull},
		{slices.Repeat(list(syntax), 16), api.ErrSyntax},
	} {
		text, err := Box(c.l)
		wantErr(t, "Box", err, c.want)
		if text != "" {
			t.Errorf("Box of %s: got %.200q beside the error", shown(c.l...), text)
		}
	}
}

// M2.
func TestOpenWrong(t *testing.T) {
	whole := byHand[1].text
	one := "From - \n" + whole + "\n"
	for _, text := range []string{
		"\n", "\n\n", " ", "From - ", "From - \n", "From - \n\n", "From - \nFrom - \n", "\nFrom - \n",
		whole, whole + "\n", "From - \n" + whole, one + "\n", "\n" + one, "x" + one, "x\n" + one, one + "x", one + "From - \n", one + "From - \n\n", one + "From - ",
		one + whole, one + whole + "\n", "From - \n" + whole + whole + "\n", "From - \n" + whole + "From - \n" + whole + "\n",
		"From - \n" + one, one + "\n" + one, one + " \n" + one, "From - \n\n" + whole + "\n",
		"From -\n" + whole + "\n", "From -  \n" + whole + "\n", "from - \n" + whole + "\n", "From - a\n" + whole + "\n", "From \n" + whole + "\n",
		one + "From -\n" + whole + "\n", one + "From - a\n" + whole + "\n", strings.ReplaceAll(one, "\n", "\r\n"),
		"From - \n" + byHand[0].text + "From - \n" + byHand[0].text + "\n", "From - \n" + byHand[0].text, strings.TrimSuffix(one, "\n"),
		"From - \n" + byHand[0].text + wrapped([]byte(overBody)) + "\n",
	} {
		wantNoBox(t, text)
	}
}

// M2.
func TestNearBoxes(t *testing.T) {
	mails := someMails()
	for i := range mails {
		l := list(mails[i], mails[(i+1)%len(mails)])
		whole, err := Box(l)
		wantErr(t, "Box", err, api.OK)
		good := 0
		try := func(text string) {
			if asOpened(t, text) {
				good++
			}
		}
		near(whole, try)
		nearLines(whole, try)
		if good == 0 {
			t.Errorf("none of the texts near %.200q was opened", whole)
		}
	}
}

// numbers gives numbers that look like no order, the same ones in each run.
func numbers(seed int) func(below int) int {
	state := uint32(seed)*2654435761 + 1
	return func(below int) int {
		state = state*1664525 + 1013904223
		return int(state>>16) % below
	}
}

// TestAnyText: M1, M2: texts of lines that may be in a box, in no order.
func TestAnyText(t *testing.T) {
	draw := numbers(12)
	lines := []string{
		"From - \n", "From: a\n", "Subject: b\n", "Message-ID: <c>\n", "Content-Transfer-Encoding: base64\n", "\n", "aGk=\n", "\n",
	}
	mails, boxes := 0, 0
	for range 20000 {
		text := ""
		// Most lines are followed by the one that stands behind them in a box.
		at := draw(2)
		for range draw(30) {
			text += lines[at]
			if at = (at + 1) % len(lines); draw(15) == 0 {
				at = draw(len(lines))
			}
		}
		if asRead(t, text) {
			mails++
		}
		if asOpened(t, text) && text != "" {
			boxes++
		}
	}
	if mails < 50 || boxes < 50 {
		t.Errorf("%d mails and %d boxes were read: too few to tell", mails, boxes)
	}
}

func TestGreatTexts(t *testing.T) {
	one := "From - \n" + byHand[0].text + "\n"
	for _, text := range []string{
		strings.Repeat("\n", 1<<20), strings.Repeat("From - \n", 1<<18), strings.Repeat("\nFrom - \n", 1<<18),
		strings.Repeat("x", 1<<20), strings.Repeat(one, 1<<14), "From: " + strings.Repeat("a", 1<<20) + byHand[0].text[7:],
		byHand[0].text + strings.Repeat(letters+"\n", 1<<14),
	} {
		wantNoMail(t, text)
		wantNoBox(t, text)
	}
}

func TestListsAreLeftAlone(t *testing.T) {
	whole := []byte("hi there")
	l := append(someMails(), of("", "", "", "behind"))
	for i := range l {
		l[i].Body = append(l[i].Body, "behind"...)[:len(l[i].Body)]
	}
	short := l[:len(l)-1]
	if text, err := Box(short); err != nil || text != boxed(t, someMails()) {
		t.Errorf("Box: what lies behind the mails or their bodies was read: %v", err)
	}
	m := of("a", "b", "c", "")
	m.Body = whole[:2]
	wantText(t, m, byHand[1].text)
	if string(whole) != "hi there" {
		t.Errorf("Print wrote the body: %q", whole)
	}
	for i, was := range someMails() {
		if !equal(short[i], was) || string(short[i].Body[len(was.Body):len(was.Body)+6]) != "behind" {
			t.Errorf("Box wrote mail %d: %s", i, shown(short[i]))
		}
	}
	if !equal(l[len(short)], of("", "", "", "behind")) {
		t.Errorf("Box wrote behind the mails")
	}
}

func boxed(t *testing.T, l []api.Mail) string {
	t.Helper()
	text := ""
	for _, m := range l {
		text += "From - \n" + printed(t, m) + "\n"
	}
	return text
}

func TestAnswersAreFreshMemory(t *testing.T) {
	m, err := Parse(byHand[1].text)
	wantErr(t, "Parse", err, api.OK)
	m.Body[0] = '!'
	wantMail(t, byHand[1].text, byHand[1].mail)
	l := list(byHand[1].mail, byHand[1].mail)
	text := boxed(t, l)
	got, err := Open(text)
	wantErr(t, "Open", err, api.OK)
	got[0].Body[0] = '!'
	_ = append(got[0].Body, "!!!"...)
	if !equal(got[1], byHand[1].mail) {
		t.Errorf("Open: two mails share memory: %s", shown(got...))
	}
	got[1] = api.Mail{}
	wantMails(t, text, l)
}
