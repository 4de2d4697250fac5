// Package line has texts as lines.
package line

import (
	"strings"

	"handstitch/api"
)

const lineEnd = "\n"

// Check tells what keeps lines from being those of a file.
func Check(l []string) error {
	if len(l) > api.MaxLines {
		return api.ErrFull
	}
	for _, s := range l {
		if err := CheckOne(s); err != nil {
			return err
		}
	}
	return nil
}

// CheckOne tells what keeps a text from being a line of a file.
func CheckOne(s string) error {
	if strings.Contains(s, lineEnd) {
		return api.ErrShape
	}
	if len(s) > api.MaxLine {
		return api.ErrFull
	}
	return nil
}

// Split gives the lines of a text that Join could have made.
func Split(text string) ([]string, error) {
	if text != "" && !strings.HasSuffix(text, lineEnd) {
		return nil, api.ErrSyntax
	}
	lines := cut(text)
	if err := Check(lines); err != nil {
		return nil, err
	}
	return Copy(lines), nil
}

// cut stops one line behind MaxLines: that is enough for Check to find the
// text too long, and a great text of short lines costs no great list.
func cut(text string) []string {
	pieces := strings.SplitN(text, lineEnd, api.MaxLines+2)
	// The last piece is what stands behind the last line end: no line.
	return pieces[:len(pieces)-1]
}

// Copy gives the same lines in memory of their own, so that an answer shares
// none with what was handed in.
func Copy(l []string) []string {
	out := make([]string, len(l))
	for i, s := range l {
		out[i] = strings.Clone(s)
	}
	return out
}

// Join gives the text of lines, each ended.
func Join(l []string) (string, error) {
	if err := Check(l); err != nil {
		return "", err
	}
	var b strings.Builder
	for _, s := range l {
		b.WriteString(s)
		b.WriteString(lineEnd)
	}
	return b.String(), nil
}

// Path tells what keeps a text from being the path of a file.
func Path(s string) error {
	if len(s) > api.MaxPath {
		return api.ErrFull
	}
	for _, name := range strings.Split(s, "/") {
		if !isName(name) {
			return api.ErrSyntax
		}
	}
	return nil
}

func isName(s string) bool {
	if s == "" || s == "." || s == ".." {
		return false
	}
	for i := range len(s) {
		if !isNameByte(s[i]) {
			return false
		}
	}
	return true
}

func isNameByte(c byte) bool {
	return 'a' <= c && c <= 'z' || '0' <= c && c <= '9' || c == '.' || c == '-'
}
