package script

import (
	"strconv"
	"strings"

	"squint/api"
	"squint/request"
)

// The words of lines.
const (
	tickWord   = "tick"
	feedWord   = "feed"
	submitWord = "submit"
	noBytes    = "-"
	blank      = " "
	lineEnd    = "\n"
	digits     = "0123456789abcdef"
)

// Hex tells bytes as pairs of digits.
func Hex(b []byte) string {
	if len(b) == 0 {
		return noBytes
	}
	var out strings.Builder
	out.Grow(2 * len(b))
	for _, c := range b {
		out.WriteByte(digits[c>>4])
		out.WriteByte(digits[c&15])
	}
	return out.String()
}

// Unhex tells the bytes of pairs of digits.
func Unhex(s string) ([]byte, bool) {
	if s == noBytes {
		return nil, true
	}
	if len(s) == 0 || len(s)%2 != 0 {
		return nil, false
	}
	out := make([]byte, len(s)/2)
	for i := range out {
		high, low := strings.IndexByte(digits, s[2*i]), strings.IndexByte(digits, s[2*i+1])
		if high < 0 || low < 0 {
			return nil, false
		}
		out[i] = byte(high<<4 | low)
	}
	return out, true
}

// Parse tells the lines of a text, or the number of the first one that is none.
func Parse(s string) ([]Line, int, api.Errno) {
	var out []Line
	for text := range strings.Lines(s) {
		x, ok := parseLine(text)
		if !ok {
			return nil, len(out), api.ErrLine
		}
		out = append(out, x)
	}
	return out, 0, api.OK
}

// parseLine tells the line of a text with its end.
func parseLine(s string) (Line, bool) {
	s, ended := strings.CutSuffix(s, lineEnd)
	if !ended {
		return Line{}, false
	}
	x, ok := parseWords(strings.Split(s, blank))
	return x, ok && x.right()
}

func parseWords(words []string) (Line, bool) {
	switch {
	case words[0] == tickWord && len(words) == 2:
		n, ok := parseNumber(words[1])
		return Line{Kind: tickKind, N: n}, ok
	case words[0] == feedWord && len(words) == 2:
		b, ok := Unhex(words[1])
		return Line{Kind: feedKind, Bytes: b}, ok
	case words[0] == submitWord && len(words) == 7:
		n, ok := parseNumber(words[1])
		r, right := parseRequest(words[2:])
		return Line{Kind: submitKind, N: n, Request: r}, ok && right
	}
	return Line{}, false
}

// parseNumber tells the number of digits without noughts ahead.
func parseNumber(s string) (int, bool) {
	n, err := strconv.Atoi(s)
	return n, err == nil && strconv.Itoa(n) == s
}

func parseRequest(words []string) (request.Request, bool) {
	var r request.Request
	for i, text := range []*string{&r.Method, &r.Scheme, &r.Path, &r.Authority} {
		b, ok := Unhex(words[i])
		if !ok {
			return request.Request{}, false
		}
		*text = string(b)
	}
	body, ok := Unhex(words[4])
	r.Body = body
	return r, ok
}

// Write tells the text of lines.
func Write(l []Line) (string, api.Errno) {
	if !allRight(l) {
		return "", api.ErrForm
	}
	var out strings.Builder
	for _, x := range l {
		out.WriteString(strings.Join(x.words(), blank))
		out.WriteString(lineEnd)
	}
	return out.String(), api.OK
}

// words tells those of a line that is right.
func (x Line) words() []string {
	switch x.Kind {
	case tickKind:
		return []string{tickWord, strconv.Itoa(x.N)}
	case feedKind:
		return []string{feedWord, Hex(x.Bytes)}
	}
	out := []string{submitWord, strconv.Itoa(x.N)}
	for _, text := range texts(x.Request) {
		out = append(out, Hex([]byte(text)))
	}
	return append(out, Hex(x.Request.Body))
}
