package scan_test

import (
	"fmt"
	"strings"
	"testing"

	"hedgelayer/scan"
)

// P4.6: bytes, and where the reader stays if they do not come.
func TestTake(t *testing.T) {
	r := scan.Reader{Text: "ab"}
	is(t, []any{r.Take('b'), r.At}, []any{false, 0})
	for i, c := range []byte("ab") {
		ok := r.Take(c)
		is(t, []any{ok, r.At}, []any{true, i + 1})
	}
	is(t, []any{r.Take('b'), r.At}, []any{false, 2})
}

// P4.6: names of any length, as many bytes as there are.
func TestReadName(t *testing.T) {
	long := strings.Repeat("z9_", 100)
	for text, want := range map[string]string{"a": "a", "a\"": "a", "ab_0 c": "ab_0", "a-b": "a", "aB": "a", long + "Z": long} {
		r := scan.Reader{Text: "x" + text, At: 1}
		name, ok := r.Name()
		is(t, []any{text, name, ok, r.At}, []any{text, want, true, 1 + len(want)})
	}
	for _, text := range []string{"", "_a", "0a", "A", "\"", "`", "{", "\xff"} {
		r := scan.Reader{Text: text}
		name, ok := r.Name()
		is(t, []any{text, name, ok, r.At}, []any{text, "", false, 0})
	}
}

// P4.6, Z10: numbers that are not below 0, with a greatest number of digits, and no 0 before others.
func TestReadNumber(t *testing.T) {
	tests := []struct {
		text string
		n    int
		ok   bool
		at   int
	}{
		{"0", 0, true, 1}, {"01", 0, true, 1}, {"7", 7, true, 1}, {"10 ", 10, true, 2}, {"999", 999, true, 3}, {"1000", 100, true, 3}, {"1a", 1, true, 1}, {"100/", 100, true, 3}, {"12:", 12, true, 2},
		{"", 0, false, 0}, {"-1", 0, false, 0}, {"+1", 0, false, 0}, {" 1", 0, false, 0}, {"a", 0, false, 0}, {"/", 0, false, 0}, {":", 0, false, 0},
	}
	for _, x := range tests {
		r := scan.Reader{Text: "1" + x.text, At: 1}
		n, ok := r.Number(3)
		is(t, []any{x.text, n, ok, r.At - 1}, []any{x.text, x.n, x.ok, x.at})
	}
}

// quote is a quote as P4.6 says.
func quote(s string) string {
	text := `"`
	for i := range len(s) {
		if s[i] < 32 || s[i] > 126 || s[i] == 34 || s[i] == 92 {
			text += fmt.Sprintf(`\%02x`, s[i])
		} else {
			text += s[i : i+1]
		}
	}
	return text + `"`
}

// P4.6: quotes are read as they were.
func TestQuote(t *testing.T) {
	all := ""
	for c := range 256 {
		all += string([]byte{byte(c)})
	}
	for _, s := range []string{"", "a", " ", `"`, `\`, "\n", "\x7f", "\x00", "é", "~", all, `\22`} {
		var b strings.Builder
		b.WriteString("x")
		scan.WriteQuote(&b, s)
		is(t, b.String(), "x"+quote(s))
		r := scan.Reader{Text: b.String() + "\"", At: 1}
		got, ok := r.Quote()
		is(t, []any{got, ok, r.At}, []any{s, true, b.Len()})
	}
}

// P4.6: the first byte with which no quote goes on.
func TestWrongQuote(t *testing.T) {
	tests := []struct {
		text string
		at   int
	}{
		{``, 0}, {`a`, 0}, {`"`, 1}, {`"a`, 2}, {"\"\n\"", 1}, {"\"a\x7f\"", 2}, {"\"\x80\"", 1},
		{`"\`, 2}, {`"\"`, 2}, {`"\0`, 3}, {`"\0"`, 3}, {`"\0g"`, 3}, {`"\0A"`, 3}, {`"\A0"`, 2}, {`"\g0"`, 2},
		{`"\41"`, 2}, {`"\20"`, 3}, {`"\21"`, 3}, {`"\22`, 4}, {`"\30"`, 2}, {`"\60"`, 2}, {`"\5b"`, 3}, {`"\5c`, 4}, {`"\7e"`, 3}, {`"\7f`, 4},
	}
	for _, x := range tests {
		r := scan.Reader{Text: x.text}
		got, ok := r.Quote()
		is(t, []any{x.text, got, ok, r.At}, []any{x.text, "", false, x.at})
	}
}
