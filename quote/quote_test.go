package quote

import (
	"fmt"
	"math/rand"
	"slices"
	"strings"
	"testing"
	"unicode/utf8"

	"changeover/api"
)

// size returns the number of bytes of the rune with which s begins, or 0 if it begins with none.
func size(s string) int {
	for n := 1; n <= 4 && n <= len(s); n++ {
		if utf8.ValidString(s[:n]) {
			return n
		}
	}
	return 0
}

// escaped returns what stands for the first byte of s in a quoted form, or the empty string if it stands for itself.
func escaped(s string) string {
	switch c := s[0]; {
	case c == '"':
		return "\\\""
	case c == '\\':
		return "\\\\"
	case c < 32 || c == 127 || size(s) == 0:
		return fmt.Sprintf("\\x%02x", c)
	}
	return ""
}

// quoted returns the quoted form of s, put together rune by rune.
func quoted(s string) string {
	form := "\""
	for s != "" {
		text, n := escaped(s), 1
		if text == "" {
			n = size(s)
			text = s[:n]
		}
		form += text
		s = s[n:]
	}
	return form + "\""
}

// body returns the bytes that the text between two double quotes stands for, and where one of them is escaped; false if there is no such text.
func body(s string) (b []byte, at map[int]bool, ok bool) {
	at = map[int]bool{}
	for s != "" {
		n, c := 1, s[0]
		switch {
		case c == '"':
			return nil, nil, false
		case c != '\\':
			b = append(b, c)
			s = s[1:]
			continue
		case strings.HasPrefix(s, "\\\"") || strings.HasPrefix(s, "\\\\"):
			n, c = 2, s[1]
		default:
			n = 4
			if _, err := fmt.Sscanf(s, "\\x%02x", &c); err != nil || escaped(string([]byte{c})) != s[:min(n, len(s))] {
				return nil, nil, false
			}
		}
		at[len(b)] = true
		b = append(b, c)
		s = s[n:]
	}
	return b, at, true
}

// unquoted returns the string whose quoted form is s: what is escaped in s must be exactly what has to be.
func unquoted(s string) (string, bool) {
	if len(s) < 2 || s[0] != '"' || s[len(s)-1] != '"' {
		return "", false
	}
	b, at, ok := body(s[1 : len(s)-1])
	if !ok {
		return "", false
	}
	text := string(b)
	for i := 0; i < len(text); {
		if must := escaped(text[i:]) != ""; must != at[i] {
			return "", false
		}
		n := max(size(text[i:]), 1)
		for j := i + 1; j < i+n; j++ {
			if at[j] {
				return "", false
			}
		}
		i += n
	}
	return text, true
}

// isWord reports whether s is a word, by the definition.
func isWord(s string) bool {
	if s == "" || s[0] == '"' {
		_, ok := unquoted(s)
		return ok
	}
	for _, c := range []byte(s) {
		if c <= 32 {
			return false
		}
	}
	return true
}

// ways returns all the ways to write s as words separated by single spaces.
func ways(s string) [][]string {
	var all [][]string
	if isWord(s) {
		all = append(all, []string{s})
	}
	for i := range len(s) {
		if s[i] == ' ' && isWord(s[:i]) {
			for _, l := range ways(s[i+1:]) {
				all = append(all, append([]string{s[:i]}, l...))
			}
		}
	}
	return all
}

// wantQuote fails the test unless s has its quoted form, and is recovered from it.
func wantQuote(t *testing.T, s string) {
	t.Helper()
	form := Quote(s)
	if want := quoted(s); form != want {
		t.Fatalf("Quote(%q) = %q, want %q", s, form, want)
	}
	if got, err := Unquote(form); got != s || err != api.OK {
		t.Fatalf("Unquote(%q) = %q, %d, want %q", form, got, err, s)
	}
	wantWords(t, form, []string{form})
}

// wantUnquote fails the test unless Unquote tells of s what the oracle does.
func wantUnquote(t *testing.T, s string) {
	t.Helper()
	got, err := Unquote(s)
	want, ok := unquoted(s)
	if ok != (err == api.OK) || !ok && err != api.ErrForm || got != want {
		t.Fatalf("Unquote(%q) = %q, %d, want %q, %v", s, got, err, want, ok)
	}
}

// wantWords fails the test unless these are the words of the line; none, if it is no line.
func wantWords(t *testing.T, line string, want []string) {
	t.Helper()
	l, err := Words(line)
	if want == nil && line != "" {
		if len(l) != 0 || err != api.ErrForm {
			t.Fatalf("Words(%q) = %q, %d, want ErrForm", line, l, err)
		}
		return
	}
	if !slices.Equal(l, want) || err != api.OK {
		t.Fatalf("Words(%q) = %q, %d, want %q", line, l, err, want)
	}
	if got := Line(l); got != line {
		t.Fatalf("Line(%q) = %q, want %q", l, got, line)
	}
}

// wantLine fails the test unless Words tells of s what the oracle does.
func wantLine(t *testing.T, s string) {
	t.Helper()
	all := ways(s)
	switch len(all) {
	case 0:
		wantWords(t, s, nil)
	case 1:
		wantWords(t, s, all[0])
	default:
		t.Fatalf("%q is a line in more than one way: %q", s, all)
	}
}

// each calls f with every string of at most n bytes of the alphabet.
func each(alphabet string, n int, f func(s string)) {
	eachAfter("", alphabet, n, f)
}

// eachAfter calls f with s, and with every string of s and at most n bytes of the alphabet.
func eachAfter(s, alphabet string, n int, f func(s string)) {
	f(s)
	for i := 0; n > 0 && i < len(alphabet); i++ {
		eachAfter(s+alphabet[i:i+1], alphabet, n-1, f)
	}
}

// pick returns n of the pieces, put together.
func pick(r *rand.Rand, n int, pieces []string) string {
	s := ""
	for range n {
		s += pieces[r.Intn(len(pieces))]
	}
	return s
}

// pieces: of what strings, quoted forms and lines are made, and what breaks them.
var pieces = []string{
	"", "a", "x", "0", "f", "F", "n", "\"", "\"", "\\", "\\", " ", "\t", "\n", "\x00", "\x1f", "\x7f", "é", "€", "😀", "\ufffd", "\u0080",
	"\xff", "\x80", "\xe2", "\x82", "\xac", "\xef", "\xbf", "\xbd", "\xf0\x9f", "\xed\xa0\x80", "\\\"", "\\\\", "\\x", "\\x0a", "\\xff",
	"\\xe2", "\\x82", "\\xac", "\\x41", "\\x0A", "\\x7f", "\\x20", "\\x1", "\\n", "\" \"", "  ", "\"\"", "put", "\"k 1\"",
}

// P6.1: the examples of the chapter, and the bytes and runes at the edges of what is escaped.
func TestQuote(t *testing.T) {
	for s, want := range map[string]string{
		"":                         `""`,
		"a":                        `"a"`,
		`a"b`:                      `"a\"b"`,
		"\n":                       `"\x0a"`,
		"\xff":                     `"\xff"`,
		`\`:                        `"\\"`,
		`"`:                        `"\""`,
		`""`:                       `"\"\""`,
		`\"`:                       `"\\\""`,
		`\x41`:                     `"\\x41"`,
		"\x00\x1f ~\x7f":           `"\x00\x1f ~\x7f"`,
		"!#'[]^`":                  "\"!#'[]^`\"",
		"\t\r\v\f\a\b\x1b":         `"\x09\x0d\x0b\x0c\x07\x08\x1b"`,
		"\u0080\u009f\u00a0\u2028": "\"\u0080\u009f\u00a0\u2028\"",
		"é€😀":                      `"é€😀"`,
		"\ufffd":                   "\"\ufffd\"",
		"\ufffd\xff\ufffd":         "\"\ufffd\\xff\ufffd\"",
		"\xef\xbf":                 `"\xef\xbf"`,
		"\xef\xbfa":                `"\xef\xbfa"`,
		"\xef\ufffd":               "\"\\xef\ufffd\"",
		"\xe2\x82":                 `"\xe2\x82"`,
		"\xe2\x82\xac":             `"€"`,
		"\xe2\x82\xac\xac":         `"€\xac"`,
		"\xe2\xe2\x82\xac":         `"\xe2€"`,
		"\xc0\x80":                 `"\xc0\x80"`,
		"\xed\xa0\x80":             `"\xed\xa0\x80"`,
		"\xf4\x90\x80\x80":         `"\xf4\x90\x80\x80"`,
		"\U0010ffff":               "\"\U0010ffff\"",
		"a b":                      `"a b"`,
		"e\u0301":                  "\"e\u0301\"",
		"\x80\x8f\x9a\xbc\xde":     `"\x80\x8f\x9a\xbc\xde"`,
		strings.Repeat("\n", 99):   `"` + strings.Repeat(`\x0a`, 99) + `"`,
	} {
		if got := Quote(s); got != want {
			t.Errorf("Quote(%q) = %s, want %s", s, got, want)
		}
		wantQuote(t, s)
	}
}

// P6.1: the examples of the chapter, and what is no quoted form though it looks like one.
func TestUnquoteNone(t *testing.T) {
	for _, s := range []string{
		``, `"`, `"a`, `a"`, `a`, `"\x41"`, ` "a"`, `"a" `, `"a""`, `""a"`, `"""`, `"a"b"`, `"a"b`, `""""`, `'a'`, `\""`,
		`"\"`, `"\\\"`, `"\`, `\`, `\"`, `"\a"`, `"\n"`, `"\'"`, `"\ "`, `"\0a"`, `"\X0a"`, `"\u0041"`, `"\é"`,
		`"\x"`, `"\x0"`, `"\x0`, `"\x`, `"\x0g"`, `"\xg0"`, `"\x 0"`, `"\x0 "`, `"\x+1"`, `"\x0"0"`, `"\x\x0a"`, `"\x0\x0a"`, `"\x:0"`, `"\x/0"`,
		`"\x0A"`, `"\xFF"`, `"\xfF"`, `"\x22"`, `"\x5c"`, `"\x20"`, `"\x21"`, `"\x7e"`, `"\x7F"`, `"\xé"`, `"\x0é"`,
		"\"\n\"", "\"\x00\"", "\"\x1f\"", "\"\t\"", "\"\x7f\"", "\"\xff\"", "\"a\xe2\x82\"", "\"\x80\"", "\"\\\xff\"", "\"\\x\xff\xff\"",
		`"\xe2\x82\xac"`, "\"\\xe2\x82\xac\"", "\"\xe2\\x82\xac\"", "\"\xe2\x82\\xac\"", `"\xef\xbf\xbd"`, `"\xc3\xa9"`, `"a\xf0\x9f\x98\x80b"`,
		"\"a\"\x00", "\x00\"a\"", "\xff", "\"\\", `”a”`, "put",
	} {
		if got, err := Unquote(s); got != "" || err != api.ErrForm {
			t.Errorf("Unquote(%q) = %q, %d, want ErrForm", s, got, err)
		}
		wantUnquote(t, s)
	}
}

// P6.1: quoted forms, among them those that stand close to the ones above.
func TestUnquote(t *testing.T) {
	for s, want := range map[string]string{
		`""`:              "",
		`"a"`:             "a",
		`" "`:             " ",
		`"a\"b"`:          `a"b`,
		`"\x0a"`:          "\n",
		`"\xff"`:          "\xff",
		`"\\"`:            `\`,
		`"\\\\"`:          `\\`,
		`"\\\""`:          `\"`,
		`"\\x41"`:         `\x41`,
		`"\x00\x1f\x7f"`:  "\x00\x1f\x7f",
		`"\x0aa"`:         "\na",
		`"\xe2\x82"`:      "\xe2\x82",
		`"\xe2\x82a\xac"`: "\xe2\x82a\xac",
		`"€\xac"`:         "€\xac",
		"\"\ufffd\"":      "\ufffd",
		"\"\u0080\"":      "\u0080",
		`"x41 0a ff"`:     "x41 0a ff",
		`"a 'b' /c"`:      "a 'b' /c",
	} {
		if got, err := Unquote(s); got != want || err != api.OK {
			t.Errorf("Unquote(%s) = %q, %d, want %q", s, got, err, want)
		}
		wantUnquote(t, s)
	}
}

// P6.2: the examples of the chapter, and lines of other words; a double quote or a backslash within a word that is not quoted is a byte like others.
func TestWords(t *testing.T) {
	for line, want := range map[string][]string{
		"":                       {},
		`put "k \" 1" 3`:         {"put", `"k \" 1"`, "3"},
		"a":                      {"a"},
		"a b":                    {"a", "b"},
		"a b c d":                {"a", "b", "c", "d"},
		`""`:                     {`""`},
		`"" ""`:                  {`""`, `""`},
		`" "`:                    {`" "`},
		`"  " " "`:               {`"  "`, `" "`},
		`"a" b "c d"`:            {`"a"`, "b", `"c d"`},
		`a"b c"d`:                {`a"b`, `c"d`},
		`a" "b"`:                 {`a"`, `"b"`},
		`a\ b`:                   {`a\`, "b"},
		`\" "a b"`:               {`\"`, `"a b"`},
		`a\" b`:                  {`a\"`, "b"},
		`\`:                      {`\`},
		`\\ \`:                   {`\\`, `\`},
		`"\\" "\\"`:              {`"\\"`, `"\\"`},
		`"\\\" a" b`:             {`"\\\" a"`, "b"},
		`"\x0a \xff" \x41`:       {`"\x0a \xff"`, `\x41`},
		"! ~ \x7f":               {"!", "~", "\x7f"},
		"\xff\x80 \xe2\x82":      {"\xff\x80", "\xe2\x82"},
		"é \ufffd \u0085 \u00a0": {"é", "\ufffd", "\u0085", "\u00a0"},
		"# a":                    {"#", "a"},
		`'a b'`:                  {"'a", "b'"},
		`a""`:                    {`a""`},
	} {
		wantWords(t, line, want)
		if line != "" {
			wantLine(t, line)
		}
	}
}

// P6.2: the examples of the chapter, and further strings that are no line.
func TestWordsNone(t *testing.T) {
	for _, s := range []string{
		" ", "a  b", "a ", " a", "  ", " a b", "a b ", "a b  c", `"a" `, ` "a"`, `"a"  "b"`, `"a"  b`, `"" `, ` ""`,
		"a\tb", "a\n", "\n", "\r", "\x00", "a\x1f", "a b\x00c", "\ta", "a\r\nb", "a \t", "a \n b",
		`"`, `"a`, `a "`, `a "b`, `"a b`, `" `, `"a" "`, `"a"b`, `"a""b"`, `""a`, `"""`, `""" "`, `"a"b "c d"`, `"a""b c"`, `"a"" "`,
		`"\"`, `"\" `, `"\" a`, `"\" "b"`, `"\ "`, `"\\\"`, `"\\" "`, `"\x41"`, `a "\x41" b`, `"a" "\X0a"`, `"\n"`, `"\x0"`, `"\x0`, `"\x 0a"`,
		"\"\n\"", "\"\x7f\"", "\"\xff\"", "a \"\t\"", `"\xe2\x82\xac"`, `"a"\`, "\"a\"\xff", "\"a\"\"", "\"a\"\n",
	} {
		wantWords(t, s, nil)
		wantLine(t, s)
	}
}

// P6.2: lines; whatever the words are, they are separated by single spaces.
func TestLine(t *testing.T) {
	for want, l := range map[string][]string{
		"":               {},
		"a":              {"a"},
		`put "k \" 1" 3`: {"put", `"k \" 1"`, "3"},
		"a b c":          {"a", "b", "c"},
		`"" ""`:          {`""`, `""`},
		" ":              {"", ""},
		"a  b":           {"a", "", "b"},
		" a ":            {"", "a", ""},
		"a b  c\n \xff":  {"a b", " c\n", "\xff"},
	} {
		if got := Line(l); got != want {
			t.Errorf("Line(%q) = %q, want %q", l, got, want)
		}
	}
	if got := Line(nil); got != "" {
		t.Errorf("Line(nil) = %q", got)
	}
	if got := Line([]string{""}); got != "" {
		t.Errorf("the line of an empty word is %q", got)
	}
}

// P6.1, P6.3: every rune, alone and between others.
func TestEachRune(t *testing.T) {
	for r := rune(0); r <= utf8.MaxRune; r++ {
		if r >= 0xd800 && r <= 0xdfff {
			continue
		}
		s, text := string(r), string(r)
		switch {
		case r == '"' || r == '\\':
			text = "\\" + s
		case r < 32 || r == 127:
			text = fmt.Sprintf("\\x%02x", r)
		}
		for _, c := range [][2]string{{s, `"` + text + `"`}, {"x" + s + "0", `"x` + text + `0"`}, {s + "\xff" + s, `"` + text + `\xff` + text + `"`}} {
			if got := Quote(c[0]); got != c[1] {
				t.Fatalf("Quote(%q) = %q, want %q", c[0], got, c[1])
			}
			if got, err := Unquote(c[1]); got != c[0] || err != api.OK {
				t.Fatalf("Unquote(%q) = %q, %d, want %q", c[1], got, err, c[0])
			}
		}
	}
}

// P6.1: of each byte, only the one escape that it needs is accepted, and none if it needs none.
func TestEachEscape(t *testing.T) {
	for c := range 256 {
		for _, format := range []string{"\"\\x%02x\"", "\"\\x%02X\"", "\"\\x%x\"", "\"\\x%03x\"", "\"\\%c\"", "\"a\\x%02xb\""} {
			wantUnquote(t, fmt.Sprintf(format, c))
		}
		for d := range 256 {
			wantUnquote(t, fmt.Sprintf("\"\\x%c%c\"", c, d))
			wantUnquote(t, "\"\\x"+string([]byte{byte(c), byte(d)})+"\"")
			wantUnquote(t, fmt.Sprintf("\"\\x%02x\\x%02x\"", c, d))
		}
	}
}

// P6.1 to P6.3: all strings of up to two bytes, also between double quotes.
func TestAllShort(t *testing.T) {
	var bytes []byte
	for c := range 256 {
		bytes = append(bytes, byte(c))
	}
	each(string(bytes), 2, func(s string) {
		wantQuote(t, s)
		for _, line := range []string{s, "\"" + s + "\"", "a " + s} {
			wantUnquote(t, line)
			if line != "" {
				wantLine(t, line)
			}
		}
	})
}

// P6.1 to P6.3: all strings of few bytes out of those that words, escapes and runes are made of.
func TestAllOfFew(t *testing.T) {
	for _, alphabet := range []string{"\"\\ ax\xff", "\"\\x0af", "\"\\ \n", "\xe2\x82\xac\xef\xbf\xbd"} {
		each(alphabet, 6, func(s string) {
			wantQuote(t, s)
			wantUnquote(t, s)
			wantUnquote(t, "\""+s+"\"")
			if s != "" {
				wantLine(t, s)
			}
		})
	}
}

// P6.1 to P6.3: longer strings, of pieces of words and of what breaks them.
func TestRandom(t *testing.T) {
	r := rand.New(rand.NewSource(6))
	for range 40000 {
		s := pick(r, 1+r.Intn(12), pieces)
		wantQuote(t, s)
		wantUnquote(t, s)
		wantUnquote(t, "\""+s+"\"")
		if s != "" {
			wantLine(t, s)
		}
	}
}

// P6.1, P6.2: quoted forms and lines in which one byte is another one, is left out, or stands twice.
func TestBroken(t *testing.T) {
	r := rand.New(rand.NewSource(66))
	for range 4000 {
		form := Quote(pick(r, 1+r.Intn(4), pieces))
		line := form + " a " + Quote(pick(r, 1, pieces))
		for i := range len(line) {
			c := pieces[1+r.Intn(len(pieces)-1)][:1]
			for _, s := range []string{line[:i] + c + line[i+1:], line[:i] + line[i+1:], line[:i+1] + line[i:]} {
				wantLine(t, s)
			}
			if i < len(form) {
				for _, s := range []string{form[:i] + c + form[i+1:], form[:i] + form[i+1:], form[:i+1] + form[i:], form[:i], form[i:]} {
					wantUnquote(t, s)
				}
			}
		}
	}
}

// P6.3: words are recovered from their line, whatever is quoted in them.
func TestRecovered(t *testing.T) {
	r := rand.New(rand.NewSource(666))
	for range 20000 {
		var l, texts []string
		for range 1 + r.Intn(9) {
			text := pick(r, r.Intn(6), pieces)
			if isWord(text) && r.Intn(2) == 0 {
				l, texts = append(l, text), append(texts, "")
				continue
			}
			l, texts = append(l, Quote(text)), append(texts, text)
		}
		got, err := Words(Line(l))
		if !slices.Equal(got, l) || err != api.OK {
			t.Fatalf("Words(Line(%q)) = %q, %d", l, got, err)
		}
		for i, w := range got {
			if text, err := Unquote(w); texts[i] != "" && (text != texts[i] || err != api.OK) {
				t.Fatalf("Unquote(%q) = %q, %d, want %q", w, text, err, texts[i])
			}
		}
	}
}

// P6.1 to P6.3: long strings and lines; each takes time in proportion to its length.
func TestLong(t *testing.T) {
	const n = 100000
	for _, piece := range []string{"a", "\"", "\\", "\n", "\xff", "\ufffd", "€", " ", "\" \"", "\xe2\x82"} {
		s := strings.Repeat(piece, n)
		form := Quote(s)
		if got, err := Unquote(form); got != s || err != api.OK {
			t.Errorf("%d times %q is not recovered: %d", n, piece, err)
		}
		for _, bad := range []string{form[1:], form[:len(form)-1], form + "\"", form + "a"} {
			if got, err := Unquote(bad); got != "" || err != api.ErrForm {
				t.Errorf("%d times %q, broken: %d", n, piece, err)
			}
		}
		l := slices.Repeat([]string{Quote(piece), "a"}, n)
		line := Line(l)
		if got, err := Words(line); !slices.Equal(got, l) || err != api.OK {
			t.Errorf("%d words %s are not recovered: %d", n, l[0], err)
		}
		if got, err := Words(line + " "); len(got) != 0 || err != api.ErrForm {
			t.Errorf("%d words %s, and a space: %d words, %d", n, l[0], len(got), err)
		}
	}
}

// General rule 3: the words handed in stay as they are, beyond the end of their list too; each list of words is new.
func TestKept(t *testing.T) {
	all := []string{"a", `"b c"`, "d", "e"}
	if got := Line(all[:2]); got != `a "b c"` {
		t.Errorf("the line is %q", got)
	}
	if want := []string{"a", `"b c"`, "d", "e"}; !slices.Equal(all, want) {
		t.Errorf("the words are now %q", all)
	}
	first, _ := Words("a b")
	first[0] = "x"
	_ = append(first[:1], "y")
	if again, err := Words("a b"); !slices.Equal(again, []string{"a", "b"}) || err != api.OK {
		t.Errorf("the words are then %q, %d", again, err)
	}
}
