package runes

import (
	"math"
	"math/rand"
	"slices"
	"strings"
	"testing"
	"unicode/utf8"

	"changeover/api"
)

// part is a rune of a string, or a byte that belongs to none (its rune is then -1).
type part struct {
	at   int
	text string
	r    rune
}

// leads: how a rune begins, by its number of bytes: the bits that mark its first byte, and the least rune of that length.
var leads = []struct {
	mask, mark byte
	least      rune
}{
	{0x80, 0x00, 0},
	{0xe0, 0xc0, 0x80},
	{0xf0, 0xe0, 0x800},
	{0xf8, 0xf0, 0x10000},
}

// first returns the rune with which s begins and its number of bytes, by the definition of UTF-8; -1 and 1 if there is none.
func first(s string) (rune, int) {
	for i, lead := range leads {
		if s[0]&lead.mask != lead.mark || len(s) < i+1 {
			continue
		}
		r := rune(s[0] &^ lead.mask)
		for _, c := range []byte(s[1 : i+1]) {
			if c&0xc0 != 0x80 {
				return -1, 1
			}
			r = r<<6 | rune(c&0x3f)
		}
		if r < lead.least || r > 0x10ffff || r >= 0xd800 && r <= 0xdfff {
			return -1, 1
		}
		return r, i + 1
	}
	return -1, 1
}

// parts returns the runes of s in their order, and the bytes between them, one by one.
func parts(s string) []part {
	var l []part
	for at := 0; at < len(s); {
		r, size := first(s[at:])
		l = append(l, part{at, s[at : at+size], r})
		at += size
	}
	return l
}

// plain reports whether r may stand in a key, by a list of the runes below 161.
func plain(r rune) bool {
	if r >= 161 {
		return r != 65533
	}
	return r >= 0 && strings.ContainsRune("abcdefghijklmnopqrstuvwxyzABCDEFGHIJKLMNOPQRSTUVWXYZ0123456789-_.:", r)
}

// lower returns s with each of the 26 letters replaced.
func lower(s string) string {
	for c := byte('A'); c <= 'Z'; c++ {
		s = strings.ReplaceAll(s, string(rune(c)), string(rune(c+32)))
	}
	return s
}

// wantAll fails the test unless every function tells of s what the chapter says.
func wantAll(t *testing.T, s string) {
	t.Helper()
	l := parts(s)
	bad := slices.IndexFunc(l, func(p part) bool { return p.r < 0 })
	key, val := len(s) >= 1 && len(s) <= 24, len(s) <= 48
	for _, p := range l {
		key = key && p.r >= 0 && plain(p.r)
		val = val && p.r >= 0 && p.r >= 32 && p.r != 127
	}
	if bad >= 0 {
		bad = l[bad].at
	}
	if got := Bad(s); got != bad {
		t.Fatalf("Bad(%q) = %d, want %d", s, got, bad)
	}
	if got := Whole(s); got != (bad < 0) {
		t.Fatalf("Whole(%q) = %v", s, got)
	}
	if got := Key(s); got != key {
		t.Fatalf("Key(%q) = %v", s, got)
	}
	if got := Val(s); got != val {
		t.Fatalf("Val(%q) = %v", s, got)
	}
	if got := Count(s); got != len(l) {
		t.Fatalf("Count(%q) = %d, want %d", s, got, len(l))
	}
	if got, want := Lower(s), lower(s); got != want {
		t.Fatalf("Lower(%q) = %q, want %q", s, got, want)
	}
	wantCuts(t, s, l)
	wantRange(t, s, bad < 0)
}

// wantCuts fails the test unless Cut returns as many parts as it is asked for.
func wantCuts(t *testing.T, s string, l []part) {
	t.Helper()
	text := ""
	for n := range l {
		if got := Cut(s, n); got != text {
			t.Fatalf("Cut(%q, %d) = %q, want %q", s, n, got, text)
		}
		text += l[n].text
	}
	for _, n := range []int{len(l), len(l) + 1, len(l) + 9, math.MaxInt32, math.MaxInt} {
		if got := Cut(s, n); got != s {
			t.Fatalf("Cut(%q, %d) = %q", s, n, got)
		}
	}
	for _, n := range []int{0, -1, -2, -len(l), math.MinInt32, math.MinInt} {
		if got := Cut(s, n); got != "" {
			t.Fatalf("Cut(%q, %d) = %q", s, n, got)
		}
	}
}

// wantRange fails the test unless a range over s tells the same: its runes, put together, and none of an invalid byte.
func wantRange(t *testing.T, s string, whole bool) {
	t.Helper()
	text, valid := "", true
	for i, r := range s {
		_, size := utf8.DecodeRuneInString(s[i:])
		valid = valid && (r != utf8.RuneError || size > 1)
		text += string(r)
	}
	if (text == s && valid) != whole || Whole(s) != whole {
		t.Fatalf("Whole(%q) = %v, by a range %q, %v", s, Whole(s), text, valid)
	}
}

// P5.1: the examples of the chapter, and the strings at the edges of its definitions.
func TestWhole(t *testing.T) {
	for s, bad := range map[string]int{
		"":                                -1,
		"a":                               -1,
		"\x00\x1f\x7f":                    -1,
		"é€😀":                             -1,
		"\ufffd":                          -1,
		"a\ufffdb\ufffd":                  -1,
		"\u0080\u07ff\u0800\uffff":        -1,
		"\ud7ff\ue000":                    -1,
		"\U00010000\U0010ffff":            -1,
		"a\xe2\x82":                       1,
		"\xff":                            0,
		"\xef\xbf":                        0,
		"\ufffd\xef\xbf":                  3,
		"\xef\xbf\ufffd":                  0,
		"\ufffd\xff":                      3,
		"a\x80":                           1,
		"\xbfa":                           0,
		"ab\xc3":                          2,
		"\xc3\xc3\xa9":                    0,
		"\u00e9\xa9":                      2,
		"€\xff€":                          3,
		"\xc0\x80":                        0,
		"\xc1\xbf":                        0,
		"\xe0\x9f\xbf":                    0,
		"\xf0\x8f\xbf\xbf":                0,
		"\xed\xa0\x80":                    0,
		"\xed\xbf\xbf":                    0,
		"\xed\xa0\xbd\xed\xb8\x80":        0,
		"\xf4\x90\x80\x80":                0,
		"\xf5\x80\x80\x80":                0,
		"\xf8\x88\x80\x80\x80":            0,
		"x\xf0\x9f\x98":                   1,
		strings.Repeat("€", 999):          -1,
		strings.Repeat("€", 999) + "\x82": 2997,
	} {
		if got := Bad(s); got != bad {
			t.Errorf("Bad(%q) = %d, want %d", s, got, bad)
		}
		if got := Whole(s); got != (bad < 0) {
			t.Errorf("Whole(%q) = %v", s, got)
		}
		wantAll(t, s)
	}
}

// P5.1: all runes, and the numbers beyond them.
func TestPlain(t *testing.T) {
	for r := rune(-1000); r <= 0x110000+1000; r++ {
		if got := Plain(r); got != plain(r) {
			t.Fatalf("Plain(%x) = %v", r, got)
		}
	}
	for _, r := range []rune{'a', 'z', 'A', 'Z', '0', '9', '-', '_', '.', ':', 161, 0xd800, 65532, 65534, 0x10ffff, math.MaxInt32} {
		if !Plain(r) {
			t.Errorf("%x is not plain", r)
		}
	}
	for _, r := range []rune{math.MinInt32, math.MinInt32 + 'a', -1, 0, 31, ' ', '"', '/', '@', '[', '`', '{', '~', 127, 128, 160, 65533} {
		if Plain(r) {
			t.Errorf("%x is plain", r)
		}
	}
}

// P5.1: the examples of the chapter, and keys at the edges of its definition.
func TestKey(t *testing.T) {
	for s, want := range map[string]bool{
		"é:1":                            true,
		"a/b":                            false,
		"\xff":                           false,
		"\ufffd":                         false,
		"":                               false,
		"abcdefghijklmnopqrstuvwx":       true,
		"abcdefghijklmnopqrstuvwxy":      false,
		"a":                              true,
		"Z9-_.:0":                        true,
		"\u00a0":                         false,
		"\u00a1":                         true,
		"a b":                            false,
		"a ":                             false,
		" a":                             false,
		"a\xe2\x82":                      false,
		"a\xff":                          false,
		"\xffa":                          false,
		"a\ufffd":                        false,
		"a\x00":                          false,
		"ab\n":                           false,
		"€€€€€€€€":                       true,
		"€€€€€€€€a":                      false,
		"€€€€€€€é":                       true,
		"€€€€€€€éa":                      true,
		"😀😀😀😀😀😀":                         true,
		"😀😀😀😀😀é.é":                       false,
		"abcdefghijklmnopqrstuvw/":       false,
		"abcdefghijklmnopqrstuvw\xff":    false,
		"abcdefghijklmnopqrstuv\xc3\xa9": true,
		strings.Repeat("k", 5000):        false,
	} {
		if got := Key(s); got != want {
			t.Errorf("Key(%q) = %v", s, got)
		}
	}
}

// P5.1: values at the edges of the definition.
func TestVal(t *testing.T) {
	most := strings.Repeat("v", 47)
	for s, want := range map[string]bool{
		"":                            true,
		" ":                           true,
		"a b/c\"\\~":                  true,
		"\x1f":                        false,
		"\x00":                        false,
		"a\n":                         false,
		"\ta":                         false,
		"\x7e":                        true,
		"\x7f":                        false,
		"a\x7f":                       false,
		"\u0080\u0085\u00a0":          true,
		"\ufffd":                      true,
		"a\ufffdb":                    true,
		"\xff":                        false,
		"a\xe2\x82":                   false,
		"\ufffd\xff":                  false,
		most:                          true,
		most + " ":                    true,
		most + "\x1f":                 false,
		most + "\xc3":                 false,
		most + "\xc3\xa9":             false,
		most + "vv":                   false,
		strings.Repeat("€", 16):       true,
		strings.Repeat("€", 16) + "a": false,
		strings.Repeat("v", 5000):     false,
	} {
		if got := Val(s); got != want {
			t.Errorf("Val(%q) = %v", s, got)
		}
	}
}

// P5.1: all lengths up to the greatest ones and beyond, in runes of one to four bytes.
func TestLengths(t *testing.T) {
	for _, r := range []string{"a", "é", "€", "😀"} {
		for n := range 60 {
			s := strings.Repeat(r, n)
			if got := Key(s); got != (n > 0 && len(s) <= api.MaxKey) {
				t.Errorf("Key of %d bytes is %v", len(s), got)
			}
			if got := Val(s); got != (len(s) <= api.MaxVal) {
				t.Errorf("Val of %d bytes is %v", len(s), got)
			}
		}
	}
}

// P5.1: each rune alone, and within a string, is a key where it is plain and a value where it is neither 127 nor less than 32.
func TestEachRune(t *testing.T) {
	for r := rune(0); r <= utf8.MaxRune; r++ {
		if r >= 0xd800 && r <= 0xdfff {
			continue
		}
		for _, s := range []string{string(r), "a" + string(r), string(r) + "a"} {
			if !Whole(s) || Bad(s) != -1 {
				t.Fatalf("%q is not whole", s)
			}
			if Key(s) != plain(r) || Val(s) != (r >= 32 && r != 127) {
				t.Fatalf("%q: key %v, value %v", s, Key(s), Val(s))
			}
		}
		if s := "a" + string(r) + "\xff"; Bad(s) != len(s)-1 || Count(s) != 3 || Cut(s, 2) != "a"+string(r) || Lower(s) != "a"+lower(string(r))+"\xff" {
			t.Fatalf("%q: %d, %d, %q, %q", s, Bad(s), Count(s), Cut(s, 2), Lower(s))
		}
	}
}

// P5.2: the examples of the chapter, and strings with bytes that belong to no rune.
func TestCount(t *testing.T) {
	for s, want := range map[string]int{
		"":                   0,
		"a":                  1,
		"€\xff":              2,
		"\xff€":              2,
		"\xff\xff\xff":       3,
		"\ufffd":             1,
		"\xe2\x82":           2,
		"\xe2\x82\xac":       1,
		"\xf0\x9f\x98":       3,
		"\xf0\x9f\x98\x80":   1,
		"\xed\xa0\x80":       3,
		"\xf4\x90\x80\x80":   4,
		"e\u0301":            2,
		"\r\n":               2,
		"\x00\x00":           2,
		"\xc3\xe2\x82\xac":   2,
		"a\x80\xbf\xc3\xa9b": 5,
	} {
		if got := Count(s); got != want {
			t.Errorf("Count(%q) = %d, want %d", s, got, want)
		}
	}
}

// P5.2: the examples of the chapter, and cuts at and beyond both ends.
func TestCut(t *testing.T) {
	for _, c := range []struct {
		s    string
		n    int
		want string
	}{
		{"€b", 1, "€"},
		{"€b", 2, "€b"},
		{"€b", 3, "€b"},
		{"€b", 0, ""},
		{"€b", -1, ""},
		{"€b", math.MinInt, ""},
		{"€b", math.MaxInt, "€b"},
		{"", 0, ""},
		{"", 1, ""},
		{"", -1, ""},
		{"€\xffb", 2, "€\xff"},
		{"\xff\xfea", 1, "\xff"},
		{"\xe2\x82a", 1, "\xe2"},
		{"\xe2\x82a", 2, "\xe2\x82"},
		{"\xe2\x82", 2, "\xe2\x82"},
		{"a\ufffdb", 2, "a\ufffd"},
		{"😀é", 1, "😀"},
		{"e\u0301x", 1, "e"},
	} {
		if got := Cut(c.s, c.n); got != c.want {
			t.Errorf("Cut(%q, %d) = %q, want %q", c.s, c.n, got, c.want)
		}
	}
}

// P5.2: the example of the chapter; all else stays, bytes that belong to no rune too.
func TestLower(t *testing.T) {
	for s, want := range map[string]string{
		"":                           "",
		"AÉz":                        "aÉz",
		"ABCDEFGHIJKLMNOPQRSTUVWXYZ": "abcdefghijklmnopqrstuvwxyz",
		"abcdefghijklmnopqrstuvwxyz": "abcdefghijklmnopqrstuvwxyz",
		"@[`{/:09":                   "@[`{/:09",
		"A\xffB\xe2\x82C":            "a\xffb\xe2\x82c",
		"\xc3A\x81":                  "\xc3a\x81",
		"\ufffdQ":                    "\ufffdq",
		"\u0130\u212a\u00c0\uff21":   "\u0130\u212a\u00c0\uff21",
		"\x00A\x00":                  "\x00a\x00",
	} {
		if got := Lower(s); got != want {
			t.Errorf("Lower(%q) = %q, want %q", s, got, want)
		}
	}
}

// P5.1 to P5.3: all strings of up to two bytes.
func TestAllShort(t *testing.T) {
	for a := range 256 {
		wantAll(t, string([]byte{byte(a)}))
		for b := range 256 {
			wantAll(t, string([]byte{byte(a), byte(b)}))
		}
	}
}

// edges: the bytes at the edges of what may stand at some place of a rune.
var edges = []byte{
	0x00, 'A', 0x7f, 0x80, 0x8f, 0x90, 0x9f, 0xa0, 0xbd, 0xbf, 0xc0, 0xc1, 0xc2, 0xdf,
	0xe0, 0xe1, 0xec, 0xed, 0xee, 0xef, 0xf0, 0xf1, 0xf3, 0xf4, 0xf5, 0xf7, 0xf8, 0xff,
}

// P5.1 to P5.3: all strings of three and of four bytes at the edges.
func TestAllEdges(t *testing.T) {
	for _, a := range edges {
		for _, b := range edges {
			for _, c := range edges {
				wantAll(t, string([]byte{a, b, c}))
				for _, d := range edges {
					if s := string([]byte{a, b, c, d}); a >= 0xc0 {
						wantAll(t, s)
					}
				}
			}
		}
	}
}

// P5.1 to P5.3: strings of runes and of parts of them, put together at random.
func TestMixed(t *testing.T) {
	r := rand.New(rand.NewSource(5))
	pieces := []string{
		"a", "Z", "7", ":", "/", " ", "\x1f", "\x7f", "\u0080", "\u00a0", "\u00a1", "é", "É", "€", "\ufffd", "😀", "\U0010ffff",
		"\xff", "\x80", "\xbf", "\xc3", "\xe2", "\xe2\x82", "\xef\xbf", "\xf0\x9f\x98", "\xed\xa0\x80", "\xc0\x80",
	}
	for range 20000 {
		some := pieces
		if r.Intn(2) == 0 { // of well-formed ones alone
			some = pieces[:17]
		}
		var s strings.Builder
		for range r.Intn(30) {
			s.WriteString(some[r.Intn(len(some))])
		}
		wantAll(t, s.String())
	}
}

// P5.3: each rune of a well-formed string may stand beside each other, and no part of one beside a rune.
func TestTorn(t *testing.T) {
	for _, r := range []string{"é", "\u0080", "\u07ff", "\u0800", "€", "\ufffd", "\uffff", "\U00010000", "😀", "\U0010ffff"} {
		for _, beside := range []string{"", "a", "€", "\ufffd"} {
			wantWhole(t, beside+r+beside, true)
			for cut := 1; cut < len(r); cut++ {
				wantWhole(t, beside+r[:cut], false)
				wantWhole(t, r[cut:]+beside, false)
				wantWhole(t, beside+r[:cut]+"a"+r[cut:], false)
			}
		}
	}
}

// wantWhole fails the test unless s is well-formed, or not, both by Whole and by a range.
func wantWhole(t *testing.T, s string, whole bool) {
	t.Helper()
	if utf8.ValidString(s) != whole {
		t.Fatalf("%q: what is wanted of it is wrong", s)
	}
	wantRange(t, s, whole)
}
