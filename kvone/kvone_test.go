package kvone

import (
	"bytes"
	"fmt"
	"maps"
	"math"
	"math/rand"
	"slices"
	"strings"
	"testing"

	"changeover/api"
)

// The limits of the chapters, written out.
const (
	keyBytes = 24
	valBytes = 48
	most     = 64
)

// keys, in the order of their bytes, and strings that are none.
var (
	keys  = []string{"-", "--", "-a", ".", "0", "00", "1", "10", "2", ":", "A", "Z", "Za", "_", "a", "a-", "aa", "aaa", "ab", "b", "z", strings.Repeat("z", keyBytes), "¡", "é", "é1", strings.Repeat("é", keyBytes/2), "€", "\ufffc", "\uffff", "\U00010000", "\U0010ffff"}
	noKey = []string{"", " ", "a b", "a/b", "\"", "a\n", "\x00", "~", "\x7f", "\u00a0", "\ufffd", "a\ufffd", "\xff", "\x80", "a\xe2\x82", "\xed\xa0\x80", "\xc0\x80", strings.Repeat("z", keyBytes+1), strings.Repeat("é", keyBytes/2) + "z"}
)

// values, and strings that are none.
var (
	values = []string{"", "x", " ", "a b", "~", "\"", "é", "€", "\u00a0", "\ufffd", "\U0010ffff", strings.Repeat("v", valBytes), strings.Repeat("é", valBytes/2)}
	noVal  = []string{"\x00", "\n", "\x1f", "a\x7f", "\xff", "\x80", "a\xe2\x82", "\xed\xa0\x80", "\xc0\x80", "\xf4\x90\x80\x80", strings.Repeat("v", valBytes+1), strings.Repeat("é", valBytes/2) + "v"}
)

// numbers: those at limits, beside and beyond them, and at those of Go's number types; 0 is not among them.
var numbers = []int{
	math.MinInt, math.MinInt + 1, -1 << 32, -255, -1, 1, 2, 8, 9, 255, 256, 1 << 16, math.MaxInt32, math.MaxInt32 + 1,
	math.MaxUint32, 1 << 32, 1<<32 + 1, 1 << 33, math.MaxInt - 1, math.MaxInt,
}

// pairs returns those of keys and values that are given by turns.
func pairs(l ...string) []api.Pair {
	var out []api.Pair
	for i := 0; i < len(l); i += 2 {
		out = append(out, api.Pair{Key: l[i], Val: l[i+1]})
	}
	return out
}

// numbered returns n valid pairs; their keys have odd numbers, so that each gap has a key of its own.
func numbered(n int) []api.Pair {
	var l []api.Pair
	for i := range n {
		l = append(l, api.Pair{Key: name(2*i + 1), Val: fmt.Sprint("v", i)})
	}
	return l
}

// name returns a key; the order of the keys is that of their numbers.
func name(n int) string {
	return fmt.Sprintf("k%04d", n)
}

// before reports whether the key a is ahead of b, byte by byte.
func before(a, b string) bool {
	return bytes.Compare([]byte(a), []byte(b)) < 0
}

// isPair reports whether p is valid in schema 1: keys and values come from the lists above, or are made valid.
func isPair(p api.Pair) bool {
	return !slices.Contains(noKey, p.Key) && !slices.Contains(noVal, p.Val) && p.Rev == 0
}

// checked returns what Check is to return: every pair is tried by itself, and against all behind it.
func checked(l []api.Pair) api.Errno {
	if len(l) > most {
		return api.ErrForm
	}
	for i, p := range l {
		if !isPair(p) {
			return api.ErrForm
		}
		for _, behind := range l[i+1:] {
			if !before(p.Key, behind.Key) {
				return api.ErrForm
			}
		}
	}
	return api.OK
}

// find returns what Find is to return: all pairs are tried.
func find(l []api.Pair, key string) (api.Pair, bool) {
	for _, p := range l {
		if p.Key == key {
			return p, true
		}
	}
	return api.Pair{}, false
}

// done returns what Do is to return, by a map from keys to pairs.
func done(l []api.Pair, c api.Cmd) ([]api.Pair, api.Answer) {
	by := map[string]api.Pair{}
	for _, p := range l {
		by[p.Key] = p
	}
	a := api.Answer{Client: c.Client, Seq: c.Seq}
	old, is := by[c.Key]
	switch {
	case c.Kind < 2 || c.Kind > 4:
		a.Err = 8
	case is && c.Kind == 2:
		a.Found, a.Val = true, old.Val
		by[c.Key] = api.Pair{Key: c.Key, Val: c.Val, Rev: old.Rev}
	case c.Kind == 2 && len(l) >= most:
		a.Err = 11
	case c.Kind == 2:
		by[c.Key] = api.Pair{Key: c.Key, Val: c.Val}
	case is && c.Kind == 3:
		a.Found, a.Val = true, old.Val
	case is:
		a.Found, a.Val = true, old.Val
		delete(by, c.Key)
	}
	return sorted(by), a
}

// sorted returns the pairs of the map, by their keys.
func sorted(by map[string]api.Pair) []api.Pair {
	var l []api.Pair
	for _, key := range slices.SortedFunc(maps.Keys(by), func(a, b string) int { return bytes.Compare([]byte(a), []byte(b)) }) {
		l = append(l, by[key])
	}
	return l
}

// mark stands in memory that nothing may write to.
var mark = api.Pair{Key: "mark", Val: "beyond", Rev: 77}

// roomy returns a copy of l with room beyond its end, and what tells whether anything in it has changed.
func roomy(l []api.Pair) ([]api.Pair, func() bool) {
	all := append(slices.Clone(l), mark, mark, mark)
	first := slices.Clone(all)
	return all[:len(l)], func() bool { return !slices.Equal(all, first) }
}

// spoil overwrites a result, and the memory beyond its end.
func spoil(l []api.Pair) {
	l = l[:cap(l)]
	for i := range l {
		l[i] = api.Pair{Key: "spoilt", Val: "spoilt", Rev: -5}
	}
}

// wantCheck fails if Check of l is not as it is to be, or changes l.
func wantCheck(t *testing.T, l []api.Pair, want api.Errno) {
	t.Helper()
	given, changed := roomy(l)
	if got := Check(given); got != want {
		t.Fatalf("Check(%+v) = %d, want %d", l, got, want)
	}
	if changed() {
		t.Fatalf("Check changed %+v", l)
	}
}

// wantDo fails if Do of l and c is not as done tells, or its result shares memory with l; it returns the result.
func wantDo(t *testing.T, l []api.Pair, c api.Cmd) ([]api.Pair, api.Answer) {
	t.Helper()
	want, wantAnswer := done(l, c)
	given, changed := roomy(l)
	got, a := Do(given, c)
	if a != wantAnswer {
		t.Fatalf("Do(%+v, %+v) answers %+v, want %+v", l, c, a, wantAnswer)
	}
	if !slices.Equal(got, want) {
		t.Fatalf("Do(%+v, %+v) = %+v, want %+v", l, c, got, want)
	}
	out := slices.Clone(got)
	spoil(got)
	if changed() {
		t.Fatalf("Do(%+v, %+v) changes the list, or shares its memory", l, c)
	}
	return out, a
}

// random returns random pairs with strictly ascending keys; they are valid if plain, and may have anything beside their order otherwise.
func random(r *rand.Rand, plain bool) []api.Pair {
	by := map[string]api.Pair{}
	for range r.Intn(1 << r.Intn(7)) {
		p := api.Pair{Key: someKey(r), Val: values[r.Intn(len(values))]}
		if !plain && r.Intn(3) == 0 {
			p.Key = noKey[r.Intn(len(noKey))]
		}
		if !plain && r.Intn(3) == 0 {
			p.Val = noVal[r.Intn(len(noVal))]
		}
		if !plain && r.Intn(3) == 0 {
			p.Rev = numbers[r.Intn(len(numbers))]
		}
		by[p.Key] = p
	}
	return sorted(by)
}

// someKey returns a key of the list, a numbered one, or two of them as one, if that is not too long.
func someKey(r *rand.Rand) string {
	switch key := keys[r.Intn(len(keys))]; {
	case r.Intn(2) == 0:
		return key
	case len(key) > keyBytes/2:
		return name(r.Intn(100))
	default:
		return key + name(r.Intn(10))
	}
}

// asked returns keys to be asked for: those of l, such beside them, and those of the lists.
func asked(l []api.Pair) []string {
	out := slices.Concat(keys, noKey)
	for _, p := range l {
		out = append(out, p.Key, p.Key+"\x00", p.Key+"0", strings.ToUpper(p.Key))
		if len(p.Key) > 0 {
			out = append(out, p.Key[:len(p.Key)-1])
		}
	}
	return out
}

// P23.1: no pairs are valid, and so is each single one with all fields at their limits.
func TestCheckValid(t *testing.T) {
	wantCheck(t, nil, api.OK)
	wantCheck(t, []api.Pair{}, api.OK)
	for _, key := range keys {
		for _, val := range values {
			wantCheck(t, pairs(key, val), api.OK)
		}
	}
	var all []api.Pair
	for i, key := range keys {
		all = append(all, api.Pair{Key: key, Val: values[i%len(values)]})
	}
	wantCheck(t, all, api.OK)
	for i := range all {
		wantCheck(t, all[i:], api.OK)
		wantCheck(t, all[:i], api.OK)
		wantCheck(t, slices.Delete(slices.Clone(all), i, i+1), api.OK)
	}
}

// wantForm fails if p is taken as valid where all else is, wherever it stands: first, between, last, alone.
func wantForm(t *testing.T, p api.Pair) {
	t.Helper()
	wantCheck(t, []api.Pair{p}, api.ErrForm)
	wantCheck(t, append(pairs("-", "v", "--", "v"), p), api.ErrForm)
	wantCheck(t, append([]api.Pair{p}, pairs("\U0010fffe", "v", "\U0010ffff", "v")...), api.ErrForm)
	wantCheck(t, slices.Concat(pairs("-", "v"), []api.Pair{p}, pairs("\U0010ffff", "v")), api.ErrForm)
}

// P23.1: a key, a value or a revision that is not valid is found, wherever it stands.
func TestCheckFields(t *testing.T) {
	wantCheck(t, pairs("-", "v", "--", "v", "m", "v", "\U0010fffe", "v", "\U0010ffff", "v"), api.OK)
	for _, key := range noKey {
		wantForm(t, api.Pair{Key: key, Val: "v"})
	}
	for _, val := range noVal {
		wantForm(t, api.Pair{Key: "m", Val: val})
	}
	for _, rev := range numbers {
		wantForm(t, api.Pair{Key: "m", Val: "v", Rev: rev})
	}
	for rev := -300; rev <= 300; rev++ {
		want := api.ErrForm
		if rev == 0 {
			want = api.OK
		}
		wantCheck(t, []api.Pair{{Key: "m", Val: "v", Rev: rev}}, want)
	}
}

// P23.1: there may be 64 pairs, and no more, though each is valid.
func TestCheckMost(t *testing.T) {
	for n := range 300 {
		want := api.OK
		if n > most {
			want = api.ErrForm
		}
		wantCheck(t, numbered(n), want)
	}
}

// P23.1: keys that do not ascend strictly, byte by byte, are found: every order of up to three keys.
func TestCheckOrder(t *testing.T) {
	ascending := 0
	for _, one := range keys {
		for _, two := range keys {
			want := api.ErrForm
			if before(one, two) {
				want = api.OK
			}
			wantCheck(t, pairs(one, "v", two, "v"), want)
			for _, three := range keys {
				want := checked(pairs(one, "v", two, "v", three, "v"))
				wantCheck(t, pairs(one, "v", two, "v", three, "v"), want)
				if want == api.OK {
					ascending++
				}
			}
		}
	}
	if n := len(keys); ascending != n*(n-1)*(n-2)/6 {
		t.Errorf("%d lists ascend", ascending)
	}
	wantCheck(t, pairs("a", "1", "a", "2"), api.ErrForm)
	wantCheck(t, pairs("a", "1", "b", "1", "a", "1", "c", "1"), api.ErrForm)
}

// P23.1: random pairs, of which one field is changed or two are exchanged.
func TestCheckRandom(t *testing.T) {
	r := rand.New(rand.NewSource(1))
	counts := map[api.Errno]int{}
	for range 20000 {
		l := random(r, true)
		if len(l) > 0 && r.Intn(2) == 0 {
			disturb(r, l)
		}
		want := checked(l)
		wantCheck(t, l, want)
		counts[want]++
	}
	if counts[api.OK] < 8000 || counts[api.ErrForm] < 5000 {
		t.Errorf("too few of a kind: %v", counts)
	}
}

// disturb changes something in l, which may be valid still.
func disturb(r *rand.Rand, l []api.Pair) {
	i, j := r.Intn(len(l)), r.Intn(len(l))
	switch r.Intn(6) {
	case 0:
		l[i].Key = noKey[r.Intn(len(noKey))]
	case 1:
		l[i].Val = noVal[r.Intn(len(noVal))]
	case 2:
		l[i].Rev = numbers[r.Intn(len(numbers))]
	case 3:
		l[i].Key = someKey(r)
	case 4:
		l[i], l[j] = l[j], l[i]
	case 5:
		l[i] = l[j]
	}
}

// P23.1: the pair is returned whole; what is only the beginning of a key, or only begins with it, is another one.
func TestFindExamples(t *testing.T) {
	l := []api.Pair{{Key: "a", Val: "1"}, {Key: "ab", Val: ""}, {Key: "b", Val: "\n", Rev: 7}, {Key: "é", Val: "4"}}
	for _, x := range []struct {
		key  string
		want api.Pair
		is   bool
	}{
		{"a", l[0], true},
		{"ab", l[1], true},
		{"b", l[2], true},
		{"é", l[3], true},
		{"", api.Pair{}, false},
		{"-", api.Pair{}, false},
		{"A", api.Pair{}, false},
		{"aa", api.Pair{}, false},
		{"abc", api.Pair{}, false},
		{"a\x00", api.Pair{}, false},
		{"B", api.Pair{}, false},
		{"\xc3", api.Pair{}, false},
		{"z", api.Pair{}, false},
		{"éé", api.Pair{}, false},
		{"\xff", api.Pair{}, false},
	} {
		if p, is := Find(l, x.key); p != x.want || is != x.is {
			t.Errorf("Find %q = %+v, %v, want %+v, %v", x.key, p, is, x.want, x.is)
		}
		for _, none := range [][]api.Pair{nil, {}} {
			if p, is := Find(none, x.key); p != (api.Pair{}) || is {
				t.Errorf("Find %q in none = %+v, %v", x.key, p, is)
			}
		}
	}
}

// P23.1: every key of lists of any length, valid or not but for their order, and keys beside them.
func TestFind(t *testing.T) {
	r := rand.New(rand.NewSource(2))
	counts := map[bool]int{}
	for i := range 2000 {
		l := random(r, i%2 == 0)
		given, changed := roomy(l)
		for _, key := range asked(l) {
			p, is := Find(given, key)
			if want, wantIs := find(l, key); p != want || is != wantIs {
				t.Fatalf("Find(%+v, %q) = %+v, %v, want %+v, %v", l, key, p, is, want, wantIs)
			}
			counts[is]++
		}
		if changed() {
			t.Fatalf("Find changed %+v", l)
		}
	}
	if counts[true] < 20000 || counts[false] < 100000 {
		t.Errorf("too few of a kind: %v", counts)
	}
}

// P23.1: the example of the chapter, with whole answers and the pairs after each command.
func TestDoExample(t *testing.T) {
	var l []api.Pair
	for i, x := range []struct {
		c    api.Cmd
		a    api.Answer
		want []api.Pair
	}{
		{api.Cmd{Kind: api.CmdPut, Key: "a", Val: "1"}, api.Answer{}, pairs("a", "1")},
		{api.Cmd{Kind: api.CmdPut, Key: "a", Val: "2"}, api.Answer{Found: true, Val: "1"}, pairs("a", "2")},
		{api.Cmd{Kind: api.CmdGet, Key: "a"}, api.Answer{Found: true, Val: "2"}, pairs("a", "2")},
		{api.Cmd{Kind: api.CmdCas, Key: "a", Old: "2", Val: "3"}, api.Answer{Err: api.ErrVersion}, pairs("a", "2")},
		{api.Cmd{Kind: api.CmdDel, Key: "a"}, api.Answer{Found: true, Val: "2"}, nil},
		{api.Cmd{Kind: api.CmdGet, Key: "a"}, api.Answer{}, nil},
		{api.Cmd{Kind: api.CmdDel, Key: "a"}, api.Answer{}, nil},
		{api.Cmd{Kind: api.CmdPut, Key: "a", Val: ""}, api.Answer{}, pairs("a", "")},
		{api.Cmd{Kind: api.CmdGet, Key: "a"}, api.Answer{Found: true}, pairs("a", "")},
		{api.Cmd{Kind: api.CmdPut, Key: "a", Val: "4"}, api.Answer{Found: true}, pairs("a", "4")},
	} {
		x.c.Client, x.c.Seq = 3, i+1
		x.a.Client, x.a.Seq = 3, i+1
		got, a := Do(l, x.c)
		if a != x.a || !slices.Equal(got, x.want) {
			t.Errorf("%d: Do(%+v, %+v) = %+v, %+v, want %+v, %+v", i, l, x.c, got, a, x.want, x.a)
		}
		if err := Check(got); err != api.OK {
			t.Errorf("%d: Check(%+v) = %d", i, got, err)
		}
		l = got
	}
}

// P23.1: ahead of all, between two, behind all, and in place of each: puts, gets and dels.
func TestDoPlaces(t *testing.T) {
	l := pairs("b", "1", "d", "2", "f", "3")
	for _, x := range []struct{ key, put, old, del string }{
		{"a", "a*b1d2f3", "", "b1d2f3"},
		{"b", "b*d2f3", "1", "d2f3"},
		{"c", "b1c*d2f3", "", "b1d2f3"},
		{"d", "b1d*f3", "2", "b1f3"},
		{"e", "b1d2e*f3", "", "b1d2f3"},
		{"f", "b1d2f*", "3", "b1d2"},
		{"g", "b1d2f3g*", "", "b1d2f3"},
		{"bb", "b1bb*d2f3", "", "b1d2f3"},
		{"B", "B*b1d2f3", "", "b1d2f3"},
		{"é", "b1d2f3é*", "", "b1d2f3"},
	} {
		want := api.Answer{Client: 1, Seq: 2, Found: x.old != "", Val: x.old}
		for kind, pairs := range map[int]string{api.CmdPut: x.put, api.CmdGet: "b1d2f3", api.CmdDel: x.del} {
			got, a := wantDo(t, l, api.Cmd{Kind: kind, Client: 1, Seq: 2, Key: x.key, Val: "*"})
			told := ""
			for _, p := range got {
				told += p.Key + p.Val
			}
			if told != pairs || a != want {
				t.Errorf("kind %d of %s: %s, %+v, want %s, %+v", kind, x.key, told, a, pairs, want)
			}
		}
	}
}

// P23.1: of no pairs at all, nil or not, each command leads to memory of its own.
func TestDoNone(t *testing.T) {
	for _, l := range [][]api.Pair{nil, {}, pairs("a", "1")[:0]} {
		for kind := range 10 {
			wantDo(t, l, api.Cmd{Kind: kind, Client: 2, Seq: 5, Key: "a", Val: "2"})
		}
	}
}

// P23.1: a new key is put when there are 63 pairs, and refused when there are 64; all else is as ever then.
func TestDoFull(t *testing.T) {
	for _, n := range []int{0, 1, 62, 63, 64, 65, 66, 128, 200} {
		l := numbered(n)
		for i := range 2*n + 1 {
			key := name(i)
			put := api.Cmd{Kind: api.CmdPut, Client: 1, Seq: 2, Key: key, Val: "new"}
			want, size := api.Answer{Client: 1, Seq: 2}, n
			switch {
			case i%2 == 1:
				want.Found, want.Val = true, l[i/2].Val
			case n >= most:
				want.Err = api.ErrFull
			default:
				size++
			}
			got, a := wantDo(t, l, put)
			if a != want || len(got) != size {
				t.Fatalf("%d pairs, put of %s: %d, %+v, want %d, %+v", n, key, len(got), a, size, want)
			}
			if want.Err != api.OK && !slices.Equal(got, l) {
				t.Fatalf("%d pairs, put of %s: has an effect", n, key)
			}
			wantDo(t, l, api.Cmd{Kind: api.CmdGet, Client: 1, Seq: 2, Key: key})
			wantDo(t, l, api.Cmd{Kind: api.CmdDel, Client: 1, Seq: 2, Key: key})
		}
	}
}

// P23.1: where a del made room, the new key is put.
func TestDoRoom(t *testing.T) {
	l := numbered(most)
	put := api.Cmd{Kind: api.CmdPut, Key: "new", Val: "v"}
	if _, a := Do(l, put); a.Err != api.ErrFull {
		t.Fatal(a)
	}
	less, a := Do(l, api.Cmd{Kind: api.CmdDel, Key: name(5)})
	if !a.Found || len(less) != most-1 {
		t.Fatal(a, len(less))
	}
	full, a := Do(less, put)
	if a != (api.Answer{}) || len(full) != most || Check(full) != api.OK {
		t.Fatal(a, len(full))
	}
	if _, a := Do(full, api.Cmd{Kind: api.CmdPut, Key: name(5), Val: "v"}); a.Err != api.ErrFull {
		t.Fatal(a)
	}
}

// P23.1: every kind but put, get and del has no effect, whatever else the command has: ErrVersion, and nothing is found.
func TestDoKinds(t *testing.T) {
	kinds := append([]int{0, api.CmdNop, api.CmdCas, api.CmdActivate, api.CmdAdd, api.CmdDrop}, numbers...)
	for kind := -300; kind <= 300; kind++ {
		kinds = append(kinds, kind)
	}
	for _, kind := range append(kinds, 1<<8+api.CmdPut, 1<<16+api.CmdGet, 1<<32+api.CmdDel) {
		for _, l := range [][]api.Pair{nil, pairs("a", "1"), pairs("a", "1", "b", "2", "c", "3"), numbered(most)} {
			for _, c := range []api.Cmd{
				{},
				{Client: 1, Seq: 2, Key: "a"},
				{Client: 8, Seq: 1 << 32, Key: "b", Old: "2", Val: "3"},
				{Client: -1, Seq: -2, Key: name(1), Old: "v0", Val: "3", Node: 4},
				{Key: "zz", Val: "new"},
				{Node: 3},
			} {
				c.Kind = kind
				got, a := wantDo(t, l, c)
				if kind >= api.CmdPut && kind <= api.CmdDel {
					continue
				}
				if want := (api.Answer{Client: c.Client, Seq: c.Seq, Err: api.ErrVersion}); a != want || !slices.Equal(got, l) {
					t.Fatalf("Do(%+v, %+v) = %+v, %+v", l, c, got, a)
				}
			}
		}
	}
}

// P23.1: an answer has the numbers of the command, whatever they are.
func TestDoNumbers(t *testing.T) {
	l := numbered(most)
	for _, client := range append(numbers, 0) {
		for _, seq := range append(numbers, 0) {
			for kind := range 6 {
				for _, key := range []string{name(1), name(2)} {
					if _, a := wantDo(t, l, api.Cmd{Kind: kind, Client: client, Seq: seq, Key: key}); a.Client != client || a.Seq != seq {
						t.Fatalf("kind %d, key %s: %+v, want %d, %d", kind, key, a, client, seq)
					}
				}
			}
		}
	}
}

// P23.1: what a command has beside its kind's fields counts for nothing, and its key and value are taken as they are.
func TestDoOdd(t *testing.T) {
	l := pairs("", "\xff", "a", "1", "a/b", "2", "\xff", "3")
	for _, key := range append(slices.Concat(keys, noKey), "a/b", "a/c", "\xff\xff") {
		for _, val := range slices.Concat(values, noVal) {
			for kind := range 5 {
				plain := api.Cmd{Kind: kind, Client: 1, Seq: 2, Key: key, Val: val}
				got, a := wantDo(t, l, plain)
				plain.Old, plain.Node = "1", 5
				again, b := wantDo(t, l, plain)
				if a != b || !slices.Equal(got, again) {
					t.Fatalf("Old or Node counts: %+v, %+v", plain, b)
				}
			}
		}
	}
}

// P23.1: a pair gets the value alone: revisions, which this schema does not have, stay, and no answer tells one.
func TestDoRevs(t *testing.T) {
	l := []api.Pair{{Key: "a", Val: "1", Rev: 5}, {Key: "b", Val: "2"}, {Key: "c", Val: "3", Rev: -7}}
	for _, x := range []struct {
		c    api.Cmd
		want []api.Pair
	}{
		{api.Cmd{Kind: api.CmdPut, Key: "a", Val: "9"}, []api.Pair{{Key: "a", Val: "9", Rev: 5}, l[1], l[2]}},
		{api.Cmd{Kind: api.CmdPut, Key: "bb", Val: "9"}, []api.Pair{l[0], l[1], {Key: "bb", Val: "9"}, l[2]}},
		{api.Cmd{Kind: api.CmdGet, Key: "c"}, l},
		{api.Cmd{Kind: api.CmdDel, Key: "a"}, l[1:]},
		{api.Cmd{Kind: api.CmdCas, Key: "a", Old: "1", Val: "9"}, l},
	} {
		got, a := wantDo(t, l, x.c)
		if !slices.Equal(got, x.want) || a.Rev != 0 {
			t.Errorf("%+v: %+v, %+v, want %+v", x.c, got, a, x.want)
		}
	}
}

// someCmd returns a random command about one of the keys of l, one beside them, or any other; most of them are puts, gets and dels.
func someCmd(r *rand.Rand, l []api.Pair) api.Cmd {
	c := api.Cmd{Kind: api.CmdPut + r.Intn(3), Client: 1 + r.Intn(8), Seq: 1 + r.Intn(1<<r.Intn(33)), Key: someKey(r)}
	if len(l) > 0 && r.Intn(2) == 0 {
		c.Key = l[r.Intn(len(l))].Key
	}
	if r.Intn(8) == 0 {
		c.Kind = r.Intn(10)
	}
	if c.Kind == api.CmdPut || c.Kind == api.CmdCas {
		c.Val = values[r.Intn(len(values))]
	}
	return c
}

// P23.1: random commands on random pairs, valid or not but for their order; the same call leads to the same again.
func TestDo(t *testing.T) {
	r := rand.New(rand.NewSource(3))
	counts := map[string]int{}
	for i := range 20000 {
		l := random(r, i%2 == 0)
		if i%5 == 0 {
			l = numbered(60 + r.Intn(8))
		}
		c := someCmd(r, l)
		got, a := wantDo(t, l, c)
		again, b := wantDo(t, l, c)
		if a != b || !slices.Equal(got, again) {
			t.Fatalf("Do(%+v, %+v) differs: %+v, %+v", l, c, a, b)
		}
		counts[fmt.Sprint(min(c.Kind, 5), a.Err, a.Found)]++
	}
	for _, what := range []string{"2 0 false", "2 0 true", "2 11 false", "3 0 false", "3 0 true", "4 0 false", "4 0 true", "5 8 false"} {
		if counts[what] < 200 {
			t.Errorf("too few of a kind: %v", counts)
		}
	}
}

// P23.1: for keys in no order nothing is promised but that the calls end and leave the list as it is.
func TestNoOrder(t *testing.T) {
	r := rand.New(rand.NewSource(4))
	for range 2000 {
		var l []api.Pair
		for range r.Intn(80) {
			l = append(l, api.Pair{Key: someKey(r), Val: "v", Rev: r.Intn(3)})
		}
		given, changed := roomy(l)
		for range 20 {
			c := someCmd(r, l)
			Find(given, c.Key)
			got, _ := Do(given, c)
			spoil(got)
		}
		Check(given)
		if changed() {
			t.Fatalf("%+v is changed", l)
		}
	}
}

// wantGet fails if a get of the key on l does not tell the value, or tells one though none is wanted, or has an effect.
func wantGet(t *testing.T, l []api.Pair, key, val string, is bool) {
	t.Helper()
	got, a := Do(l, api.Cmd{Kind: api.CmdGet, Client: 4, Seq: 6, Key: key})
	if want := (api.Answer{Client: 4, Seq: 6, Found: is, Val: val}); a != want || !slices.Equal(got, l) {
		t.Fatalf("get of %q on %+v is %+v, want %+v", key, l, a, want)
	}
	if p, found := Find(l, key); found != is || p.Val != val || is && p.Key != key {
		t.Fatalf("Find(%+v, %q) = %+v, %v", l, key, p, found)
	}
}

// P23.2: what was put is told by a get, behind any commands about other keys, until it is put again or deleted.
func TestAfterPut(t *testing.T) {
	r := rand.New(rand.NewSource(5))
	for range 2000 {
		key, first, second := someKey(r), values[r.Intn(len(values))], values[r.Intn(len(values))]
		l := random(r, true)
		l, a := Do(l, api.Cmd{Kind: api.CmdPut, Client: 1, Seq: 1, Key: key, Val: first})
		if a.Err != api.OK {
			t.Fatal(a)
		}
		l = disturbed(t, r, l, key, first, true)
		l, a = Do(l, api.Cmd{Kind: api.CmdPut, Client: 1, Seq: 2, Key: key, Val: second})
		if want := (api.Answer{Client: 1, Seq: 2, Found: true, Val: first}); a != want {
			t.Fatalf("%+v, want %+v", a, want)
		}
		l = disturbed(t, r, l, key, second, true)
		l, a = Do(l, api.Cmd{Kind: api.CmdDel, Client: 1, Seq: 3, Key: key})
		if want := (api.Answer{Client: 1, Seq: 3, Found: true, Val: second}); a != want {
			t.Fatalf("%+v, want %+v", a, want)
		}
		disturbed(t, r, l, key, "", false)
	}
}

// disturbed returns the pairs after some commands that are not to change the key's, whose value is asked for behind each.
func disturbed(t *testing.T, r *rand.Rand, l []api.Pair, key, val string, is bool) []api.Pair {
	t.Helper()
	wantGet(t, l, key, val, is)
	for range r.Intn(10) {
		c := someCmd(r, l)
		if c.Key == key && (c.Kind == api.CmdPut || c.Kind == api.CmdDel) {
			c.Kind = api.CmdCas
		}
		l, _ = Do(l, c)
		wantGet(t, l, key, val, is)
	}
	return l
}

// P23.2: a course of commands: each changes its own key's pair alone, the pairs are those that were put last, and they are valid all the time.
func TestCourse(t *testing.T) {
	r := rand.New(rand.NewSource(6))
	counts := map[api.Errno]int{}
	for range 20 {
		var l []api.Pair
		vals := map[string]string{}
		for range 400 {
			c := someCmd(r, l)
			if c.Kind == api.CmdDel && r.Intn(8) > 0 {
				c.Kind = api.CmdPut
			}
			old, is := vals[c.Key]
			want := api.Answer{Client: c.Client, Seq: c.Seq, Found: is, Val: old}
			switch {
			case c.Kind == api.CmdPut && !is && len(vals) == most:
				want.Err = api.ErrFull
			case c.Kind == api.CmdPut:
				vals[c.Key] = c.Val
			case c.Kind == api.CmdDel:
				delete(vals, c.Key)
			case c.Kind != api.CmdGet:
				want = api.Answer{Client: c.Client, Seq: c.Seq, Err: api.ErrVersion}
			}
			got, a := Do(l, c)
			if a != want {
				t.Fatalf("Do(%+v, %+v) answers %+v, want %+v", l, c, a, want)
			}
			counts[a.Err]++
			wantOthers(t, l, got, c.Key)
			if l = got; Check(l) != api.OK || len(l) != len(vals) {
				t.Fatalf("%+v is not valid, or not %d pairs", l, len(vals))
			}
			for _, p := range l {
				wantGet(t, l, p.Key, vals[p.Key], true)
			}
		}
	}
	if counts[api.OK] < 4000 || counts[api.ErrFull] < 100 || counts[api.ErrVersion] < 400 {
		t.Errorf("too few of a kind: %v", counts)
	}
}

// wantOthers fails if the pairs of all keys but the given one are not the same in both lists.
func wantOthers(t *testing.T, l, after []api.Pair, key string) {
	t.Helper()
	own := func(p api.Pair) bool { return p.Key == key }
	if got, want := slices.DeleteFunc(slices.Clone(after), own), slices.DeleteFunc(slices.Clone(l), own); !slices.Equal(got, want) {
		t.Fatalf("a command about %q makes %+v of %+v", key, after, l)
	}
}
