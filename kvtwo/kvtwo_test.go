package kvtwo

import (
	"bytes"
	"fmt"
	"maps"
	"math"
	"math/rand"
	"slices"
	"strings"
	"testing"

	"changeover/api"
	"changeover/kvone"
)

// The limits of the chapters, written out.
const (
	keyBytes = 24
	valBytes = 48
	most     = 64
	maxRev   = 4294967296
)

// keys, in the order of their bytes, and strings that are none.
var (
	keys  = []string{"-", "--", "-a", ".", "0", "00", "1", "10", "2", ":", "A", "Z", "Za", "_", "a", "a-", "aa", "aaa", "ab", "b", "z", strings.Repeat("z", keyBytes), "¡", "é", "é1", strings.Repeat("é", keyBytes/2), "€", "\ufffc", "\uffff", "\U00010000", "\U0010ffff"}
	noKey = []string{"", " ", "a b", "a/b", "\"", "a\n", "\x00", "~", "\x7f", "\u00a0", "\ufffd", "a\ufffd", "\xff", "\x80", "a\xe2\x82", "\xed\xa0\x80", "\xc0\x80", strings.Repeat("z", keyBytes+1), strings.Repeat("é", keyBytes/2) + "z"}
)

// values, and strings that are none.
var (
	values = []string{"", "x", " ", "a b", "~", "\"", "é", "€", "\u00a0", "\ufffd", "\U0010ffff", strings.Repeat("v", valBytes), strings.Repeat("é", valBytes/2)}
	noVal  = []string{"\x00", "\n", "\x1f", "a\x7f", "\xff", "\x80", "a\xe2\x82", "\xed\xa0\x80", "\xc0\x80", "\xf4\x90\x80\x80", strings.Repeat("v", valBytes+1), strings.Repeat("é", valBytes/2) + "v"}
)

// revs, at the limits and beside them, and numbers that are none.
var (
	revs  = []int{1, 2, 3, 127, 128, 255, 256, 257, 1 << 16, math.MaxInt32, math.MaxInt32 + 1, math.MaxUint32 - 1, math.MaxUint32, maxRev - 1, maxRev}
	noRev = []int{math.MinInt, math.MinInt + 1, -maxRev - 1, -maxRev, -maxRev + 1, -255, -2, -1, 0, maxRev + 1, maxRev + 2, 2 * maxRev, 2*maxRev + 1, math.MaxInt - 1, math.MaxInt}
)

// numbered returns n valid pairs; their keys have odd numbers, so that each gap has a key of its own.
func numbered(n int) []api.Pair {
	var l []api.Pair
	for i := range n {
		l = append(l, api.Pair{Key: name(2*i + 1), Val: fmt.Sprint("v", i), Rev: i + 1})
	}
	return l
}

// name returns a key; the order of the keys is that of their numbers.
func name(n int) string {
	return fmt.Sprintf("k%04d", n)
}

// before reports whether the key a is ahead of b, byte by byte.
func before(a, b string) bool {
	return bytes.Compare([]byte(a), []byte(b)) < 0
}

// isPair reports whether p is valid in schema 2: keys and values come from the lists above, or are made valid.
func isPair(p api.Pair) bool {
	return !slices.Contains(noKey, p.Key) && !slices.Contains(noVal, p.Val) && 0 < p.Rev && p.Rev <= maxRev
}

// checked returns what Check is to return: every pair is tried by itself, and against all behind it.
func checked(l []api.Pair) api.Errno {
	if len(l) > most {
		return api.ErrForm
	}
	for i, p := range l {
		if !isPair(p) {
			return api.ErrForm
		}
		for _, behind := range l[i+1:] {
			if !before(p.Key, behind.Key) {
				return api.ErrForm
			}
		}
	}
	return api.OK
}

// risen returns the revision that a changed pair is to have.
func risen(rev int) int {
	if rev < maxRev {
		return rev + 1
	}
	return rev
}

// done returns what Do is to return, by a map from keys to pairs.
func done(l []api.Pair, c api.Cmd) ([]api.Pair, api.Answer) {
	by := map[string]api.Pair{}
	for _, p := range l {
		by[p.Key] = p
	}
	a := api.Answer{Client: c.Client, Seq: c.Seq}
	old, is := by[c.Key]
	if is && c.Kind >= 2 && c.Kind <= 5 {
		a.Found, a.Val = true, old.Val
	}
	switch {
	case c.Kind < 2 || c.Kind > 5:
		a.Err = 8
	case c.Kind == 2 && !is && len(l) >= most:
		a.Err = 11
	case c.Kind == 2 && !is:
		by[c.Key] = api.Pair{Key: c.Key, Val: c.Val, Rev: 1}
	case c.Kind == 2:
		by[c.Key] = api.Pair{Key: c.Key, Val: c.Val, Rev: risen(old.Rev)}
	case c.Kind == 4:
		delete(by, c.Key)
	case c.Kind == 5 && !is:
		a.Err = 10
	case c.Kind == 5 && old.Val != c.Old:
		a.Err, a.Rev = 15, old.Rev
	case c.Kind == 5:
		a.Rev = risen(old.Rev)
		by[c.Key] = api.Pair{Key: c.Key, Val: c.Val, Rev: risen(old.Rev)}
	}
	return sorted(by), a
}

// sorted returns the pairs of the map, by their keys.
func sorted(by map[string]api.Pair) []api.Pair {
	var l []api.Pair
	for _, key := range slices.SortedFunc(maps.Keys(by), func(a, b string) int { return bytes.Compare([]byte(a), []byte(b)) }) {
		l = append(l, by[key])
	}
	return l
}

// mark stands in memory that nothing may write to.
var mark = api.Pair{Key: "mark", Val: "beyond", Rev: 77}

// roomy returns a copy of l with room beyond its end, and what tells whether anything in it has changed.
func roomy(l []api.Pair) ([]api.Pair, func() bool) {
	all := append(slices.Clone(l), mark, mark, mark)
	first := slices.Clone(all)
	return all[:len(l)], func() bool { return !slices.Equal(all, first) }
}

// spoil overwrites a result, and the memory beyond its end.
func spoil(l []api.Pair) {
	l = l[:cap(l)]
	for i := range l {
		l[i] = api.Pair{Key: "spoilt", Val: "spoilt", Rev: -5}
	}
}

// wantCheck fails if Check of l is not as it is to be, or changes l.
func wantCheck(t *testing.T, l []api.Pair, want api.Errno) {
	t.Helper()
	given, changed := roomy(l)
	if got := Check(given); got != want {
		t.Fatalf("Check(%+v) = %d, want %d", l, got, want)
	}
	if changed() {
		t.Fatalf("Check changed %+v", l)
	}
}

// wantDo fails if Do of l and c is not as done tells, or its result shares memory with l; it returns the result.
func wantDo(t *testing.T, l []api.Pair, c api.Cmd) ([]api.Pair, api.Answer) {
	t.Helper()
	want, wantAnswer := done(l, c)
	given, changed := roomy(l)
	got, a := Do(given, c)
	if a != wantAnswer {
		t.Fatalf("Do(%+v, %+v) answers %+v, want %+v", l, c, a, wantAnswer)
	}
	if !slices.Equal(got, want) {
		t.Fatalf("Do(%+v, %+v) = %+v, want %+v", l, c, got, want)
	}
	out := slices.Clone(got)
	spoil(got)
	if changed() {
		t.Fatalf("Do(%+v, %+v) changes the list, or shares its memory", l, c)
	}
	return out, a
}

// random returns random pairs with strictly ascending keys; they are valid if plain, and may have anything beside their order otherwise.
func random(r *rand.Rand, plain bool) []api.Pair {
	by := map[string]api.Pair{}
	for range r.Intn(1 << r.Intn(7)) {
		p := api.Pair{Key: someKey(r), Val: some(r, values), Rev: some(r, revs)}
		if !plain && r.Intn(3) == 0 {
			p.Key = some(r, noKey)
		}
		if !plain && r.Intn(3) == 0 {
			p.Val = some(r, noVal)
		}
		if !plain && r.Intn(3) == 0 {
			p.Rev = some(r, noRev)
		}
		by[p.Key] = p
	}
	return sorted(by)
}

// some returns one of the elements.
func some[T any](r *rand.Rand, of []T) T {
	return of[r.Intn(len(of))]
}

// someKey returns a key of the list, a numbered one, or two of them as one, if that is not too long.
func someKey(r *rand.Rand) string {
	switch key := some(r, keys); {
	case r.Intn(2) == 0:
		return key
	case len(key) > keyBytes/2:
		return name(r.Intn(100))
	default:
		return key + name(r.Intn(10))
	}
}

// someCmd returns a random command about one of the keys of l, or any other; most of them are puts, gets, dels and swaps, and half of the swaps of pairs of l have the value that is there.
func someCmd(r *rand.Rand, l []api.Pair) api.Cmd {
	c := api.Cmd{Kind: api.CmdPut + r.Intn(4), Client: 1 + r.Intn(8), Seq: 1 + r.Intn(1<<r.Intn(33)), Key: someKey(r)}
	if r.Intn(8) == 0 {
		c.Kind = r.Intn(10)
	}
	if c.Kind == api.CmdPut || c.Kind == api.CmdCas {
		c.Val = some(r, values)
	}
	if c.Kind == api.CmdCas {
		c.Old = some(r, values)
	}
	if len(l) > 0 && r.Intn(2) == 0 {
		p := some(r, l)
		c.Key = p.Key
		if c.Kind == api.CmdCas && r.Intn(2) == 0 {
			c.Old = p.Val
		}
	}
	return c
}

// P24.1: no pairs are valid, and so is each single one with all fields at their limits.
func TestCheckValid(t *testing.T) {
	wantCheck(t, nil, api.OK)
	wantCheck(t, []api.Pair{}, api.OK)
	for _, key := range keys {
		for _, val := range values {
			for _, rev := range revs {
				wantCheck(t, []api.Pair{{Key: key, Val: val, Rev: rev}}, api.OK)
			}
		}
	}
	var all []api.Pair
	for i, key := range keys {
		all = append(all, api.Pair{Key: key, Val: values[i%len(values)], Rev: revs[i%len(revs)]})
	}
	for i := range all {
		wantCheck(t, all[i:], api.OK)
		wantCheck(t, all[:i+1], api.OK)
		wantCheck(t, slices.Delete(slices.Clone(all), i, i+1), api.OK)
	}
}

// wantForm fails if p is taken as valid where all else is, wherever it stands: first, between, last, alone.
func wantForm(t *testing.T, p api.Pair) {
	t.Helper()
	ahead := []api.Pair{{Key: "-", Rev: 1}, {Key: "--", Rev: maxRev}}
	behind := []api.Pair{{Key: "\U0010fffe", Rev: maxRev}, {Key: "\U0010ffff", Rev: 1}}
	wantCheck(t, slices.Concat(ahead, behind), api.OK)
	wantCheck(t, []api.Pair{p}, api.ErrForm)
	wantCheck(t, append(slices.Clone(ahead), p), api.ErrForm)
	wantCheck(t, append([]api.Pair{p}, behind...), api.ErrForm)
	wantCheck(t, slices.Concat(ahead, []api.Pair{p}, behind), api.ErrForm)
}

// P24.1: a key, a value or a revision that is not valid is found, wherever it stands; so is the revision of schema 1.
func TestCheckFields(t *testing.T) {
	for _, key := range noKey {
		wantForm(t, api.Pair{Key: key, Val: "v", Rev: 1})
	}
	for _, val := range noVal {
		wantForm(t, api.Pair{Key: "m", Val: val, Rev: 1})
	}
	for _, rev := range noRev {
		wantForm(t, api.Pair{Key: "m", Val: "v", Rev: rev})
	}
	for rev := -300; rev <= 300; rev++ {
		want := api.OK
		if rev <= 0 {
			want = api.ErrForm
		}
		wantCheck(t, []api.Pair{{Key: "m", Val: "v", Rev: rev}}, want)
	}
}

// P24.1: there may be 64 pairs, and no more, though each is valid.
func TestCheckMost(t *testing.T) {
	for n := range 300 {
		want := api.OK
		if n > most {
			want = api.ErrForm
		}
		wantCheck(t, numbered(n), want)
	}
}

// P24.1: keys that do not ascend strictly, byte by byte, are found: every order of up to three keys.
func TestCheckOrder(t *testing.T) {
	ascending := 0
	for _, one := range keys {
		for _, two := range keys {
			l := []api.Pair{{Key: one, Rev: 1}, {Key: two, Rev: 2}}
			want := api.ErrForm
			if before(one, two) {
				want = api.OK
			}
			wantCheck(t, l, want)
			for _, three := range keys {
				more := append(slices.Clone(l), api.Pair{Key: three, Rev: 3})
				want := checked(more)
				wantCheck(t, more, want)
				if want == api.OK {
					ascending++
				}
			}
		}
	}
	if n := len(keys); ascending != n*(n-1)*(n-2)/6 {
		t.Errorf("%d lists ascend", ascending)
	}
}

// P24.1: random pairs, of which one field is changed or two are exchanged.
func TestCheckRandom(t *testing.T) {
	r := rand.New(rand.NewSource(1))
	counts := map[api.Errno]int{}
	for range 20000 {
		l := random(r, true)
		if len(l) > 0 && r.Intn(2) == 0 {
			disturb(r, l)
		}
		want := checked(l)
		wantCheck(t, l, want)
		counts[want]++
	}
	if counts[api.OK] < 8000 || counts[api.ErrForm] < 5000 {
		t.Errorf("too few of a kind: %v", counts)
	}
}

// disturb changes something in l, which may be valid still.
func disturb(r *rand.Rand, l []api.Pair) {
	i, j := r.Intn(len(l)), r.Intn(len(l))
	switch r.Intn(6) {
	case 0:
		l[i].Key = some(r, noKey)
	case 1:
		l[i].Val = some(r, noVal)
	case 2:
		l[i].Rev = some(r, noRev)
	case 3:
		l[i].Rev = some(r, revs)
	case 4:
		l[i].Key = l[j].Key
	case 5:
		l[i], l[j] = l[j], l[i]
	}
}

// P24.1: the example of the chapter, and what follows it, with whole answers and the pairs after each command.
func TestDoExample(t *testing.T) {
	one := func(val string, rev int) []api.Pair { return []api.Pair{{Key: "a", Val: val, Rev: rev}} }
	var l []api.Pair
	for i, x := range []struct {
		c    api.Cmd
		a    api.Answer
		want []api.Pair
	}{
		{api.Cmd{Kind: api.CmdCas, Key: "a", Old: "1", Val: "3"}, api.Answer{Err: api.ErrNone}, nil},
		{api.Cmd{Kind: api.CmdCas, Key: "a"}, api.Answer{Err: api.ErrNone}, nil},
		{api.Cmd{Kind: api.CmdPut, Key: "a", Val: "1"}, api.Answer{}, one("1", 1)},
		{api.Cmd{Kind: api.CmdPut, Key: "a", Val: "2"}, api.Answer{Found: true, Val: "1"}, one("2", 2)},
		{api.Cmd{Kind: api.CmdCas, Key: "a", Old: "1", Val: "3"}, api.Answer{Err: api.ErrStale, Found: true, Val: "2", Rev: 2}, one("2", 2)},
		{api.Cmd{Kind: api.CmdCas, Key: "a", Old: "2", Val: "3"}, api.Answer{Found: true, Val: "2", Rev: 3}, one("3", 3)},
		{api.Cmd{Kind: api.CmdCas, Key: "a", Old: "2", Val: "3"}, api.Answer{Err: api.ErrStale, Found: true, Val: "3", Rev: 3}, one("3", 3)},
		{api.Cmd{Kind: api.CmdCas, Key: "a", Old: "3", Val: "3"}, api.Answer{Found: true, Val: "3", Rev: 4}, one("3", 4)},
		{api.Cmd{Kind: api.CmdGet, Key: "a"}, api.Answer{Found: true, Val: "3"}, one("3", 4)},
		{api.Cmd{Kind: api.CmdPut, Key: "a", Val: ""}, api.Answer{Found: true, Val: "3"}, one("", 5)},
		{api.Cmd{Kind: api.CmdGet, Key: "a"}, api.Answer{Found: true}, one("", 5)},
		{api.Cmd{Kind: api.CmdCas, Key: "a", Old: "3", Val: "4"}, api.Answer{Err: api.ErrStale, Found: true, Rev: 5}, one("", 5)},
		{api.Cmd{Kind: api.CmdCas, Key: "a", Old: "", Val: "4"}, api.Answer{Found: true, Rev: 6}, one("4", 6)},
		{api.Cmd{Kind: api.CmdCas, Key: "a", Old: "", Val: "5"}, api.Answer{Err: api.ErrStale, Found: true, Val: "4", Rev: 6}, one("4", 6)},
		{api.Cmd{Kind: api.CmdDel, Key: "a"}, api.Answer{Found: true, Val: "4"}, nil},
		{api.Cmd{Kind: api.CmdDel, Key: "a"}, api.Answer{}, nil},
		{api.Cmd{Kind: api.CmdGet, Key: "a"}, api.Answer{}, nil},
		{api.Cmd{Kind: api.CmdCas, Key: "a", Old: "4", Val: "5"}, api.Answer{Err: api.ErrNone}, nil},
		{api.Cmd{Kind: api.CmdPut, Key: "a", Val: "6"}, api.Answer{}, one("6", 1)},
		{api.Cmd{Kind: api.CmdNop}, api.Answer{Err: api.ErrVersion}, one("6", 1)},
	} {
		x.c.Client, x.c.Seq = 3, i+1
		x.a.Client, x.a.Seq = 3, i+1
		got, a := wantDo(t, l, x.c)
		if a != x.a || !slices.Equal(got, x.want) {
			t.Errorf("%d: Do(%+v, %+v) = %+v, %+v, want %+v, %+v", i, l, x.c, got, a, x.want, x.a)
		}
		if err := Check(got); err != api.OK {
			t.Errorf("%d: Check(%+v) = %d", i, got, err)
		}
		l = got
	}
}

// told returns keys, values and revisions of the pairs, one behind the other.
func told(l []api.Pair) string {
	out := ""
	for _, p := range l {
		out += fmt.Sprint(p.Key, p.Val, p.Rev)
	}
	return out
}

// P24.1: ahead of all, between two, behind all, and in place of each: one pair is changed, all others stay.
func TestDoPlaces(t *testing.T) {
	l := []api.Pair{{Key: "b", Val: ".", Rev: 7}, {Key: "d", Val: ".", Rev: 8}, {Key: "f", Val: ".", Rev: 9}}
	for _, x := range []struct{ key, put, cas, del string }{
		{"a", "a*1b.7d.8f.9", "", "b.7d.8f.9"},
		{"b", "b*8d.8f.9", "b*8d.8f.9", "d.8f.9"},
		{"c", "b.7c*1d.8f.9", "", "b.7d.8f.9"},
		{"d", "b.7d*9f.9", "b.7d*9f.9", "b.7f.9"},
		{"e", "b.7d.8e*1f.9", "", "b.7d.8f.9"},
		{"f", "b.7d.8f*10", "b.7d.8f*10", "b.7d.8"},
		{"g", "b.7d.8f.9g*1", "", "b.7d.8f.9"},
		{"bb", "b.7bb*1d.8f.9", "", "b.7d.8f.9"},
		{"B", "B*1b.7d.8f.9", "", "b.7d.8f.9"},
		{"é", "b.7d.8f.9é*1", "", "b.7d.8f.9"},
	} {
		if x.cas == "" {
			x.cas = "b.7d.8f.9"
		}
		for kind, want := range map[int]string{api.CmdPut: x.put, api.CmdGet: "b.7d.8f.9", api.CmdDel: x.del, api.CmdCas: x.cas} {
			got, _ := wantDo(t, l, api.Cmd{Kind: kind, Client: 1, Seq: 2, Key: x.key, Val: "*", Old: "."})
			if told(got) != want {
				t.Errorf("kind %d of %s: %s, want %s", kind, x.key, told(got), want)
			}
		}
		if got, _ := wantDo(t, l, api.Cmd{Kind: api.CmdCas, Client: 1, Seq: 2, Key: x.key, Val: "*", Old: "*"}); told(got) != "b.7d.8f.9" {
			t.Errorf("stale swap of %s: %s", x.key, told(got))
		}
	}
}

// P24.1: of no pairs at all, nil or not, each command leads to memory of its own.
func TestDoNone(t *testing.T) {
	for _, l := range [][]api.Pair{nil, {}, numbered(1)[:0]} {
		for kind := range 10 {
			wantDo(t, l, api.Cmd{Kind: kind, Client: 2, Seq: 5, Key: "a", Val: "2"})
		}
	}
}

// P24.1: a new key is put when there are 63 pairs, and refused when there are 64; all else is as ever then, and a swap is never refused for want of room.
func TestDoFull(t *testing.T) {
	for _, n := range []int{0, 1, 62, 63, 64, 65, 66, 128, 200} {
		l := numbered(n)
		for i := range 2*n + 1 {
			is := i%2 == 1
			c := api.Cmd{Client: 1, Seq: 2, Key: name(i), Val: "new", Old: fmt.Sprint("v", i/2)}
			want := map[int]api.Errno{api.CmdPut: api.OK, api.CmdGet: api.OK, api.CmdDel: api.OK, api.CmdCas: api.OK}
			if !is {
				want[api.CmdCas] = api.ErrNone
			}
			if !is && n >= most {
				want[api.CmdPut] = api.ErrFull
			}
			for kind, err := range want {
				c.Kind = kind
				got, a := wantDo(t, l, c)
				if a.Err != err || a.Found != is {
					t.Fatalf("%d pairs, kind %d of %s: %+v, want %d", n, kind, c.Key, a, err)
				}
				if err != api.OK && (!slices.Equal(got, l) || a != (api.Answer{Client: 1, Seq: 2, Err: err})) {
					t.Fatalf("%d pairs, kind %d of %s: has an effect, or %+v", n, kind, c.Key, a)
				}
			}
		}
	}
}

// P24.1: every kind but put, get, del and cas has no effect, whatever else the command has: ErrVersion, and nothing is found.
func TestDoKinds(t *testing.T) {
	kinds := slices.Concat(revs, noRev, []int{1<<8 + api.CmdPut, 1<<16 + api.CmdGet, 1<<32 + api.CmdDel, 1<<32 + api.CmdCas})
	for kind := -300; kind <= 300; kind++ {
		kinds = append(kinds, kind)
	}
	for _, kind := range kinds {
		for _, l := range [][]api.Pair{nil, numbered(1), {{Key: "a", Val: "1", Rev: 1}, {Key: "b", Val: "2", Rev: maxRev}}, numbered(most)} {
			for _, c := range []api.Cmd{
				{},
				{Client: 1, Seq: 2, Key: "a", Old: "1"},
				{Client: 8, Seq: 1 << 32, Key: "b", Old: "2", Val: "3"},
				{Client: -1, Seq: -2, Key: name(1), Old: "v0", Val: "3", Node: 4},
				{Key: "zz", Val: "new"},
				{Node: 3},
			} {
				c.Kind = kind
				got, a := wantDo(t, l, c)
				if kind >= api.CmdPut && kind <= api.CmdCas {
					continue
				}
				if want := (api.Answer{Client: c.Client, Seq: c.Seq, Err: api.ErrVersion}); a != want || !slices.Equal(got, l) {
					t.Fatalf("Do(%+v, %+v) = %+v, %+v", l, c, got, a)
				}
			}
		}
	}
}

// P24.1: an answer has the numbers of the command, whatever they are and whatever it comes to.
func TestDoNumbers(t *testing.T) {
	l := numbered(most)
	numbers := slices.Concat(revs, noRev)
	for _, client := range numbers {
		for _, seq := range numbers {
			for kind := range 7 {
				for _, key := range []string{name(1), name(2)} {
					for _, old := range []string{"v0", "v1"} {
						_, a := wantDo(t, l, api.Cmd{Kind: kind, Client: client, Seq: seq, Key: key, Old: old})
						if a.Client != client || a.Seq != seq {
							t.Fatalf("kind %d, key %s: %+v, want %d, %d", kind, key, a, client, seq)
						}
					}
				}
			}
		}
	}
}

// P24.1: the revision rises by 1 with each put and each swap that has an effect, stays at its limit, and is told by swaps alone.
func TestDoRevs(t *testing.T) {
	for _, x := range []struct{ rev, want int }{
		{1, 2}, {2, 3}, {255, 256}, {math.MaxInt32, math.MaxInt32 + 1}, {math.MaxUint32, maxRev},
		{maxRev - 2, maxRev - 1}, {maxRev - 1, maxRev}, {maxRev, maxRev},
		{maxRev + 1, maxRev + 1}, {2 * maxRev, 2 * maxRev}, {math.MaxInt - 1, math.MaxInt - 1}, {math.MaxInt, math.MaxInt},
		{0, 1}, {-1, 0}, {-maxRev, -maxRev + 1}, {math.MinInt, math.MinInt + 1},
	} {
		ahead, behind := api.Pair{Key: "a", Val: "v", Rev: 3}, api.Pair{Key: "c", Val: "v", Rev: 4}
		l := []api.Pair{ahead, {Key: "b", Val: "v", Rev: x.rev}, behind}
		set := []api.Pair{ahead, {Key: "b", Val: "w", Rev: x.want}, behind}
		found := api.Answer{Client: 1, Seq: 2, Found: true, Val: "v"}
		swapped, stale := found, found
		swapped.Rev = x.want
		stale.Err, stale.Rev = api.ErrStale, x.rev
		for _, y := range []struct {
			c    api.Cmd
			want []api.Pair
			a    api.Answer
		}{
			{api.Cmd{Kind: api.CmdPut, Val: "w"}, set, found},
			{api.Cmd{Kind: api.CmdCas, Old: "v", Val: "w"}, set, swapped},
			{api.Cmd{Kind: api.CmdCas, Old: "w", Val: "w"}, l, stale},
			{api.Cmd{Kind: api.CmdGet}, l, found},
			{api.Cmd{Kind: api.CmdDel}, []api.Pair{ahead, behind}, found},
			{api.Cmd{Kind: api.CmdNop}, l, api.Answer{Client: 1, Seq: 2, Err: api.ErrVersion}},
		} {
			y.c.Client, y.c.Seq, y.c.Key = 1, 2, "b"
			got, a := wantDo(t, l, y.c)
			if !slices.Equal(got, y.want) || a != y.a {
				t.Errorf("Rev %d, %+v: %+v, %+v, want %+v, %+v", x.rev, y.c, got, a, y.want, y.a)
			}
		}
	}
}

// P24.1: a new pair's revision is 1, whatever the others have, and whatever the key's had before it was deleted.
func TestDoNew(t *testing.T) {
	for _, rev := range slices.Concat(revs, noRev) {
		l := []api.Pair{{Key: "a", Val: "v", Rev: rev}, {Key: "c", Val: "v", Rev: rev}}
		put := api.Cmd{Kind: api.CmdPut, Client: 1, Seq: 2, Key: "b", Val: "w"}
		got, a := wantDo(t, l, put)
		if want := (api.Pair{Key: "b", Val: "w", Rev: 1}); len(got) != 3 || got[1] != want || a != (api.Answer{Client: 1, Seq: 2}) {
			t.Errorf("%+v, %+v", got, a)
		}
		got, _ = wantDo(t, l, api.Cmd{Kind: api.CmdDel, Key: "a"})
		put.Key = "a"
		got, _ = wantDo(t, got, put)
		if want := (api.Pair{Key: "a", Val: "w", Rev: 1}); got[0] != want {
			t.Errorf("%+v", got)
		}
	}
}

// P24.1: what a command has beside its kind's fields counts for nothing, and its key and its values are taken as they are.
func TestDoOdd(t *testing.T) {
	l := []api.Pair{{Key: "", Val: "\xff", Rev: 1}, {Key: "a", Val: "1", Rev: 2}, {Key: "a/b", Val: "2", Rev: 3}, {Key: "\xff", Val: "", Rev: 4}}
	for _, key := range append(slices.Concat(keys, noKey), "a/b", "a/c", "\xff\xff") {
		for _, val := range slices.Concat(values, noVal) {
			for kind := range 6 {
				for _, old := range []string{"", "1", "2", "\xff", val} {
					plain := api.Cmd{Kind: kind, Client: 1, Seq: 2, Key: key, Val: val, Old: old}
					got, a := wantDo(t, l, plain)
					plain.Node = 5
					if kind != api.CmdCas {
						plain.Old = "other"
					}
					again, b := wantDo(t, l, plain)
					if a != b || !slices.Equal(got, again) {
						t.Fatalf("Old or Node counts: %+v, %+v", plain, b)
					}
				}
			}
		}
	}
}

// P24.1: random commands on random pairs, valid or not but for their order; the same call leads to the same again.
func TestDo(t *testing.T) {
	r := rand.New(rand.NewSource(3))
	counts := map[string]int{}
	for i := range 20000 {
		l := random(r, i%2 == 0)
		if i%5 == 0 {
			l = numbered(60 + r.Intn(8))
		}
		c := someCmd(r, l)
		got, a := wantDo(t, l, c)
		again, b := wantDo(t, l, c)
		if a != b || !slices.Equal(got, again) {
			t.Fatalf("Do(%+v, %+v) differs: %+v, %+v", l, c, a, b)
		}
		counts[fmt.Sprint(min(c.Kind, 6), a.Err, a.Found)]++
	}
	for _, what := range []string{
		"2 0 false", "2 0 true", "2 11 false", "3 0 false", "3 0 true", "4 0 false", "4 0 true",
		"5 10 false", "5 15 true", "5 0 true", "6 8 false",
	} {
		if counts[what] < 200 {
			t.Errorf("too few of a kind: %v", counts)
		}
	}
}

// P24.1: for keys in no order nothing is promised but that the calls end and leave the list as it is.
func TestNoOrder(t *testing.T) {
	r := rand.New(rand.NewSource(4))
	for range 2000 {
		var l []api.Pair
		for range r.Intn(80) {
			l = append(l, api.Pair{Key: someKey(r), Val: "v", Rev: r.Intn(3)})
		}
		given, changed := roomy(l)
		for range 20 {
			got, _ := Do(given, someCmd(r, l))
			spoil(got)
		}
		Check(given)
		spoil(Plain(given))
		if changed() {
			t.Fatalf("%+v is changed", l)
		}
	}
}

// wantPlain fails if Plain of l is not l but for its revisions, or shares memory with it.
func wantPlain(t *testing.T, l []api.Pair) []api.Pair {
	t.Helper()
	given, changed := roomy(l)
	got := Plain(given)
	if len(got) != len(l) {
		t.Fatalf("Plain(%+v) = %+v", l, got)
	}
	for i, p := range got {
		if want := (api.Pair{Key: l[i].Key, Val: l[i].Val}); p != want {
			t.Fatalf("Plain(%+v) = %+v", l, got)
		}
	}
	out := slices.Clone(got)
	spoil(got)
	if changed() {
		t.Fatalf("Plain(%+v) changes the list, or shares its memory", l)
	}
	return out
}

// P24.1: all revisions are set to 0, in any list, and nothing else is touched: no order, no length, no field that is not valid.
func TestPlain(t *testing.T) {
	for _, l := range [][]api.Pair{nil, {}, numbered(1)[:0], numbered(1), numbered(most), numbered(200)} {
		wantPlain(t, l)
	}
	wantPlain(t, []api.Pair{{Key: "b", Val: "1", Rev: 3}, {Key: "a", Val: "2", Rev: 2}, {Key: "a", Rev: 1}, {}})
	for _, key := range slices.Concat(keys, noKey) {
		for _, val := range slices.Concat(values, noVal) {
			for _, rev := range slices.Concat(revs, noRev) {
				wantPlain(t, []api.Pair{{Key: key, Val: val, Rev: rev}})
			}
		}
	}
}

// P24.1: the result for a valid list with at least one pair is not valid in schema 2, but in schema 1; for none it is in both.
func TestPlainSchema(t *testing.T) {
	r := rand.New(rand.NewSource(5))
	counts := map[api.Errno]int{}
	for range 5000 {
		l := random(r, true)
		got := wantPlain(t, l)
		want := api.ErrForm
		if len(l) == 0 {
			want = api.OK
		}
		wantCheck(t, got, want)
		if err := kvone.Check(got); err != api.OK {
			t.Fatalf("%+v is not valid in schema 1: %d", got, err)
		}
		if again := wantPlain(t, got); !slices.Equal(again, got) {
			t.Fatalf("Plain(%+v) = %+v", got, again)
		}
		counts[want]++
	}
	if counts[api.OK] < 500 || counts[api.ErrForm] < 3000 {
		t.Errorf("too few of a kind: %v", counts)
	}
}

// P24.2: courses of commands of V1 lead to the same answers in both schemas, and to the same pairs but for revisions.
func TestSchemaOne(t *testing.T) {
	r := rand.New(rand.NewSource(6))
	counts := map[api.Errno]int{}
	for range 100 {
		two := random(r, true)
		one := Plain(two)
		for range 400 {
			c := someCmd(r, two)
			if c.Kind == api.CmdCas {
				continue
			}
			if c.Kind == api.CmdDel && r.Intn(8) > 0 {
				c.Kind = api.CmdPut
			}
			var a, b api.Answer
			two, a = Do(two, c)
			one, b = kvone.Do(one, c)
			if a != b {
				t.Fatalf("%+v answers %+v in schema 2 and %+v in schema 1", c, a, b)
			}
			if !slices.Equal(Plain(two), one) {
				t.Fatalf("%+v leads to %+v in schema 2 and %+v in schema 1", c, two, one)
			}
			counts[a.Err]++
		}
	}
	if counts[api.OK] < 10000 || counts[api.ErrFull] < 200 || counts[api.ErrVersion] < 1000 {
		t.Errorf("too few of a kind: %v", counts)
	}
}

// P24.2: a swap has an effect exactly if the value is the old one, byte by byte: every value against every other.
func TestSwap(t *testing.T) {
	all := slices.Concat(values, noVal, []string{"X", "x ", " x", "xx", "e\u0301", "É"})
	for _, is := range all {
		for _, old := range all {
			for _, val := range []string{is, old, "new", ""} {
				l := []api.Pair{{Key: "a", Val: old, Rev: 1}, {Key: "b", Val: is, Rev: 5}, {Key: "c", Val: old, Rev: 2}}
				got, a := wantDo(t, l, api.Cmd{Kind: api.CmdCas, Client: 1, Seq: 2, Key: "b", Old: old, Val: val})
				want := slices.Clone(l)
				wantAnswer := api.Answer{Client: 1, Seq: 2, Err: api.ErrStale, Found: true, Val: is, Rev: 5}
				if is == old {
					want[1].Val, want[1].Rev = val, 6
					wantAnswer.Err, wantAnswer.Rev = api.OK, 6
				}
				if !slices.Equal(got, want) || a != wantAnswer {
					t.Fatalf("swap of %q for %q where %q is: %+v, %+v", old, val, is, got, a)
				}
			}
		}
	}
}

// P24.2: in courses of any commands no revision decreases while its pair exists, each changes with its pair alone, and valid pairs stay valid.
func TestCourse(t *testing.T) {
	r := rand.New(rand.NewSource(7))
	counts := map[api.Errno]int{}
	atLimit := 0
	for range 50 {
		l := random(r, true)
		for range 400 {
			c := someCmd(r, l)
			if c.Kind == api.CmdDel && r.Intn(8) > 0 {
				c.Kind = api.CmdPut
			}
			got, a := wantDo(t, l, c)
			counts[a.Err]++
			atLimit += wantRevs(t, l, got, c)
			if l = got; Check(l) != api.OK {
				t.Fatalf("%+v is not valid", l)
			}
		}
	}
	for err, least := range map[api.Errno]int{api.OK: 10000, api.ErrFull: 50, api.ErrNone: 500, api.ErrStale: 500, api.ErrVersion: 500} {
		if counts[err] < least {
			t.Errorf("too few of a kind: %v", counts)
		}
	}
	if atLimit < 100 {
		t.Errorf("%d changes of pairs at the limit", atLimit)
	}
}

// wantRevs fails if c lets a revision decrease, or changes a pair of another key; it returns how many changed pairs were at the limit.
func wantRevs(t *testing.T, l, after []api.Pair, c api.Cmd) int {
	t.Helper()
	atLimit := 0
	for _, p := range l {
		i := slices.IndexFunc(after, func(q api.Pair) bool { return q.Key == p.Key })
		switch {
		case i < 0 && (c.Kind != api.CmdDel || c.Key != p.Key):
			t.Fatalf("%+v removes %+v", c, p)
		case i < 0:
			continue
		case after[i] != p && c.Key != p.Key:
			t.Fatalf("%+v makes %+v of %+v", c, after[i], p)
		case after[i].Rev < p.Rev:
			t.Fatalf("%+v lets the revision of %+v decrease to %d", c, p, after[i].Rev)
		case after[i] != p && p.Rev == maxRev:
			atLimit++
		}
	}
	return atLimit
}
