package migr

import (
	"bytes"
	"fmt"
	"maps"
	"math"
	"math/rand"
	"slices"
	"strings"
	"testing"

	"changeover/api"
	"changeover/kvone"
	"changeover/kvtwo"
	"changeover/sess"
)

// The limits of the chapters, written out.
const (
	keyBytes = 24
	valBytes = 48
	mostKeys = 64
	clients  = 8
	errnos   = 17
	maxSeq   = 4294967296
	maxRev   = 4294967296
)

// keys, in the order of their bytes, and strings that are none.
var (
	keys  = []string{"-", "--", ".", "0", "00", "1", ":", "A", "Z", "_", "a", "aa", "ab", "b", "z", strings.Repeat("z", keyBytes), "¡", "é", strings.Repeat("é", keyBytes/2), "€", "\ufffc", "\U00010000", "\U0010ffff"}
	noKey = []string{"", " ", "a b", "a/b", "\"", "a\n", "\x00", "~", "\u00a0", "\ufffd", "\xff", "a\xe2\x82", "\xed\xa0\x80", strings.Repeat("z", keyBytes+1), strings.Repeat("é", keyBytes/2) + "z"}
)

// values, and strings that are none.
var (
	values = []string{"", "x", " ", "a b", "~", "\"", "é", "€", "\ufffd", "\U0010ffff", strings.Repeat("v", valBytes), strings.Repeat("é", valBytes/2)}
	noVal  = []string{"\x00", "\n", "\x1f", "a\x7f", "\xff", "a\xe2\x82", "\xed\xa0\x80", strings.Repeat("v", valBytes+1), strings.Repeat("é", valBytes/2) + "v"}
)

// numbers: those at the limits, beside and beyond them, and at those of Go's number types.
var numbers = []int{
	math.MinInt, math.MinInt + 1, -maxRev - 1, -maxRev, -256, -8, -2, -1, 0, 1, 2, 3, 7, 8, 9, 16, 17, 18, 255, 256, 257, 258,
	math.MaxInt32, math.MaxInt32 + 1, math.MaxUint32 - 1, math.MaxUint32, maxRev, maxRev + 1, maxRev + 2, maxRev + 3, 2*maxRev + 1, math.MaxInt - 1, math.MaxInt,
}

// told returns the session of which a is the last answer.
func told(a api.Answer) api.Session {
	return api.Session{Client: a.Client, Seq: a.Seq, Last: a}
}

// one and two return valid states of both schemas, with the same contents.
func one() api.State {
	return api.State{
		Schema: 1,
		Pairs:  []api.Pair{{Key: "a", Val: "1"}, {Key: "b"}, {Key: "c", Val: "x y"}},
		Sessions: []api.Session{
			told(api.Answer{Client: 2, Seq: 1}),
			told(api.Answer{Client: 3, Seq: maxSeq, Err: api.ErrFull, Found: true, Val: "1"}),
			told(api.Answer{Client: 8, Seq: 7, Found: true}),
		},
	}
}

func two() api.State {
	s := one()
	s.Schema = 2
	s.Pairs[0].Rev, s.Pairs[1].Rev, s.Pairs[2].Rev = 1, maxRev, 5
	return s
}

// full returns a valid state of the schema with n pairs and a session of each client.
func full(schema, n int) api.State {
	s := api.State{Schema: schema}
	for i := range n {
		s.Pairs = append(s.Pairs, api.Pair{Key: fmt.Sprintf("k%04d", i), Val: fmt.Sprint("v", i), Rev: (i + 1) * (schema - 1)})
	}
	for client := 1; client <= clients; client++ {
		s.Sessions = append(s.Sessions, told(api.Answer{Client: client, Seq: 100 - client, Found: true, Val: "v", Rev: client * (schema - 1)}))
	}
	return s
}

// isPair reports whether p is valid in the schema: keys and values come from the lists above, or are made valid.
func isPair(schema int, p api.Pair) bool {
	if slices.Contains(noKey, p.Key) || slices.Contains(noVal, p.Val) {
		return false
	}
	return schema == 1 && p.Rev == 0 || schema == 2 && p.Rev > 0 && p.Rev <= maxRev
}

// isSession reports whether s is valid in the schema.
func isSession(schema int, s api.Session) bool {
	a := s.Last
	return s.Client > 0 && s.Client <= clients && s.Client == a.Client &&
		s.Seq > 0 && s.Seq <= maxSeq && s.Seq == a.Seq &&
		a.Err >= 0 && a.Err <= errnos && !slices.Contains(noVal, a.Val) &&
		(a.Rev == 0 || schema == 2 && a.Rev > 0 && a.Rev <= maxRev)
}

// checked returns what Check is to return: every pair and every session is tried by itself, and against all behind it.
func checked(s api.State) api.Errno {
	if s.Schema < 1 || s.Schema > 2 || len(s.Pairs) > mostKeys {
		return api.ErrForm
	}
	for i, p := range s.Pairs {
		for _, behind := range s.Pairs[i+1:] {
			if bytes.Compare([]byte(p.Key), []byte(behind.Key)) >= 0 {
				return api.ErrForm
			}
		}
		if !isPair(s.Schema, p) {
			return api.ErrForm
		}
	}
	for i, x := range s.Sessions {
		for _, behind := range s.Sessions[i+1:] {
			if x.Client >= behind.Client {
				return api.ErrForm
			}
		}
		if !isSession(s.Schema, x) {
			return api.ErrForm
		}
	}
	return api.OK
}

// text returns all that is in s, field by field; different states have different texts.
func text(s api.State) string {
	out := fmt.Sprintln(s.Schema)
	for _, p := range s.Pairs {
		out += fmt.Sprintf("pair %q %q %d\n", p.Key, p.Val, p.Rev)
	}
	for _, x := range s.Sessions {
		a := x.Last
		out += fmt.Sprintf("session %d %d %d %d %d %t %q %d\n", x.Client, x.Seq, a.Client, a.Seq, a.Err, a.Found, a.Val, a.Rev)
	}
	return out
}

// set returns s with the schema and with the revision of each pair, in new memory.
func set(s api.State, schema, rev int) api.State {
	out := api.State{Schema: schema}
	for _, p := range s.Pairs {
		out.Pairs = append(out.Pairs, api.Pair{Key: p.Key, Val: p.Val, Rev: rev})
	}
	out.Sessions = append(out.Sessions, s.Sessions...)
	return out
}

// The marks stand in memory that nothing may write to.
var (
	markPair    = api.Pair{Key: "mark", Val: "beyond", Rev: 77}
	markSession = api.Session{Client: 77, Seq: 78, Last: api.Answer{Client: 79, Seq: 80, Val: "mark"}}
)

// roomy returns a copy of s with room beyond the ends of its lists, and what tells whether anything in it has changed.
func roomy(s api.State) (api.State, func() bool) {
	pairs := append(append([]api.Pair{}, s.Pairs...), markPair, markPair, markPair)
	sessions := append(append([]api.Session{}, s.Sessions...), markSession, markSession, markSession)
	firstPairs, firstSessions := slices.Clone(pairs), slices.Clone(sessions)
	given := api.State{Schema: s.Schema, Pairs: pairs[:len(s.Pairs)], Sessions: sessions[:len(s.Sessions)]}
	return given, func() bool { return !slices.Equal(pairs, firstPairs) || !slices.Equal(sessions, firstSessions) }
}

// spoil overwrites a result, and the memory beyond the ends of its lists.
func spoil(s api.State) {
	pairs, sessions := s.Pairs[:cap(s.Pairs)], s.Sessions[:cap(s.Sessions)]
	for i := range pairs {
		pairs[i] = api.Pair{Key: "spoilt", Val: "spoilt", Rev: -5}
	}
	for i := range sessions {
		sessions[i] = api.Session{Client: -5, Seq: -6, Last: api.Answer{Client: -7, Val: "spoilt"}}
	}
}

// wantCheck fails if Check of s is not as it is to be, or changes s.
func wantCheck(t *testing.T, s api.State, want api.Errno) {
	t.Helper()
	given, changed := roomy(s)
	if got := Check(given); got != want {
		t.Fatalf("Check(%+v) = %d, want %d", s, got, want)
	}
	if got := Check(s); got != want {
		t.Fatalf("Check(%+v) = %d without room, want %d", s, got, want)
	}
	if changed() {
		t.Fatalf("Check changed %+v", s)
	}
}

// wantUp fails if Up of s is not as the definitions tell, or its result shares memory with s; it returns the error.
func wantUp(t *testing.T, s api.State) api.Errno {
	t.Helper()
	var want api.State
	wantErr := checked(s)
	if wantErr == api.OK && s.Schema == 2 {
		wantErr = api.ErrOrder
	}
	if wantErr == api.OK {
		want = set(s, 2, 1)
	}
	given, changed := roomy(s)
	got, err := Up(given)
	if err != wantErr || text(got) != text(want) {
		t.Fatalf("Up(%+v) = %+v, %d, want %+v, %d", s, got, err, want, wantErr)
	}
	spoil(got)
	if changed() {
		t.Fatalf("Up(%+v) changes the state, or shares its memory", s)
	}
	return err
}

// wantSays fails if Says of s is not its contents, or shares memory with s.
func wantSays(t *testing.T, s api.State) {
	t.Helper()
	given, changed := roomy(s)
	got := Says(given)
	if want := set(s, 0, 0); text(got) != text(want) {
		t.Fatalf("Says(%+v) = %+v, want %+v", s, got, want)
	}
	if again := Says(got); text(again) != text(got) {
		t.Fatalf("Says(%+v) = %+v", got, again)
	}
	spoil(got)
	if changed() {
		t.Fatalf("Says(%+v) changes the state, or shares its memory", s)
	}
}

// wantClone fails if Clone of s is not equal to s, or shares memory with it.
func wantClone(t *testing.T, s api.State) {
	t.Helper()
	given, changed := roomy(s)
	got := Clone(given)
	if text(got) != text(s) {
		t.Fatalf("Clone(%+v) = %+v", s, got)
	}
	spoil(got)
	if changed() {
		t.Fatalf("Clone(%+v) changes the state, or shares its memory", s)
	}
	got = Clone(given)
	spoil(given)
	if text(got) != text(s) {
		t.Fatalf("Clone(%+v) changes with the state", s)
	}
}

// wantSame fails if Same of a and b is not as their texts tell, in either order, or changes one of them.
func wantSame(t *testing.T, a, b api.State) bool {
	t.Helper()
	want := text(a) == text(b)
	givenA, changedA := roomy(a)
	givenB, changedB := roomy(b)
	if Same(givenA, givenB) != want || Same(givenB, givenA) != want || Same(a, b) != want {
		t.Fatalf("Same is %v, want %v:\n%+v\n%+v", !want, want, a, b)
	}
	if changedA() || changedB() {
		t.Fatalf("Same changed %+v or %+v", a, b)
	}
	return want
}

// some returns one of the elements.
func some[T any](r *rand.Rand, of []T) T {
	return of[r.Intn(len(of))]
}

// random returns a valid state of the schema.
func random(r *rand.Rand, schema int) api.State {
	by := map[string]api.Pair{}
	for range r.Intn(1 << r.Intn(7)) {
		key := some(r, keys)
		if len(key) <= keyBytes/2 && r.Intn(2) == 0 {
			key += fmt.Sprint(r.Intn(1000))
		}
		by[key] = api.Pair{Key: key, Val: some(r, values), Rev: someRev(r) * (schema - 1)}
	}
	s := api.State{Schema: schema}
	for _, key := range slices.SortedFunc(maps.Keys(by), func(a, b string) int { return bytes.Compare([]byte(a), []byte(b)) }) {
		s.Pairs = append(s.Pairs, by[key])
	}
	for client := 1; client <= clients; client++ {
		if r.Intn(3) == 0 {
			continue
		}
		a := api.Answer{Client: client, Seq: someRev(r), Err: api.Errno(r.Intn(errnos + 1)), Found: r.Intn(2) == 0, Val: some(r, values)}
		if schema == 2 && r.Intn(2) == 0 {
			a.Rev = someRev(r)
		}
		s.Sessions = append(s.Sessions, told(a))
	}
	return s
}

// someRev returns a valid revision, which is also a valid number of a command.
func someRev(r *rand.Rand) int {
	return 1 + r.Intn(1<<r.Intn(33))
}

// disturb changes one thing in s, which may be valid still.
func disturb(r *rand.Rand, s *api.State) {
	n := some(r, numbers)
	switch {
	case r.Intn(8) == 0:
		s.Schema = some(r, []int{n, 1, 2})
	case r.Intn(2) == 0 && len(s.Pairs) > 0:
		i, j := r.Intn(len(s.Pairs)), r.Intn(len(s.Pairs))
		switch r.Intn(4) {
		case 0:
			s.Pairs[i].Key = some(r, noKey)
		case 1:
			s.Pairs[i].Val = some(r, noVal)
		case 2:
			s.Pairs[i].Rev = n
		case 3:
			s.Pairs[i], s.Pairs[j] = s.Pairs[j], s.Pairs[i]
		}
	case len(s.Sessions) > 0:
		i, j := r.Intn(len(s.Sessions)), r.Intn(len(s.Sessions))
		switch r.Intn(8) {
		case 0:
			s.Sessions[i].Client = n
		case 1:
			s.Sessions[i].Seq = n
		case 2:
			s.Sessions[i].Last.Client = n
		case 3:
			s.Sessions[i].Last.Seq = n
		case 4:
			s.Sessions[i].Last.Err = api.Errno(n)
		case 5:
			s.Sessions[i].Last.Val = some(r, noVal)
		case 6:
			s.Sessions[i].Last.Rev = n
		case 7:
			s.Sessions[i], s.Sessions[j] = s.Sessions[j], s.Sessions[i]
		}
	}
}

// variants returns s, and every state that differs from it in one number, one string, one flag or one element.
func variants(s api.State) []api.State {
	var l []api.State
	vary := func(change func(s *api.State)) {
		v, _ := roomy(s)
		change(&v)
		l = append(l, v)
	}
	vary(func(*api.State) {})
	for _, n := range numbers {
		vary(func(v *api.State) { v.Schema = n })
		for i := range s.Pairs {
			vary(func(v *api.State) { v.Pairs[i].Rev = n })
		}
		for i := range s.Sessions {
			vary(func(v *api.State) { v.Sessions[i].Client = n })
			vary(func(v *api.State) { v.Sessions[i].Seq = n })
			vary(func(v *api.State) { v.Sessions[i].Last.Client = n })
			vary(func(v *api.State) { v.Sessions[i].Last.Seq = n })
			vary(func(v *api.State) { v.Sessions[i].Last.Err = api.Errno(n) })
			vary(func(v *api.State) { v.Sessions[i].Last.Rev = n })
			vary(func(v *api.State) { v.Sessions[i] = told(api.Answer{Client: n, Seq: 1}) })
			vary(func(v *api.State) { v.Sessions[i] = told(api.Answer{Client: i + 1, Seq: n}) })
		}
	}
	for _, key := range slices.Concat(keys, noKey) {
		for i := range s.Pairs {
			vary(func(v *api.State) { v.Pairs[i].Key = key })
		}
	}
	for _, val := range slices.Concat(values, noVal) {
		for i := range s.Pairs {
			vary(func(v *api.State) { v.Pairs[i].Val = val })
		}
		for i := range s.Sessions {
			vary(func(v *api.State) { v.Sessions[i].Last.Val = val })
		}
	}
	for i := range s.Pairs {
		vary(func(v *api.State) { v.Pairs = v.Pairs[:i] })
		vary(func(v *api.State) { v.Pairs = v.Pairs[i:] })
		vary(func(v *api.State) { v.Pairs = slices.Delete(v.Pairs, i, i+1) })
		vary(func(v *api.State) { v.Pairs = slices.Insert(v.Pairs, i, api.Pair{}) })
		vary(func(v *api.State) { v.Pairs = slices.Insert(v.Pairs, i, v.Pairs[i]) })
		vary(func(v *api.State) { v.Pairs[0], v.Pairs[i] = v.Pairs[i], v.Pairs[0] })
	}
	for i := range s.Sessions {
		vary(func(v *api.State) { v.Sessions = v.Sessions[:i] })
		vary(func(v *api.State) { v.Sessions = v.Sessions[i:] })
		vary(func(v *api.State) { v.Sessions = slices.Delete(v.Sessions, i, i+1) })
		vary(func(v *api.State) { v.Sessions = slices.Insert(v.Sessions, i, api.Session{}) })
		vary(func(v *api.State) { v.Sessions = slices.Insert(v.Sessions, i, v.Sessions[i]) })
		vary(func(v *api.State) { v.Sessions[0], v.Sessions[i] = v.Sessions[i], v.Sessions[0] })
		vary(func(v *api.State) { v.Sessions[i].Last.Found = !v.Sessions[i].Last.Found })
	}
	vary(func(v *api.State) { v.Pairs = nil })
	vary(func(v *api.State) { v.Sessions = nil })
	return l
}

// all returns the variants of states of both schemas, small and great, and of the zero state.
func all() []api.State {
	return slices.Concat(variants(one()), variants(two()), variants(api.State{}), variants(api.State{Schema: 1}), variants(api.State{Schema: 2}),
		[]api.State{full(1, mostKeys), full(2, mostKeys), full(1, 100), full(2, 100), {Schema: 1, Pairs: []api.Pair{}, Sessions: []api.Session{}}})
}

// P25.1: a state is valid in schema 1 and 2 alone, whatever else it has.
func TestCheckSchema(t *testing.T) {
	for _, schema := range numbers {
		for _, s := range []api.State{{}, one(), two(), full(1, 3), full(2, 3), {Pairs: []api.Pair{}, Sessions: []api.Session{}}} {
			is := schema == 1 || schema == 2
			if len(s.Pairs) > 0 {
				is = schema == s.Schema
			}
			want := api.ErrForm
			if is {
				want = api.OK
			}
			s.Schema = schema
			wantCheck(t, s, want)
		}
	}
}

// P25.1: each key, each value and each revision is as its schema has it, whatever the sessions are.
func TestCheckPairs(t *testing.T) {
	count := 0
	for _, key := range slices.Concat(keys, noKey) {
		for _, val := range slices.Concat(values, noVal) {
			for _, rev := range numbers {
				p := api.Pair{Key: key, Val: val, Rev: rev}
				for schema := range 4 {
					want := api.ErrForm
					if isPair(schema, p) {
						want = api.OK
						count++
					}
					wantCheck(t, api.State{Schema: schema, Pairs: []api.Pair{p}}, want)
				}
			}
		}
	}
	if want := len(keys) * len(values) * (1 + 18); count != want {
		t.Errorf("%d pairs are valid, want %d", count, want)
	}
}

// P25.1: in both schemas keys ascend strictly, byte by byte: every order of two keys.
func TestCheckOrder(t *testing.T) {
	for i, first := range keys {
		for j, second := range keys {
			want := api.ErrForm
			if i < j {
				want = api.OK
			}
			for schema := 1; schema <= 2; schema++ {
				rev := schema - 1
				wantCheck(t, api.State{Schema: schema, Pairs: []api.Pair{{Key: first, Rev: rev}, {Key: second, Rev: rev}}}, want)
			}
		}
	}
}

// P25.1: there may be 64 pairs, and no more.
func TestCheckMost(t *testing.T) {
	for n := range 130 {
		want := api.OK
		if n > mostKeys {
			want = api.ErrForm
		}
		wantCheck(t, full(1, n), want)
		wantCheck(t, full(2, n), want)
	}
}

// P25.1: the example: in schema 1 no last answer has a revision, wherever its session stands and whatever else it has; in schema 2 each may.
func TestCheckRev(t *testing.T) {
	for _, rev := range numbers {
		for i := range clients {
			for schema := 1; schema <= 2; schema++ {
				for _, n := range []int{0, 1, mostKeys} {
					s := full(schema, n)
					s.Sessions[i].Last.Rev = rev
					want := api.ErrForm
					if rev == 0 || schema == 2 && rev > 0 && rev <= maxRev {
						want = api.OK
					}
					wantCheck(t, s, want)
					s.Sessions = s.Sessions[i : i+1]
					wantCheck(t, s, want)
				}
			}
		}
	}
	s := api.State{Schema: 1, Sessions: []api.Session{told(api.Answer{Client: 1, Seq: 2, Rev: 3})}}
	if err := Check(s); err != api.ErrForm {
		t.Errorf("Check(%+v) = %d", s, err)
	}
}

// P25.1: a session that is not valid is found in both schemas, wherever it stands.
func TestCheckSessions(t *testing.T) {
	for _, x := range []api.Session{
		{},
		told(api.Answer{Client: 0, Seq: 1}),
		told(api.Answer{Client: -1, Seq: 1}),
		told(api.Answer{Client: clients + 1, Seq: 1}),
		told(api.Answer{Client: 260, Seq: 1}),
		told(api.Answer{Client: 4, Seq: 0}),
		told(api.Answer{Client: 4, Seq: -1}),
		told(api.Answer{Client: 4, Seq: maxSeq + 1}),
		told(api.Answer{Client: 4, Seq: 1, Err: errnos + 1}),
		told(api.Answer{Client: 4, Seq: 1, Err: -1}),
		told(api.Answer{Client: 4, Seq: 1, Val: "\n"}),
		told(api.Answer{Client: 4, Seq: 1, Val: "\xff"}),
		told(api.Answer{Client: 4, Seq: 1, Val: strings.Repeat("v", valBytes+1)}),
		{Client: 4, Seq: 1},
		{Client: 4, Seq: 1, Last: api.Answer{Client: 4, Seq: 2}},
		{Client: 4, Seq: 2, Last: api.Answer{Client: 4, Seq: 1}},
		{Client: 4, Seq: 1, Last: api.Answer{Client: 5, Seq: 1}},
		{Client: 5, Seq: 1, Last: api.Answer{Client: 4, Seq: 1}},
	} {
		ahead, behind := told(api.Answer{Client: 1, Seq: 9}), told(api.Answer{Client: 8, Seq: 9})
		for _, s := range []api.State{one(), two(), {Schema: 1}, {Schema: 2}} {
			for _, l := range [][]api.Session{{x}, {ahead, x}, {x, behind}, {ahead, x, behind}} {
				s.Sessions = l
				wantCheck(t, s, api.ErrForm)
			}
			s.Sessions = []api.Session{ahead, behind}
			wantCheck(t, s, api.OK)
			s.Sessions = []api.Session{behind, ahead}
			wantCheck(t, s, api.ErrForm)
			s.Sessions = []api.Session{ahead, ahead}
			wantCheck(t, s, api.ErrForm)
		}
	}
}

// P25.1: every state that differs in one thing from a valid one, or from an empty one.
func TestCheckAll(t *testing.T) {
	counts := map[string]int{}
	for _, s := range all() {
		want := checked(s)
		wantCheck(t, s, want)
		counts[fmt.Sprint(s.Schema, want)]++
	}
	for what, least := range map[string]int{"1 0": 70, "2 0": 100, "1 3": 500, "2 3": 500} {
		if counts[what] < least {
			t.Errorf("too few of a kind: %v", counts)
		}
	}
}

// P25.1: random states, of which up to two things are changed.
func TestCheckRandom(t *testing.T) {
	r := rand.New(rand.NewSource(1))
	counts := map[string]int{}
	for i := range 20000 {
		s := random(r, 1+i%2)
		for range r.Intn(3) {
			disturb(r, &s)
		}
		want := checked(s)
		wantCheck(t, s, want)
		counts[fmt.Sprint(s.Schema, want)]++
	}
	for _, what := range []string{"1 0", "2 0", "1 3", "2 3"} {
		if counts[what] < 3000 {
			t.Errorf("too few of a kind: %v", counts)
		}
	}
}

// P25.1: the example, and a whole state.
func TestUpExample(t *testing.T) {
	got, err := Up(api.State{Schema: 1, Pairs: []api.Pair{{Key: "a", Val: "1"}}})
	if want := (api.State{Schema: 2, Pairs: []api.Pair{{Key: "a", Val: "1", Rev: 1}}}); err != api.OK || text(got) != text(want) {
		t.Errorf("%+v, %d", got, err)
	}
	got, err = Up(got)
	if err != api.ErrOrder || text(got) != text(api.State{}) {
		t.Errorf("again: %+v, %d", got, err)
	}
	got, err = Up(one())
	want := api.State{
		Schema: 2,
		Pairs:  []api.Pair{{Key: "a", Val: "1", Rev: 1}, {Key: "b", Rev: 1}, {Key: "c", Val: "x y", Rev: 1}},
		Sessions: []api.Session{
			{Client: 2, Seq: 1, Last: api.Answer{Client: 2, Seq: 1}},
			{Client: 3, Seq: maxSeq, Last: api.Answer{Client: 3, Seq: maxSeq, Err: 11, Found: true, Val: "1"}},
			{Client: 8, Seq: 7, Last: api.Answer{Client: 8, Seq: 7, Found: true}},
		},
	}
	if err != api.OK || text(got) != text(want) {
		t.Errorf("%+v, %d", got, err)
	}
}

// P25.1: a state that is not valid is ErrForm, also in schema 2; a valid one of schema 2 is ErrOrder; nothing else is returned.
func TestUpErrors(t *testing.T) {
	rev := func(s api.State, n int) api.State {
		s.Sessions[1].Last.Rev = n
		return s
	}
	for _, x := range []struct {
		name string
		s    api.State
		want api.Errno
	}{
		{"the zero state", api.State{}, api.ErrForm},
		{"schema 1, empty", api.State{Schema: 1}, api.OK},
		{"schema 2, empty", api.State{Schema: 2}, api.ErrOrder},
		{"schema 3, empty", api.State{Schema: 3}, api.ErrForm},
		{"schema -1, empty", api.State{Schema: -1}, api.ErrForm},
		{"schema 1", one(), api.OK},
		{"schema 2", two(), api.ErrOrder},
		{"schema 1, revisions", set(two(), 1, 1), api.ErrForm},
		{"schema 2, no revisions", set(one(), 2, 0), api.ErrForm},
		{"schema 2, revisions 1", set(one(), 2, 1), api.ErrOrder},
		{"schema 2, revisions beyond", set(one(), 2, maxRev+1), api.ErrForm},
		{"schema 0", Says(one()), api.ErrForm},
		{"schema 1, an answer with Rev", rev(one(), 3), api.ErrForm},
		{"schema 2, an answer with Rev", rev(two(), 3), api.ErrOrder},
		{"schema 2, an answer with Rev beyond", rev(two(), maxRev+1), api.ErrForm},
		{"schema 1, 64 pairs", full(1, mostKeys), api.OK},
		{"schema 2, 64 pairs", full(2, mostKeys), api.ErrOrder},
		{"schema 1, 65 pairs", full(1, mostKeys+1), api.ErrForm},
		{"schema 2, 65 pairs", full(2, mostKeys+1), api.ErrForm},
	} {
		t.Run(x.name, func(t *testing.T) {
			if err := wantUp(t, x.s); err != x.want {
				t.Errorf("%d, want %d", err, x.want)
			}
		})
	}
}

// P25.1: every state that differs in one thing from a valid one, and random ones, valid or not.
func TestUp(t *testing.T) {
	counts := map[api.Errno]int{}
	for _, s := range all() {
		counts[wantUp(t, s)]++
	}
	r := rand.New(rand.NewSource(2))
	for i := range 10000 {
		s := random(r, 1+i%2)
		for range r.Intn(3) {
			disturb(r, &s)
		}
		counts[wantUp(t, s)]++
	}
	if counts[api.OK] < 2000 || counts[api.ErrOrder] < 2000 || counts[api.ErrForm] < 4000 {
		t.Errorf("too few of a kind: %v", counts)
	}
}

// P25.2: the example: the contents are the same before and after a migration, and the answers' revisions are among them.
func TestSaysExample(t *testing.T) {
	want := "0\npair \"a\" \"1\" 0\npair \"b\" \"\" 0\npair \"c\" \"x y\" 0\n" +
		"session 2 1 2 1 0 false \"\" 0\nsession 3 4294967296 3 4294967296 11 true \"1\" 0\nsession 8 7 8 7 0 true \"\" 0\n"
	up, _ := Up(one())
	for _, s := range []api.State{one(), two(), up} {
		if got := text(Says(s)); got != want {
			t.Errorf("%s, want %s", got, want)
		}
	}
	s := two()
	s.Sessions[0].Last.Rev = 6
	if got := text(Says(s)); got != strings.Replace(want, "false \"\" 0", "false \"\" 6", 1) {
		t.Errorf("%s", got)
	}
}

// P25.2: the contents of any state, valid or not, in new memory.
func TestSays(t *testing.T) {
	for _, s := range all() {
		wantSays(t, s)
	}
	r := rand.New(rand.NewSource(3))
	for i := range 5000 {
		s := random(r, 1+i%2)
		for range r.Intn(3) {
			disturb(r, &s)
		}
		wantSays(t, s)
	}
}

// P25.2: states are equal if all of their fields are: each variant of a state against the state and against all others of its variants.
func TestSame(t *testing.T) {
	for _, s := range []api.State{one(), two(), {}, {Schema: 1}} {
		l := variants(s)
		for _, a := range l {
			wantSame(t, a, s)
		}
		r := rand.New(rand.NewSource(4))
		equal := 0
		for range 20000 {
			if wantSame(t, some(r, l), some(r, l)) {
				equal++
			}
		}
		if equal < 20 {
			t.Errorf("%d variants are equal", equal)
		}
	}
}

// P25.2: a nil list equals an empty one, and no other.
func TestSameNil(t *testing.T) {
	noPairs, noSessions := [][]api.Pair{nil, {}, one().Pairs[:0]}, [][]api.Session{nil, {}, one().Sessions[:0]}
	for _, schema := range numbers {
		for _, p := range noPairs {
			for _, q := range noPairs {
				for _, x := range noSessions {
					for _, y := range noSessions {
						a, b := api.State{Schema: schema, Pairs: p, Sessions: x}, api.State{Schema: schema, Pairs: q, Sessions: y}
						if !Same(a, b) {
							t.Fatalf("%#v differs from %#v", a, b)
						}
						b.Pairs = []api.Pair{{}}
						if Same(a, b) || Same(b, a) {
							t.Fatalf("%#v equals %#v", a, b)
						}
						b.Pairs, b.Sessions = q, []api.Session{{}}
						if Same(a, b) || Same(b, a) {
							t.Fatalf("%#v equals %#v", a, b)
						}
					}
				}
			}
		}
	}
}

// P25.2: random states against themselves, with and without a change, and against each other.
func TestSameRandom(t *testing.T) {
	r := rand.New(rand.NewSource(5))
	counts := map[bool]int{}
	for i := range 5000 {
		s := random(r, 1+i%2)
		other, _ := roomy(s)
		wantSame(t, s, other)
		disturb(r, &other)
		counts[wantSame(t, s, other)]++
		wantSame(t, s, random(r, 1+r.Intn(2)))
	}
	if counts[true] < 200 || counts[false] < 3000 {
		t.Errorf("too few of a kind: %v", counts)
	}
}

// P25.2: a copy of any state, valid or not, in new memory.
func TestClone(t *testing.T) {
	for _, s := range all() {
		wantClone(t, s)
	}
	r := rand.New(rand.NewSource(6))
	for i := range 5000 {
		s := random(r, 1+i%2)
		for range r.Intn(3) {
			disturb(r, &s)
		}
		wantClone(t, s)
	}
}

// P25.3: a migrated state is valid in schema 2 by the layers below too, has the same contents and the revision 1 everywhere, and is not migrated again.
func TestMigrated(t *testing.T) {
	r := rand.New(rand.NewSource(7))
	pairs := 0
	for i := range 5000 {
		s := random(r, 1)
		if i%100 == 0 {
			s = full(1, i/100)
		}
		got, err := Up(s)
		if err != api.OK || got.Schema != 2 || Check(got) != api.OK {
			t.Fatalf("Up(%+v) = %+v, %d", s, got, err)
		}
		if kvtwo.Check(got.Pairs) != api.OK || sess.Check(got.Sessions) != api.OK {
			t.Fatalf("Up(%+v) = %+v", s, got)
		}
		if !Same(Says(got), Says(s)) || !slices.Equal(kvtwo.Plain(got.Pairs), s.Pairs) || !slices.Equal(got.Sessions, s.Sessions) {
			t.Fatalf("Up(%+v) = %+v has other contents", s, got)
		}
		for _, p := range got.Pairs {
			if found, is := kvone.Find(s.Pairs, p.Key); p.Rev != 1 || !is || found.Val != p.Val {
				t.Fatalf("Up(%+v) = %+v", s, got)
			}
		}
		pairs += len(got.Pairs)
		if again, err := Up(got); err != api.ErrOrder || text(again) != text(api.State{}) {
			t.Fatalf("Up(%+v) = %+v, %d", got, again, err)
		}
		if Same(got, s) {
			t.Fatalf("Up(%+v) has the same schema", s)
		}
	}
	if pairs < 20000 {
		t.Errorf("%d pairs were migrated", pairs)
	}
}
