package snapone

import (
	"bytes"
	"encoding/binary"
	"encoding/hex"
	"fmt"
	"maps"
	"math"
	"math/rand"
	"slices"
	"strings"
	"testing"

	"changeover/answer"
	"changeover/api"
	"changeover/migr"
)

// The limits of the chapters, written out.
const (
	keyBytes = 24
	valBytes = 48
	mostKeys = 64
	clients  = 8
	errnos   = 17
	maxSeq   = 4294967296
	maxRev   = 4294967296
)

// keys, in the order of their bytes, and strings that are none.
var (
	keys  = []string{"-", "--", ".", "0", "00", "1", ":", "A", "Z", "_", "a", "aa", "ab", "b", "z", strings.Repeat("z", keyBytes), "¡", "é", strings.Repeat("é", keyBytes/2), "€", "\ufffc", "\U00010000", "\U0010ffff"}
	noKey = []string{"", " ", "a b", "a/b", "\"", "a\n", "\x00", "~", "\u00a0", "\ufffd", "\xff", "a\xe2\x82", "\xed\xa0\x80", strings.Repeat("z", keyBytes+1), strings.Repeat("é", keyBytes/2) + "z", strings.Repeat("z", 5000)}
)

// values, and strings that are none.
var (
	values = []string{"", "x", " ", "a b", "~", "\"", "é", "€", "\ufffd", "\U0010ffff", strings.Repeat("v", valBytes), strings.Repeat("é", valBytes/2)}
	noVal  = []string{"\x00", "\n", "\x1f", "a\x7f", "\xff", "a\xe2\x82", "\xed\xa0\x80", strings.Repeat("v", valBytes+1), strings.Repeat("é", valBytes/2) + "v", strings.Repeat("v", 70000)}
)

// numbers: those at the limits, beside and beyond them, and at those of Go's number types.
var numbers = []int{
	math.MinInt, math.MinInt + 1, -maxRev - 1, -maxRev, -256, -8, -2, -1, 0, 1, 2, 3, 7, 8, 9, 16, 17, 18, 127, 128, 255, 256, 257, 258,
	math.MaxInt32, math.MaxInt32 + 1, math.MaxUint32 - 1, math.MaxUint32, maxRev, maxRev + 1, maxRev + 2, maxRev + 3, 2*maxRev + 1, math.MaxInt - 1, math.MaxInt,
}

// told returns the session of which a is the last answer.
func told(a api.Answer) api.Session {
	return api.Session{Client: a.Client, Seq: a.Seq, Last: a}
}

// one returns a valid state of schema 1, and two one of schema 2 with the same contents.
func one() api.State {
	return api.State{
		Schema: 1,
		Pairs:  []api.Pair{{Key: "a", Val: "1"}, {Key: "b"}, {Key: "c", Val: "x y"}},
		Sessions: []api.Session{
			told(api.Answer{Client: 2, Seq: 1}),
			told(api.Answer{Client: 3, Seq: maxSeq, Err: api.ErrFull, Found: true, Val: "1"}),
			told(api.Answer{Client: 8, Seq: 300, Found: true}),
		},
	}
}

func two() api.State {
	s := one()
	s.Schema = 2
	s.Pairs[0].Rev, s.Pairs[1].Rev, s.Pairs[2].Rev = 1, maxRev, 5
	s.Sessions[0].Last.Rev = 7
	return s
}

// oneBytes is the encoding of one, and oneEnds where its parts end: the first number, two numbers of elements, each element.
const oneBytes = "01" +
	"03" + "016101" + "31" + "016200" + "016303782079" +
	"03" + "0201000000" + "0380808080100b01" + "0131" + "08ac02000100"

var oneEnds = []int{1, 2, 6, 9, 15, 16, 21, 31, 37}

// full returns a valid state of the schema with n pairs and the sessions of the first m clients.
func full(schema, n, m int) api.State {
	s := api.State{Schema: schema}
	for i := range n {
		s.Pairs = append(s.Pairs, api.Pair{Key: fmt.Sprintf("k%04d", i), Val: fmt.Sprint("v", i), Rev: (i + 1) * (schema - 1)})
	}
	for client := 1; client <= m; client++ {
		s.Sessions = append(s.Sessions, told(api.Answer{Client: client, Seq: 100 - client, Found: true, Val: "v", Rev: client * (schema - 1)}))
	}
	return s
}

// isPair reports whether p is valid in the schema: keys and values come from the lists above, or are made valid.
func isPair(schema int, p api.Pair) bool {
	if slices.Contains(noKey, p.Key) || slices.Contains(noVal, p.Val) {
		return false
	}
	return schema == 1 && p.Rev == 0 || schema == 2 && p.Rev > 0 && p.Rev <= maxRev
}

// isSession reports whether s is valid in the schema.
func isSession(schema int, s api.Session) bool {
	a := s.Last
	return s.Client > 0 && s.Client <= clients && s.Client == a.Client &&
		s.Seq > 0 && s.Seq <= maxSeq && s.Seq == a.Seq &&
		a.Err >= 0 && a.Err <= errnos && !slices.Contains(noVal, a.Val) &&
		(a.Rev == 0 || schema == 2 && a.Rev > 0 && a.Rev <= maxRev)
}

// isValid reports whether s is valid: every pair and every session is tried by itself, and against all behind it.
func isValid(s api.State) bool {
	if s.Schema < 1 || s.Schema > 2 || len(s.Pairs) > mostKeys {
		return false
	}
	for i, p := range s.Pairs {
		for _, behind := range s.Pairs[i+1:] {
			if bytes.Compare([]byte(p.Key), []byte(behind.Key)) >= 0 {
				return false
			}
		}
		if !isPair(s.Schema, p) {
			return false
		}
	}
	for i, x := range s.Sessions {
		for _, behind := range s.Sessions[i+1:] {
			if x.Client >= behind.Client {
				return false
			}
		}
		if !isSession(s.Schema, x) {
			return false
		}
	}
	return true
}

// checked returns the error that Encode of s is to return.
func checked(s api.State) api.Errno {
	switch {
	case !isValid(s):
		return api.ErrForm
	case s.Schema == 2:
		return api.ErrVersion
	}
	return api.OK
}

// encoded returns the bytes that the definitions tell for what s has in schema 1, valid or not.
func encoded(s api.State) []byte {
	var b []byte
	number := func(n int) { b = binary.AppendUvarint(b, uint64(max(n, 0))) }
	text := func(s string) {
		number(len(s))
		b = append(b, s...)
	}
	number(1)
	number(len(s.Pairs))
	for _, p := range s.Pairs {
		text(p.Key)
		text(p.Val)
	}
	number(len(s.Sessions))
	for _, x := range s.Sessions {
		a := x.Last
		number(a.Client)
		number(a.Seq)
		number(int(a.Err))
		if a.Found {
			b = append(b, 1)
		} else {
			b = append(b, 0)
		}
		text(a.Val)
	}
	return b
}

// source reads bytes by the definitions, up to the first error.
type source struct {
	b   []byte
	err api.Errno
}

// fail keeps an error, and leaves nothing that could be read.
func (s *source) fail(err api.Errno) {
	if s.err == api.OK {
		s.err = err
	}
	s.b = nil
}

// next returns the next byte.
func (s *source) next() byte {
	if len(s.b) == 0 {
		s.fail(api.ErrShort)
		return 0
	}
	c := s.b[0]
	s.b = s.b[1:]
	return c
}

// number returns the next number, at most most.
func (s *source) number(most int) int {
	n, place := 0, 1
	for i := 0; ; i++ {
		c := s.next()
		if s.err != api.OK {
			return 0
		}
		if i == 9 || i > 0 && c == 0 {
			s.fail(api.ErrForm)
			return 0
		}
		n += int(c%128) * place
		if c < 128 {
			break
		}
		place *= 128
	}
	if n > most {
		s.fail(api.ErrLong)
		return 0
	}
	return n
}

// count returns the next number, at most most and at most what is left.
func (s *source) count(most int) int {
	n := s.number(most)
	if n > len(s.b) {
		s.fail(api.ErrShort)
		return 0
	}
	return n
}

// text returns the next string.
func (s *source) text() string {
	n := s.count(math.MaxInt)
	out := string(s.b[:n])
	s.b = s.b[n:]
	return out
}

// flag returns the next flag.
func (s *source) flag() bool {
	c := s.next()
	if c > 1 {
		s.fail(api.ErrForm)
	}
	return c == 1
}

// decoded returns what Decode of b is to return, by the definitions; whether a state is valid is asked of the layer below.
func decoded(b []byte) (api.State, api.Errno) {
	in := &source{b: b}
	first := in.number(2)
	if in.err != api.OK {
		return api.State{}, in.err
	}
	if first != 1 {
		return api.State{}, api.ErrForm
	}
	s := api.State{Schema: 1}
	for range in.count(mostKeys) {
		key := in.text()
		s.Pairs = append(s.Pairs, api.Pair{Key: key, Val: in.text()})
	}
	for range in.count(clients) {
		var a api.Answer
		a.Client = in.number(math.MaxInt)
		a.Seq = in.number(math.MaxInt)
		a.Err = api.Errno(in.number(math.MaxInt))
		a.Found = in.flag()
		a.Val = in.text()
		s.Sessions = append(s.Sessions, told(a))
	}
	switch {
	case in.err != api.OK:
		return api.State{}, in.err
	case len(in.b) > 0 || migr.Check(s) != api.OK:
		return api.State{}, api.ErrForm
	}
	return s, api.OK
}

// text returns all that is in s, field by field; different states have different texts.
func text(s api.State) string {
	out := fmt.Sprintln(s.Schema)
	for _, p := range s.Pairs {
		out += fmt.Sprintf("pair %q %q %d\n", p.Key, p.Val, p.Rev)
	}
	for _, x := range s.Sessions {
		a := x.Last
		out += fmt.Sprintf("session %d %d %d %d %d %t %q %d\n", x.Client, x.Seq, a.Client, a.Seq, a.Err, a.Found, a.Val, a.Rev)
	}
	return out
}

// The marks stand in memory that nothing may write to.
var (
	markPair    = api.Pair{Key: "mark", Val: "beyond", Rev: 77}
	markSession = api.Session{Client: 77, Seq: 78, Last: api.Answer{Client: 79, Seq: 80, Val: "mark"}}
)

// roomy returns a copy of s with room beyond the ends of its lists, and what tells whether anything in it has changed.
func roomy(s api.State) (api.State, func() bool) {
	pairs := append(append([]api.Pair{}, s.Pairs...), markPair, markPair, markPair)
	sessions := append(append([]api.Session{}, s.Sessions...), markSession, markSession, markSession)
	firstPairs, firstSessions := slices.Clone(pairs), slices.Clone(sessions)
	given := api.State{Schema: s.Schema, Pairs: pairs[:len(s.Pairs)], Sessions: sessions[:len(s.Sessions)]}
	return given, func() bool { return !slices.Equal(pairs, firstPairs) || !slices.Equal(sessions, firstSessions) }
}

// spoilBytes overwrites bytes, and the memory beyond their end.
func spoilBytes(b []byte) {
	b = b[:cap(b)]
	for i := range b {
		b[i] ^= 0x5a
	}
}

// spoil overwrites a state, and the memory beyond the ends of its lists.
func spoil(s api.State) {
	pairs, sessions := s.Pairs[:cap(s.Pairs)], s.Sessions[:cap(s.Sessions)]
	for i := range pairs {
		pairs[i] = api.Pair{Key: "spoilt", Val: "spoilt", Rev: -5}
	}
	for i := range sessions {
		sessions[i] = api.Session{Client: -5, Seq: -6, Last: api.Answer{Client: -7, Val: "spoilt"}}
	}
}

// wantEncode fails if Encode of s is not as the definitions tell, or its result shares memory; it returns the error.
func wantEncode(t *testing.T, s api.State) api.Errno {
	t.Helper()
	var want []byte
	wantErr := checked(s)
	if wantErr == api.OK {
		want = encoded(s)
	}
	given, changed := roomy(s)
	got, err := Encode(given)
	if err != wantErr || !bytes.Equal(got, want) {
		t.Fatalf("Encode(%+v) = %x, %d, want %x, %d", s, got, err, want, wantErr)
	}
	spoilBytes(got)
	if changed() {
		t.Fatalf("Encode changed %+v", s)
	}
	if got, err = Encode(s); err != wantErr || !bytes.Equal(got, want) {
		t.Fatalf("Encode(%+v) = %x, %d without room, want %x, %d", s, got, err, want, wantErr)
	}
	return err
}

// wantDecode fails if Decode of b is not as the definitions tell, or its result shares memory; it returns the error.
func wantDecode(t *testing.T, b []byte) api.Errno {
	t.Helper()
	want, wantErr := decoded(b)
	room := append(append(make([]byte, 0, len(b)+4), b...), 1, 2, 3, 4)
	first := slices.Clone(room)
	got, err := Decode(room[:len(b)])
	if err != wantErr || text(got) != text(want) {
		t.Fatalf("Decode(%x) = %+v, %d, want %+v, %d", b, got, err, want, wantErr)
	}
	if err != api.OK && (len(got.Pairs) > 0 || len(got.Sessions) > 0 || got.Schema != 0) {
		t.Fatalf("Decode(%x) = %+v beside the error %d", b, got, err)
	}
	if !bytes.Equal(room, first) {
		t.Fatalf("Decode changed %x to %x", first, room)
	}
	spoilBytes(room)
	if text(got) != text(want) {
		t.Fatalf("Decode(%x) changes with the bytes", b)
	}
	if err == api.OK {
		wantBack(t, got, b)
	}
	return err
}

// wantBack fails if s, which was read from b, is not written as b: no two encodings are of one state.
func wantBack(t *testing.T, s api.State, b []byte) {
	t.Helper()
	if got, err := Encode(s); err != api.OK || !bytes.Equal(got, b) {
		t.Fatalf("Encode(%+v) = %x, %d, but it was read from %x", s, got, err, b)
	}
}

// unhex returns the bytes of hexadecimal digits.
func unhex(t *testing.T, s string) []byte {
	t.Helper()
	b, err := hex.DecodeString(s)
	if err != nil {
		t.Fatal(err)
	}
	return b
}

// some returns one of the elements.
func some[T any](r *rand.Rand, of []T) T {
	return of[r.Intn(len(of))]
}

// random returns a valid state of the schema.
func random(r *rand.Rand, schema int) api.State {
	by := map[string]api.Pair{}
	for range r.Intn(1 << r.Intn(7)) {
		key := some(r, keys)
		if len(key) <= keyBytes/2 && r.Intn(2) == 0 {
			key += fmt.Sprint(r.Intn(1000))
		}
		by[key] = api.Pair{Key: key, Val: some(r, values), Rev: someSeq(r) * (schema - 1)}
	}
	s := api.State{Schema: schema}
	for _, key := range slices.SortedFunc(maps.Keys(by), func(a, b string) int { return bytes.Compare([]byte(a), []byte(b)) }) {
		s.Pairs = append(s.Pairs, by[key])
	}
	for client := 1; client <= clients; client++ {
		if r.Intn(3) == 0 {
			continue
		}
		a := api.Answer{Client: client, Seq: someSeq(r), Err: api.Errno(r.Intn(errnos + 1)), Found: r.Intn(2) == 0, Val: some(r, values)}
		if schema == 2 && r.Intn(2) == 0 {
			a.Rev = someSeq(r)
		}
		s.Sessions = append(s.Sessions, told(a))
	}
	return s
}

// someSeq returns a valid number of a command, which is also a valid revision.
func someSeq(r *rand.Rand) int {
	return 1 + r.Intn(1<<r.Intn(33))
}

// disturb changes one thing in s, which may be valid still.
func disturb(r *rand.Rand, s *api.State) {
	n := some(r, numbers)
	switch {
	case r.Intn(8) == 0:
		s.Schema = some(r, []int{n, 1, 2})
	case r.Intn(2) == 0 && len(s.Pairs) > 0:
		i, j := r.Intn(len(s.Pairs)), r.Intn(len(s.Pairs))
		switch r.Intn(4) {
		case 0:
			s.Pairs[i].Key = some(r, noKey)
		case 1:
			s.Pairs[i].Val = some(r, noVal)
		case 2:
			s.Pairs[i].Rev = n
		case 3:
			s.Pairs[i], s.Pairs[j] = s.Pairs[j], s.Pairs[i]
		}
	case len(s.Sessions) > 0:
		i, j := r.Intn(len(s.Sessions)), r.Intn(len(s.Sessions))
		switch r.Intn(8) {
		case 0:
			s.Sessions[i].Client = n
		case 1:
			s.Sessions[i].Seq = n
		case 2:
			s.Sessions[i].Last.Client = n
		case 3:
			s.Sessions[i].Last.Seq = n
		case 4:
			s.Sessions[i].Last.Err = api.Errno(n)
		case 5:
			s.Sessions[i].Last.Val = some(r, noVal)
		case 6:
			s.Sessions[i].Last.Rev = n
		case 7:
			s.Sessions[i], s.Sessions[j] = s.Sessions[j], s.Sessions[i]
		}
	}
}

// variants returns s, and every state that differs from it in one number, one string, one flag or one element.
func variants(s api.State) []api.State {
	var l []api.State
	vary := func(change func(s *api.State)) {
		v, _ := roomy(s)
		change(&v)
		l = append(l, v)
	}
	vary(func(*api.State) {})
	for _, n := range numbers {
		vary(func(v *api.State) { v.Schema = n })
		for i := range s.Pairs {
			vary(func(v *api.State) { v.Pairs[i].Rev = n })
		}
		for i := range s.Sessions {
			vary(func(v *api.State) { v.Sessions[i].Client = n })
			vary(func(v *api.State) { v.Sessions[i].Seq = n })
			vary(func(v *api.State) { v.Sessions[i].Last.Client = n })
			vary(func(v *api.State) { v.Sessions[i].Last.Seq = n })
			vary(func(v *api.State) { v.Sessions[i].Last.Err = api.Errno(n) })
			vary(func(v *api.State) { v.Sessions[i].Last.Rev = n })
			vary(func(v *api.State) { v.Sessions[i] = told(api.Answer{Client: n, Seq: 1}) })
			vary(func(v *api.State) { v.Sessions[i] = told(api.Answer{Client: i + 1, Seq: n}) })
		}
	}
	for _, key := range slices.Concat(keys, noKey) {
		for i := range s.Pairs {
			vary(func(v *api.State) { v.Pairs[i].Key = key })
		}
	}
	for _, val := range slices.Concat(values, noVal) {
		for i := range s.Pairs {
			vary(func(v *api.State) { v.Pairs[i].Val = val })
		}
		for i := range s.Sessions {
			vary(func(v *api.State) { v.Sessions[i].Last.Val = val })
		}
	}
	for i := range s.Pairs {
		vary(func(v *api.State) { v.Pairs = v.Pairs[:i] })
		vary(func(v *api.State) { v.Pairs = v.Pairs[i:] })
		vary(func(v *api.State) { v.Pairs = slices.Delete(v.Pairs, i, i+1) })
		vary(func(v *api.State) { v.Pairs = slices.Insert(v.Pairs, i, api.Pair{}) })
		vary(func(v *api.State) { v.Pairs = slices.Insert(v.Pairs, i, v.Pairs[i]) })
		vary(func(v *api.State) { v.Pairs[0], v.Pairs[i] = v.Pairs[i], v.Pairs[0] })
	}
	for i := range s.Sessions {
		vary(func(v *api.State) { v.Sessions = v.Sessions[:i] })
		vary(func(v *api.State) { v.Sessions = v.Sessions[i:] })
		vary(func(v *api.State) { v.Sessions = slices.Delete(v.Sessions, i, i+1) })
		vary(func(v *api.State) { v.Sessions = slices.Insert(v.Sessions, i, api.Session{}) })
		vary(func(v *api.State) { v.Sessions = slices.Insert(v.Sessions, i, v.Sessions[i]) })
		vary(func(v *api.State) { v.Sessions[0], v.Sessions[i] = v.Sessions[i], v.Sessions[0] })
		vary(func(v *api.State) { v.Sessions[i].Last.Found = !v.Sessions[i].Last.Found })
	}
	vary(func(v *api.State) { v.Pairs = nil })
	vary(func(v *api.State) { v.Sessions = nil })
	return l
}

// all returns the variants of states of both schemas, small and great, and of the zero state.
func all() []api.State {
	return slices.Concat(variants(one()), variants(two()), variants(api.State{}), variants(api.State{Schema: 1}), variants(api.State{Schema: 2}),
		[]api.State{full(1, mostKeys, clients), full(2, mostKeys, clients), full(1, mostKeys+1, clients), full(2, mostKeys+1, clients), full(1, 3, clients+1), {Schema: 1, Pairs: []api.Pair{}, Sessions: []api.Session{}}})
}

// P26.1: the example of the chapter, and encodings written out by hand.
func TestEncodeExamples(t *testing.T) {
	for _, x := range []struct {
		s    api.State
		want string
	}{
		{api.State{Schema: 1}, "010000"},
		{api.State{Schema: 1, Pairs: []api.Pair{}, Sessions: []api.Session{}}, "010000"},
		{api.State{Schema: 1, Pairs: []api.Pair{{Key: "a", Val: "1"}}}, "01" + "01" + "01610131" + "00"},
		{api.State{Schema: 1, Sessions: []api.Session{told(api.Answer{Client: 2, Seq: 9, Found: true, Val: "z"})}}, "01" + "00" + "01" + "02090001017a"},
		{api.State{Schema: 1, Pairs: []api.Pair{{Key: "é", Val: "a b"}, {Key: "€"}}}, "01" + "02" + "02c3a903612062" + "03e282ac00" + "00"},
		{api.State{Schema: 1, Sessions: []api.Session{told(api.Answer{Client: 1, Seq: maxSeq, Err: api.ErrTorn})}}, "01" + "00" + "01" + "018080808010110000"},
		{one(), oneBytes},
	} {
		b, err := Encode(x.s)
		if hex.EncodeToString(b) != x.want || err != api.OK {
			t.Errorf("Encode(%+v) = %x, %d, want %s", x.s, b, err, x.want)
		}
		s, err := Decode(unhex(t, x.want))
		if err != api.OK || text(s) != text(x.s) {
			t.Errorf("Decode(%s) = %+v, %d, want %+v", x.want, s, err, x.s)
		}
	}
}

// P26.1: a state that is not valid is ErrForm, also in schema 2; a valid one of schema 2 is ErrVersion; nothing else is returned.
func TestEncodeErrors(t *testing.T) {
	in := func(s api.State, schema int) api.State {
		s.Schema = schema
		return s
	}
	rev := func(s api.State, n int) api.State {
		s.Sessions[1].Last.Rev = n
		return s
	}
	for _, x := range []struct {
		name string
		s    api.State
		want api.Errno
	}{
		{"the zero state", api.State{}, api.ErrForm},
		{"schema 1, empty", api.State{Schema: 1}, api.OK},
		{"schema 2, empty", api.State{Schema: 2}, api.ErrVersion},
		{"schema 3, empty", api.State{Schema: 3}, api.ErrForm},
		{"schema -1, empty", api.State{Schema: -1}, api.ErrForm},
		{"schema 257, empty", api.State{Schema: 257}, api.ErrForm},
		{"schema 1", one(), api.OK},
		{"schema 2", two(), api.ErrVersion},
		{"schema 1, revisions", in(two(), 1), api.ErrForm},
		{"schema 2, no revisions", in(one(), 2), api.ErrForm},
		{"schema 0", in(one(), 0), api.ErrForm},
		{"schema 3", in(two(), 3), api.ErrForm},
		{"schema 1, an answer with Rev", rev(one(), 3), api.ErrForm},
		{"schema 2, an answer with Rev", rev(two(), 3), api.ErrVersion},
		{"schema 2, an answer with Rev beyond", rev(two(), maxRev+1), api.ErrForm},
		{"schema 1, 64 pairs", full(1, mostKeys, clients), api.OK},
		{"schema 2, 64 pairs", full(2, mostKeys, clients), api.ErrVersion},
		{"schema 1, 65 pairs", full(1, mostKeys+1, clients), api.ErrForm},
		{"schema 2, 65 pairs", full(2, mostKeys+1, clients), api.ErrForm},
		{"schema 1, 9 clients", full(1, mostKeys, clients+1), api.ErrForm},
		{"schema 2, 9 clients", full(2, mostKeys, clients+1), api.ErrForm},
	} {
		t.Run(x.name, func(t *testing.T) {
			if err := wantEncode(t, x.s); err != x.want {
				t.Errorf("%d, want %d", err, x.want)
			}
			if b, err := Encode(x.s); err != api.OK && b != nil {
				t.Errorf("%x beside the error %d", b, err)
			}
		})
	}
}

// P26.1: every state that differs in one thing from a valid one, or from an empty one.
func TestEncodeAll(t *testing.T) {
	counts := map[api.Errno]int{}
	for _, s := range all() {
		counts[wantEncode(t, s)]++
	}
	if counts[api.OK] < 70 || counts[api.ErrVersion] < 70 || counts[api.ErrForm] < 1000 {
		t.Errorf("too few of a kind: %v", counts)
	}
}

// P26.1, P26.2: random states, of which up to two things are changed; those that are encoded are recovered.
func TestEncodeRandom(t *testing.T) {
	r := rand.New(rand.NewSource(1))
	counts := map[api.Errno]int{}
	for i := range 10000 {
		s := random(r, 1+i%2)
		for range r.Intn(3) {
			disturb(r, &s)
		}
		err := wantEncode(t, s)
		counts[err]++
		if err == api.OK {
			wantRecovered(t, s)
		}
	}
	if counts[api.OK] < 1500 || counts[api.ErrVersion] < 1500 || counts[api.ErrForm] < 3000 {
		t.Errorf("too few of a kind: %v", counts)
	}
}

// P26.1: the number of pairs and that of sessions, up to the limits.
func TestEncodeCounts(t *testing.T) {
	for n := range mostKeys + 5 {
		for m := range clients + 3 {
			want := api.OK
			if n > mostKeys || m > clients {
				want = api.ErrForm
			}
			if err := wantEncode(t, full(1, n, m)); err != want {
				t.Fatalf("%d pairs, %d sessions: %d, want %d", n, m, err, want)
			}
		}
	}
}

// wantRecovered fails if s, which is valid, is not decoded from its encoding.
func wantRecovered(t *testing.T, s api.State) {
	t.Helper()
	b, err := Encode(s)
	if err != api.OK {
		t.Fatalf("Encode(%+v) = %d", s, err)
	}
	if got, err := Decode(b); err != api.OK || text(got) != text(s) || !migr.Same(got, s) {
		t.Fatalf("Decode(%x) = %+v, %d, want %+v", b, got, err, s)
	}
	if err := wantDecode(t, b); err != api.OK {
		t.Fatalf("Decode(%x) = %d", b, err)
	}
}

// P26.1: the examples of the chapter, and the other errors of Decode, in their order.
func TestDecodeErrors(t *testing.T) {
	for _, x := range []struct {
		b    string
		want api.Errno
	}{
		{"020000", api.ErrForm}, // the example: another schema
		{"0100", api.ErrShort},  // the example: no number of sessions
		{"", api.ErrShort},
		{"01", api.ErrShort},
		{"010000", api.OK},
		{"80", api.ErrShort},  // the first number: it ends too early ..
		{"8000", api.ErrForm}, // .. it is none ..
		{"8100", api.ErrForm}, // .. nor is this ..
		{"03", api.ErrLong},   // .. it is greater than 2
		{"030000", api.ErrLong},
		{"7f", api.ErrLong},
		{"8101", api.ErrLong}, // 129
		{"8102", api.ErrLong}, // 257
		{"818080808080808001", api.ErrLong},
		{"81808080808080808001", api.ErrForm}, // ten bytes
		{"ffffffffffffffff7f", api.ErrLong},
		{"00", api.ErrForm}, // a first number 0 or 2, whatever stands behind it
		{"000000", api.ErrForm},
		{"02", api.ErrForm},
		{"0200", api.ErrForm},
		{"0280", api.ErrForm},
		{"0241", api.ErrForm},
		{"02000009", api.ErrForm},
		{"0280000101", api.ErrForm},
		{"0141", api.ErrLong}, // 65 pairs come ahead of what is missing
		{"01c000", api.ErrForm},
		{"018001", api.ErrLong},
		{"01ffffffffffffffff7f", api.ErrLong},
		{"01ffffffffffffffffff01", api.ErrForm},
		{"0140", api.ErrShort},
		{"0180", api.ErrShort},
		{"018000", api.ErrForm},
		{"010009", api.ErrLong}, // 9 sessions, likewise
		{"010008", api.ErrShort},
		{"0100ffffffffffffffff7f", api.ErrLong},
		{"010080", api.ErrShort},
		{"01008000", api.ErrForm},
		{"01000000", api.ErrForm}, // a byte is left
		{"010000ff", api.ErrForm},
		{"01000080", api.ErrForm},
		{"01010161013100", api.OK},
		{"0101016101310000", api.ErrForm}, // a byte is left
		{"010101610131", api.ErrShort},    // no number of sessions
		{"01010061013100", api.ErrShort},  // the key is empty, but the value is longer than what is left
		{"01010001310000", api.ErrForm},   // the key is empty, and a byte is left
		{"010100013100", api.ErrForm},     // the key is empty
		{"010101000000", api.ErrForm},     // the key is no key
		{"010102610131", api.ErrShort},    // the value is longer than what is left
		{"0101017f0131", api.ErrShort},    // the key is none, but bytes are missing
		{"0101017f013100", api.ErrForm},
		{"01010161017f00", api.ErrForm}, // the value is none
		{"0101016181003100", api.ErrForm},
		{"0102016101310161013200", api.ErrForm}, // two pairs with one key
		{"0102016201310161013200", api.ErrForm}, // two that descend
		{"0102016101310162013200", api.OK},
		{"010001" + "0101000000", api.OK},
		{"010001" + "0001000000", api.ErrForm},                // client 0
		{"010001" + "0901000000", api.ErrForm},                // client 9
		{"010001" + "0100000000", api.ErrForm},                // number 0
		{"010001" + "018080808010000000", api.OK},             // number 2^32
		{"010001" + "018180808010000000", api.ErrForm},        // one more
		{"010001" + "0101110000", api.OK},                     // the last error
		{"010001" + "0101120000", api.ErrForm},                // one more
		{"010001" + "0101000200", api.ErrForm},                // the flag 2
		{"010001" + "0101000002", api.ErrShort},               // a value that ends too early
		{"010001" + "01010000", api.ErrShort},                 // no value
		{"010001" + "0101000001" + "0a", api.ErrForm},         // a value that is none
		{"010001" + "0901000001", api.ErrShort},               // client 9, but bytes are missing
		{"010001" + "0901000200", api.ErrForm},                // client 9, and the flag 2
		{"010001" + "010100000000", api.ErrForm},              // an answer in V2, without a revision
		{"010001" + "010100000003", api.ErrForm},              // an answer in V2
		{"010002" + "0101000000" + "0101000000", api.ErrForm}, // two sessions of one client
		{"010002" + "0201000000" + "0101000000", api.ErrForm}, // two that descend
		{"010002" + "0101000000" + "0201000000", api.OK},
		{"010101610131" + "0101" + "01000000", api.OK},
		{"01010161013101" + "0101000000" + "00", api.ErrForm},
		{"010101ff013109", api.ErrLong}, // 9 sessions come ahead of a key that is none
	} {
		b := unhex(t, x.b)
		if err := wantDecode(t, b); err != x.want {
			t.Errorf("Decode(%s) = %d, want %d", x.b, err, x.want)
		}
		if s, err := Decode(b); err != x.want || x.want != api.OK && (s.Schema != 0 || len(s.Pairs) > 0 || len(s.Sessions) > 0) {
			t.Errorf("Decode(%s) = %+v, %d, want %d", x.b, s, err, x.want)
		}
	}
	if err := wantDecode(t, nil); err != api.ErrShort {
		t.Errorf("Decode(nil) = %d", err)
	}
}

// P26.1: the first number: every one of a byte, and many of more, ahead of a whole rest, half a one, and none.
func TestDecodeFirst(t *testing.T) {
	heads := [][]byte{{}, {0x80}, {0x81}, {0x80, 0x80}, {0x81, 0x80}, {0x82, 0}, {0xff, 0xff, 0}}
	for _, n := range numbers {
		heads = append(heads, binary.AppendUvarint(nil, uint64(n)))
	}
	for n := range 300 {
		heads = append(heads, binary.AppendUvarint(nil, uint64(n)))
	}
	rest := encoded(one())[1:]
	counts := map[api.Errno]int{}
	for _, head := range heads {
		for _, tail := range [][]byte{{}, {0}, {0, 0}, {0, 0, 0}, {0x41}, {0x80, 0}, rest, rest[:9], append(slices.Clone(rest), 1)} {
			counts[wantDecode(t, slices.Concat(head, tail))]++
		}
	}
	if counts[api.OK] < 4 || counts[api.ErrShort] < 10 || counts[api.ErrForm] < 20 || counts[api.ErrLong] < 2000 {
		t.Errorf("too few of a kind: %v", counts)
	}
}

// P26.1: at most 64 pairs and 8 sessions are read, also where all of them are there; ErrLong comes ahead of all that stands behind.
func TestDecodeCounts(t *testing.T) {
	for n := range mostKeys + 70 {
		for _, m := range []int{0, 1, clients - 1, clients, clients + 1, clients + 2, 127, 128, 300} {
			b := encoded(full(1, n, m))
			want := api.OK
			if n > mostKeys || m > clients {
				want = api.ErrLong
			}
			if err := wantDecode(t, b); err != want {
				t.Fatalf("%d pairs, %d sessions: %d, want %d", n, m, err, want)
			}
			if want == api.OK {
				want = api.ErrForm
			}
			if err := wantDecode(t, append(b, 0)); err != want {
				t.Fatalf("%d pairs, %d sessions, and a byte: %d, want %d", n, m, err, want)
			}
		}
	}
	for _, n := range numbers {
		if n < 0 {
			continue
		}
		count := binary.AppendUvarint(nil, uint64(n))
		for room := range 80 {
			zeros := make([]byte, room)
			wantDecode(t, slices.Concat([]byte{1}, count, zeros))
			wantDecode(t, slices.Concat([]byte{1, 0}, count, zeros))
		}
	}
}

// P26.1: what ends too early is ErrShort, wherever it ends; what has bytes left is ErrForm, whatever they are.
func TestDecodeEnds(t *testing.T) {
	if b := encoded(one()); hex.EncodeToString(b) != oneBytes || len(b) != oneEnds[len(oneEnds)-1] {
		t.Fatalf("%x", b)
	}
	for _, s := range []api.State{one(), full(1, mostKeys, clients), full(1, 0, 1), full(1, 1, 0), {Schema: 1}} {
		b := encoded(s)
		for size := range b {
			if err := wantDecode(t, b[:size]); err != api.ErrShort {
				t.Fatalf("Decode(%x) = %d", b[:size], err)
			}
		}
		for c := range 256 {
			for _, more := range [][]byte{{byte(c)}, {byte(c), 0}, {0, byte(c)}, {byte(c), byte(c), byte(c)}} {
				if err := wantDecode(t, slices.Concat(b, more)); err != api.ErrForm {
					t.Fatalf("Decode(%x, and %x) = %d", b, more, err)
				}
			}
		}
		if err := wantDecode(t, slices.Concat(b, b)); err != api.ErrForm {
			t.Fatalf("Decode(%x, twice) = %d", b, err)
		}
	}
}

// P26.1: the bytes of states that are not valid are ErrForm, in each field and each order.
func TestDecodeInvalid(t *testing.T) {
	counts := map[api.Errno]int{}
	for _, s := range slices.Concat(variants(one()), variants(api.State{Schema: 1})) {
		// No more than this is in the bytes, and numbers from 0 on.
		s.Schema = 1
		for i := range s.Pairs {
			s.Pairs[i].Rev = 0
		}
		for i, x := range s.Sessions {
			x.Last.Client, x.Last.Seq, x.Last.Err, x.Last.Rev = max(x.Last.Client, 0), max(x.Last.Seq, 0), max(x.Last.Err, 0), 0
			s.Sessions[i] = told(x.Last)
		}
		want := api.OK
		if !isValid(s) {
			want = api.ErrForm
		}
		got, err := Decode(encoded(s))
		if err != want || err == api.OK && text(got) != text(s) || err != api.OK && text(got) != text(api.State{}) {
			t.Fatalf("Decode of %+v = %+v, %d, want %d", s, got, err, want)
		}
		wantDecode(t, encoded(s))
		wantDecode(t, append(encoded(s), 0))
		counts[err]++
	}
	if counts[api.OK] < 200 || counts[api.ErrForm] < 200 {
		t.Errorf("too few of a kind: %v", counts)
	}
}

// P26.1: keys and values have no limit in the bytes but that they are there: too long ones are states that are not valid.
func TestDecodeLong(t *testing.T) {
	for _, n := range []int{keyBytes, keyBytes + 1, valBytes, valBytes + 1, 127, 128, 1000, 70000} {
		long := strings.Repeat("k", n)
		for _, x := range []struct {
			s     api.State
			limit int
		}{
			{api.State{Schema: 1, Pairs: []api.Pair{{Key: long}}}, keyBytes},
			{api.State{Schema: 1, Pairs: []api.Pair{{Key: "k", Val: long}}}, valBytes},
			{api.State{Schema: 1, Sessions: []api.Session{told(api.Answer{Client: 1, Seq: 1, Val: long})}}, valBytes},
		} {
			want := api.OK
			if n > x.limit {
				want = api.ErrForm
			}
			b := encoded(x.s)
			if err := wantDecode(t, b); err != want {
				t.Errorf("%d bytes of at most %d: %d, want %d", n, x.limit, err, want)
			}
			if err := wantDecode(t, b[:len(b)-1]); err != api.ErrShort {
				t.Errorf("%d bytes of at most %d, without the last byte: %d", n, x.limit, err)
			}
		}
	}
}

// P26.1, P26.2: all strings of up to seven bytes of a few, and all of up to 14 bytes of two.
func TestDecodeSmall(t *testing.T) {
	counts := map[api.Errno]int{}
	for _, x := range []struct {
		size     int
		alphabet []byte
	}{
		{7, []byte{0, 1, 2, 'a', 0x80}},
		{14, []byte{0, 1}},
	} {
		level := [][]byte{{}}
		for range x.size + 1 {
			var next [][]byte
			for _, b := range level {
				counts[wantDecode(t, b)]++
				for _, c := range x.alphabet {
					next = append(next, append(slices.Clone(b), c))
				}
			}
			level = next
		}
	}
	if counts[api.OK] < 9 || counts[api.ErrShort] < 5000 || counts[api.ErrForm] < 50000 || counts[api.ErrLong] < 20000 {
		t.Errorf("too few of a kind: %v", counts)
	}
}

// P26.1, P26.2: whatever stands at any place of an encoding in place of one byte, or beside it.
func TestDecodeChanged(t *testing.T) {
	counts := map[api.Errno]int{}
	for _, s := range []api.State{one(), full(1, 2, 2)} {
		b := encoded(s)
		for i := range b {
			for c := range 256 {
				changed := slices.Clone(b)
				changed[i] = byte(c)
				counts[wantDecode(t, changed)]++
				counts[wantDecode(t, slices.Insert(slices.Clone(b), i, byte(c)))]++
			}
			counts[wantDecode(t, slices.Delete(slices.Clone(b), i, i+1))]++
		}
	}
	for _, err := range []api.Errno{api.OK, api.ErrShort, api.ErrForm, api.ErrLong} {
		if counts[err] < 500 {
			t.Errorf("too few of a kind: %v", counts)
		}
	}
}

// P26.1, P26.2: random changes to the encodings of random states.
func TestDecodeRandom(t *testing.T) {
	r := rand.New(rand.NewSource(2))
	counts := map[api.Errno]int{}
	for range 20000 {
		b := encoded(random(r, 1))
		for range 1 + r.Intn(3) {
			i, j := r.Intn(len(b)+1), r.Intn(len(b)+1)
			switch r.Intn(5) {
			case 0:
				b = b[:i]
			case 1:
				b = slices.Insert(b, i, byte(r.Intn(256)))
			case 2:
				b = slices.Concat(b[:min(i, j)], b[max(i, j):])
			case 3:
				b = slices.Concat(b[:max(i, j)], b[min(i, j):])
			case 4:
				if i < len(b) {
					b[i] ^= 1 << r.Intn(8)
				}
			}
		}
		counts[wantDecode(t, b)]++
	}
	for _, err := range []api.Errno{api.OK, api.ErrShort, api.ErrForm, api.ErrLong} {
		if counts[err] < 300 {
			t.Errorf("too few of a kind: %v", counts)
		}
	}
}

// P26.2: every valid state of schema 1 among all variants is recovered, and no two different ones have one encoding.
func TestRecovered(t *testing.T) {
	by := map[string]string{}
	for _, s := range all() {
		if checked(s) != api.OK {
			continue
		}
		wantRecovered(t, s)
		b, _ := Encode(s)
		if was, is := by[string(b)]; is && was != text(s) {
			t.Fatalf("%x is the encoding of two states:\n%s\n%s", b, was, text(s))
		}
		by[string(b)] = text(s)
	}
	if len(by) < 150 {
		t.Errorf("%d encodings", len(by))
	}
}

// P26.2: the sessions that are recovered have the client and the number of their answers, which stand as layer 9 encodes them in V1.
func TestSessions(t *testing.T) {
	r := rand.New(rand.NewSource(3))
	for range 2000 {
		s := random(r, 1)
		s.Pairs = nil
		want := []byte{1, 0, byte(len(s.Sessions))}
		for _, x := range s.Sessions {
			b, err := answer.Encode(api.V1, x.Last)
			if err != api.OK {
				t.Fatalf("%+v: %d", x.Last, err)
			}
			want = append(want, b...)
		}
		if b, err := Encode(s); err != api.OK || !bytes.Equal(b, want) {
			t.Fatalf("Encode(%+v) = %x, %d, want %x", s, b, err, want)
		}
		got, err := Decode(want)
		if err != api.OK || !slices.Equal(got.Sessions, s.Sessions) {
			t.Fatalf("Decode(%x) = %+v, %d, want %+v", want, got, err, s)
		}
	}
}

// P26.2: results are new memory: those of two calls with the same argument share none.
func TestMemory(t *testing.T) {
	for _, s := range []api.State{one(), full(1, mostKeys, clients), {Schema: 1}} {
		first, _ := Encode(s)
		second, _ := Encode(s)
		spoilBytes(first)
		if !bytes.Equal(second, encoded(s)) {
			t.Errorf("two encodings of %+v share memory", s)
		}
		a, _ := Decode(second)
		b, _ := Decode(second)
		spoil(a)
		if text(b) != text(s) {
			t.Errorf("two states of %x share memory", second)
		}
		given, _ := roomy(s)
		got, _ := Encode(given)
		spoil(given)
		if !bytes.Equal(got, second) {
			t.Errorf("the encoding of %+v changes with the state", s)
		}
	}
}
