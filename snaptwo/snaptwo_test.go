package snaptwo

import (
	"bytes"
	"encoding/binary"
	"encoding/hex"
	"fmt"
	"maps"
	"math"
	"math/rand"
	"slices"
	"strings"
	"testing"

	"changeover/answer"
	"changeover/api"
	"changeover/kvone"
	"changeover/kvtwo"
	"changeover/migr"
	"changeover/snapone"
)

// The limits of the chapters, written out.
const (
	keyBytes = 24
	valBytes = 48
	mostKeys = 64
	clients  = 8
	errnos   = 17
	maxSeq   = 4294967296
	maxRev   = 4294967296
)

// keys, in the order of their bytes, and strings that are none.
var (
	keys  = []string{"-", "--", ".", "0", "00", "1", ":", "A", "Z", "_", "a", "aa", "ab", "b", "z", strings.Repeat("z", keyBytes), "¡", "é", strings.Repeat("é", keyBytes/2), "€", "\ufffc", "\U00010000", "\U0010ffff"}
	noKey = []string{"", " ", "a b", "a/b", "\"", "a\n", "\x00", "~", "\u00a0", "\ufffd", "\xff", "a\xe2\x82", "\xed\xa0\x80", strings.Repeat("z", keyBytes+1), strings.Repeat("é", keyBytes/2) + "z", strings.Repeat("z", 5000)}
)

// values, and strings that are none.
var (
	values = []string{"", "x", " ", "a b", "~", "\"", "é", "€", "\ufffd", "\U0010ffff", strings.Repeat("v", valBytes), strings.Repeat("é", valBytes/2)}
	noVal  = []string{"\x00", "\n", "\x1f", "a\x7f", "\xff", "a\xe2\x82", "\xed\xa0\x80", strings.Repeat("v", valBytes+1), strings.Repeat("é", valBytes/2) + "v", strings.Repeat("v", 70000)}
)

// numbers: those at the limits, beside and beyond them, and at those of Go's number types.
var numbers = []int{
	math.MinInt, math.MinInt + 1, -maxRev - 1, -maxRev, -256, -8, -2, -1, 0, 1, 2, 3, 7, 8, 9, 16, 17, 18, 127, 128, 255, 256, 257, 258,
	math.MaxInt32, math.MaxInt32 + 1, math.MaxUint32 - 1, math.MaxUint32, maxRev, maxRev + 1, maxRev + 2, maxRev + 3, 2*maxRev + 1, math.MaxInt - 1, math.MaxInt,
}

// told returns the session of which a is the last answer.
func told(a api.Answer) api.Session {
	return api.Session{Client: a.Client, Seq: a.Seq, Last: a}
}

// one returns a valid state of schema 1.
func one() api.State {
	return api.State{
		Schema: 1,
		Pairs:  []api.Pair{{Key: "a", Val: "1"}, {Key: "b"}, {Key: "c", Val: "x y"}},
		Sessions: []api.Session{
			told(api.Answer{Client: 2, Seq: 1}),
			told(api.Answer{Client: 3, Seq: maxSeq, Err: api.ErrFull, Found: true, Val: "1"}),
			told(api.Answer{Client: 8, Seq: 300, Found: true}),
		},
	}
}

// two returns a valid state of schema 2 with the pairs of one, and with revisions in its answers.
func two() api.State {
	s := one()
	s.Schema = 2
	s.Pairs[0].Rev, s.Pairs[1].Rev, s.Pairs[2].Rev = 1, maxRev, 300
	s.Sessions[0].Last.Rev = 7
	s.Sessions[2].Last.Rev = maxRev
	return s
}

// The encodings of one, of one migrated, and of two, written out by hand.
const (
	oneBytes = "01" +
		"03" + "0161" + "0131" + "0162" + "00" + "0163" + "03782079" +
		"03" + "0201000000" + "0380808080100b01" + "0131" + "08ac02000100"
	upBytes = "02" +
		"03" + "0161" + "01" + "0131" + "0162" + "01" + "00" + "0163" + "01" + "03782079" +
		"03" + "020100000000" + "0380808080100b01" + "0131" + "00" + "08ac0200010000"
	twoBytes = "02" +
		"03" + "0161" + "01" + "0131" + "0162" + "8080808010" + "00" + "0163" + "ac02" + "03782079" +
		"03" + "020100000007" + "0380808080100b01" + "0131" + "00" + "08ac02000100" + "8080808010"
)

// full returns a valid state of the schema with n pairs and the sessions of the first m clients.
func full(schema, n, m int) api.State {
	s := api.State{Schema: schema}
	for i := range n {
		s.Pairs = append(s.Pairs, api.Pair{Key: fmt.Sprintf("k%04d", i), Val: fmt.Sprint("v", i), Rev: (i + 1) * (schema - 1)})
	}
	for client := 1; client <= m; client++ {
		s.Sessions = append(s.Sessions, told(api.Answer{Client: client, Seq: 100 - client, Found: true, Val: "v", Rev: client * (schema - 1)}))
	}
	return s
}

// isPair reports whether p is valid in the schema: keys and values come from the lists above, or are made valid.
func isPair(schema int, p api.Pair) bool {
	if slices.Contains(noKey, p.Key) || slices.Contains(noVal, p.Val) {
		return false
	}
	return schema == 1 && p.Rev == 0 || schema == 2 && p.Rev > 0 && p.Rev <= maxRev
}

// isSession reports whether s is valid in the schema.
func isSession(schema int, s api.Session) bool {
	a := s.Last
	return s.Client > 0 && s.Client <= clients && s.Client == a.Client &&
		s.Seq > 0 && s.Seq <= maxSeq && s.Seq == a.Seq &&
		a.Err >= 0 && a.Err <= errnos && !slices.Contains(noVal, a.Val) &&
		(a.Rev == 0 || schema == 2 && a.Rev > 0 && a.Rev <= maxRev)
}

// isValid reports whether s is valid: every pair and every session is tried by itself, and against all behind it.
func isValid(s api.State) bool {
	if s.Schema < 1 || s.Schema > 2 || len(s.Pairs) > mostKeys {
		return false
	}
	for i, p := range s.Pairs {
		for _, behind := range s.Pairs[i+1:] {
			if bytes.Compare([]byte(p.Key), []byte(behind.Key)) >= 0 {
				return false
			}
		}
		if !isPair(s.Schema, p) {
			return false
		}
	}
	for i, x := range s.Sessions {
		for _, behind := range s.Sessions[i+1:] {
			if x.Client >= behind.Client {
				return false
			}
		}
		if !isSession(s.Schema, x) {
			return false
		}
	}
	return true
}

// encoded returns the bytes that the definitions of this chapter, and of the one ahead of it, tell for what s has in the schema, valid or not.
func encoded(schema int, s api.State) []byte {
	var b []byte
	number := func(n int) { b = binary.AppendUvarint(b, uint64(max(n, 0))) }
	text := func(s string) {
		number(len(s))
		b = append(b, s...)
	}
	number(schema)
	number(len(s.Pairs))
	for _, p := range s.Pairs {
		text(p.Key)
		if schema == 2 {
			number(p.Rev)
		}
		text(p.Val)
	}
	number(len(s.Sessions))
	for _, x := range s.Sessions {
		a := x.Last
		number(a.Client)
		number(a.Seq)
		number(int(a.Err))
		if a.Found {
			b = append(b, 1)
		} else {
			b = append(b, 0)
		}
		text(a.Val)
		if schema == 2 {
			number(a.Rev)
		}
	}
	return b
}

// source reads bytes by the definitions, up to the first error.
type source struct {
	b   []byte
	err api.Errno
}

// fail keeps an error, and leaves nothing that could be read.
func (s *source) fail(err api.Errno) {
	if s.err == api.OK {
		s.err = err
	}
	s.b = nil
}

// next returns the next byte.
func (s *source) next() byte {
	if len(s.b) == 0 {
		s.fail(api.ErrShort)
		return 0
	}
	c := s.b[0]
	s.b = s.b[1:]
	return c
}

// number returns the next number, at most most.
func (s *source) number(most int) int {
	n, place := 0, 1
	for i := 0; ; i++ {
		c := s.next()
		if s.err != api.OK {
			return 0
		}
		if i == 9 || i > 0 && c == 0 {
			s.fail(api.ErrForm)
			return 0
		}
		n += int(c%128) * place
		if c < 128 {
			break
		}
		place *= 128
	}
	if n > most {
		s.fail(api.ErrLong)
		return 0
	}
	return n
}

// count returns the next number, at most most and at most what is left.
func (s *source) count(most int) int {
	n := s.number(most)
	if n > len(s.b) {
		s.fail(api.ErrShort)
		return 0
	}
	return n
}

// text returns the next string.
func (s *source) text() string {
	n := s.count(math.MaxInt)
	out := string(s.b[:n])
	s.b = s.b[n:]
	return out
}

// flag returns the next flag.
func (s *source) flag() bool {
	c := s.next()
	if c > 1 {
		s.fail(api.ErrForm)
	}
	return c == 1
}

// decoded returns the state of the schema whose encoding is b, by the definitions; whether a state is valid is asked of the layer below.
func decoded(schema int, b []byte) (api.State, api.Errno) {
	in := &source{b: b}
	first := in.number(2)
	if in.err != api.OK {
		return api.State{}, in.err
	}
	if first != schema {
		return api.State{}, api.ErrForm
	}
	s := api.State{Schema: schema}
	for range in.count(mostKeys) {
		p := api.Pair{Key: in.text()}
		if schema == 2 {
			p.Rev = in.number(math.MaxInt)
		}
		p.Val = in.text()
		s.Pairs = append(s.Pairs, p)
	}
	for range in.count(clients) {
		var a api.Answer
		a.Client = in.number(math.MaxInt)
		a.Seq = in.number(math.MaxInt)
		a.Err = api.Errno(in.number(math.MaxInt))
		a.Found = in.flag()
		a.Val = in.text()
		if schema == 2 {
			a.Rev = in.number(math.MaxInt)
		}
		s.Sessions = append(s.Sessions, told(a))
	}
	switch {
	case in.err != api.OK:
		return api.State{}, in.err
	case len(in.b) > 0 || migr.Check(s) != api.OK:
		return api.State{}, api.ErrForm
	}
	return s, api.OK
}

// either returns the state whose encoding, in either schema, is b, by the definitions.
func either(b []byte) (api.State, api.Errno) {
	in := &source{b: b}
	first := in.number(2)
	switch {
	case in.err != api.OK:
		return api.State{}, in.err
	case first == 0:
		return api.State{}, api.ErrForm
	}
	return decoded(first, b)
}

// migrated returns the encoding of the migrated state whose encoding in schema 1 is b, by the definitions.
func migrated(b []byte) ([]byte, api.Errno) {
	s, err := decoded(1, b)
	if err != api.OK {
		return nil, err
	}
	for i := range s.Pairs {
		s.Pairs[i].Rev = 1
	}
	return encoded(2, s), api.OK
}

// text returns all that is in s, field by field; different states have different texts.
func text(s api.State) string {
	out := fmt.Sprintln(s.Schema)
	for _, p := range s.Pairs {
		out += fmt.Sprintf("pair %q %q %d\n", p.Key, p.Val, p.Rev)
	}
	for _, x := range s.Sessions {
		a := x.Last
		out += fmt.Sprintf("session %d %d %d %d %d %t %q %d\n", x.Client, x.Seq, a.Client, a.Seq, a.Err, a.Found, a.Val, a.Rev)
	}
	return out
}

// The marks stand in memory that nothing may write to.
var (
	markPair    = api.Pair{Key: "mark", Val: "beyond", Rev: 77}
	markSession = api.Session{Client: 77, Seq: 78, Last: api.Answer{Client: 79, Seq: 80, Val: "mark"}}
)

// roomy returns a copy of s with room beyond the ends of its lists, and what tells whether anything in it has changed.
func roomy(s api.State) (api.State, func() bool) {
	pairs := append(append([]api.Pair{}, s.Pairs...), markPair, markPair, markPair)
	sessions := append(append([]api.Session{}, s.Sessions...), markSession, markSession, markSession)
	firstPairs, firstSessions := slices.Clone(pairs), slices.Clone(sessions)
	given := api.State{Schema: s.Schema, Pairs: pairs[:len(s.Pairs)], Sessions: sessions[:len(s.Sessions)]}
	return given, func() bool { return !slices.Equal(pairs, firstPairs) || !slices.Equal(sessions, firstSessions) }
}

// spoilBytes overwrites bytes, and the memory beyond their end.
func spoilBytes(b []byte) {
	b = b[:cap(b)]
	for i := range b {
		b[i] ^= 0x5a
	}
}

// spoil overwrites a state, and the memory beyond the ends of its lists.
func spoil(s api.State) {
	pairs, sessions := s.Pairs[:cap(s.Pairs)], s.Sessions[:cap(s.Sessions)]
	for i := range pairs {
		pairs[i] = api.Pair{Key: "spoilt", Val: "spoilt", Rev: -5}
	}
	for i := range sessions {
		sessions[i] = api.Session{Client: -5, Seq: -6, Last: api.Answer{Client: -7, Val: "spoilt"}}
	}
}

// wantBytes fails if what write makes of s is not as wanted, or shares memory with s, or changes it.
func wantBytes(t *testing.T, name string, write func(api.State) ([]byte, api.Errno), s api.State, want []byte, wantErr api.Errno) {
	t.Helper()
	given, changed := roomy(s)
	got, err := write(given)
	if err != wantErr || !bytes.Equal(got, want) {
		t.Fatalf("%s(%+v) = %x, %d, want %x, %d", name, s, got, err, want, wantErr)
	}
	spoilBytes(got)
	if changed() {
		t.Fatalf("%s changed %+v", name, s)
	}
	if got, err = write(s); err != wantErr || !bytes.Equal(got, want) {
		t.Fatalf("%s(%+v) = %x, %d without room, want %x, %d", name, s, got, err, want, wantErr)
	}
}

// wantWritten fails if Encode or Put of s is not as the definitions tell; it returns the errors of both.
func wantWritten(t *testing.T, s api.State) [2]api.Errno {
	t.Helper()
	var errs [2]api.Errno
	var encodes, puts []byte
	switch {
	case !isValid(s):
		errs = [2]api.Errno{api.ErrForm, api.ErrForm}
	case s.Schema == 1:
		errs[0] = api.ErrVersion
		puts = encoded(1, s)
	default:
		encodes, puts = encoded(2, s), encoded(2, s)
	}
	wantBytes(t, "Encode", Encode, s, encodes, errs[0])
	wantBytes(t, "Put", Put, s, puts, errs[1])
	return errs
}

// wantState fails if what read makes of b is not as wanted, or shares memory with b, or changes it.
func wantState(t *testing.T, name string, read func([]byte) (api.State, api.Errno), b []byte, want api.State, wantErr api.Errno) {
	t.Helper()
	room := append(append(make([]byte, 0, len(b)+4), b...), 1, 2, 3, 4)
	first := slices.Clone(room)
	got, err := read(room[:len(b)])
	if err != wantErr || text(got) != text(want) {
		t.Fatalf("%s(%x) = %+v, %d, want %+v, %d", name, b, got, err, want, wantErr)
	}
	if err != api.OK && (len(got.Pairs) > 0 || len(got.Sessions) > 0 || got.Schema != 0) {
		t.Fatalf("%s(%x) = %+v beside the error %d", name, b, got, err)
	}
	if !bytes.Equal(room, first) {
		t.Fatalf("%s changed %x to %x", name, first, room)
	}
	spoilBytes(room)
	if text(got) != text(want) {
		t.Fatalf("%s(%x) changes with the bytes", name, b)
	}
}

// wantRead fails if Decode, Get or Migrate of b is not as the definitions tell; it returns the errors of all three.
func wantRead(t *testing.T, b []byte) [3]api.Errno {
	t.Helper()
	s, decodeErr := decoded(2, b)
	wantState(t, "Decode", Decode, b, s, decodeErr)
	s, getErr := either(b)
	wantState(t, "Get", Get, b, s, getErr)
	if getErr == api.OK {
		// No two encodings are of one state.
		if got, err := Put(s); err != api.OK || !bytes.Equal(got, b) {
			t.Fatalf("Put(%+v) = %x, %d, but it was read from %x", s, got, err, b)
		}
	}
	return [3]api.Errno{decodeErr, getErr, wantMigrated(t, b)}
}

// wantMigrated fails if Migrate of b is not as the definitions tell, or shares memory with b, or changes it; it returns the error.
func wantMigrated(t *testing.T, b []byte) api.Errno {
	t.Helper()
	want, wantErr := migrated(b)
	room := append(append(make([]byte, 0, len(b)+4), b...), 1, 2, 3, 4)
	first := slices.Clone(room)
	got, err := Migrate(room[:len(b)])
	if err != wantErr || !bytes.Equal(got, want) {
		t.Fatalf("Migrate(%x) = %x, %d, want %x, %d", b, got, err, want, wantErr)
	}
	if !bytes.Equal(room, first) {
		t.Fatalf("Migrate changed %x to %x", first, room)
	}
	spoilBytes(room)
	if !bytes.Equal(got, want) {
		t.Fatalf("Migrate(%x) changes with the bytes", b)
	}
	return err
}

// wantRecovered fails if s, which is valid, is not recovered from its encoding.
func wantRecovered(t *testing.T, s api.State) {
	t.Helper()
	b, err := Put(s)
	if err != api.OK {
		t.Fatalf("Put(%+v) = %d", s, err)
	}
	if got, err := Get(b); err != api.OK || text(got) != text(s) || !migr.Same(got, s) {
		t.Fatalf("Get(%x) = %+v, %d, want %+v", b, got, err, s)
	}
	errs := wantRead(t, b)
	want := [3]api.Errno{api.OK, api.OK, api.ErrForm}
	if s.Schema == 1 {
		want = [3]api.Errno{api.ErrForm, api.OK, api.OK}
	}
	if errs != want {
		t.Fatalf("Decode, Get and Migrate of %x: %v, want %v", b, errs, want)
	}
}

// unhex returns the bytes of hexadecimal digits.
func unhex(t *testing.T, s string) []byte {
	t.Helper()
	b, err := hex.DecodeString(s)
	if err != nil {
		t.Fatal(err)
	}
	return b
}

// some returns one of the elements.
func some[T any](r *rand.Rand, of []T) T {
	return of[r.Intn(len(of))]
}

// someSeq returns a valid number of a command, which is also a valid revision.
func someSeq(r *rand.Rand) int {
	return 1 + r.Intn(1<<r.Intn(33))
}

// random returns a valid state of the schema.
func random(r *rand.Rand, schema int) api.State {
	by := map[string]api.Pair{}
	for range r.Intn(1 << r.Intn(7)) {
		key := some(r, keys)
		if len(key) <= keyBytes/2 && r.Intn(2) == 0 {
			key += fmt.Sprint(r.Intn(1000))
		}
		by[key] = api.Pair{Key: key, Val: some(r, values), Rev: someSeq(r) * (schema - 1)}
	}
	s := api.State{Schema: schema}
	for _, key := range slices.SortedFunc(maps.Keys(by), func(a, b string) int { return bytes.Compare([]byte(a), []byte(b)) }) {
		s.Pairs = append(s.Pairs, by[key])
	}
	for client := 1; client <= clients; client++ {
		if r.Intn(3) == 0 {
			continue
		}
		a := api.Answer{Client: client, Seq: someSeq(r), Err: api.Errno(r.Intn(errnos + 1)), Found: r.Intn(2) == 0, Val: some(r, values)}
		if schema == 2 && r.Intn(2) == 0 {
			a.Rev = someSeq(r)
		}
		s.Sessions = append(s.Sessions, told(a))
	}
	return s
}

// disturb changes one thing in s, which may be valid still.
func disturb(r *rand.Rand, s *api.State) {
	n := some(r, numbers)
	switch {
	case r.Intn(8) == 0:
		s.Schema = some(r, []int{n, 1, 2})
	case r.Intn(2) == 0 && len(s.Pairs) > 0:
		i, j := r.Intn(len(s.Pairs)), r.Intn(len(s.Pairs))
		switch r.Intn(4) {
		case 0:
			s.Pairs[i].Key = some(r, noKey)
		case 1:
			s.Pairs[i].Val = some(r, noVal)
		case 2:
			s.Pairs[i].Rev = n
		case 3:
			s.Pairs[i], s.Pairs[j] = s.Pairs[j], s.Pairs[i]
		}
	case len(s.Sessions) > 0:
		i, j := r.Intn(len(s.Sessions)), r.Intn(len(s.Sessions))
		switch r.Intn(8) {
		case 0:
			s.Sessions[i].Client = n
		case 1:
			s.Sessions[i].Seq = n
		case 2:
			s.Sessions[i].Last.Client = n
		case 3:
			s.Sessions[i].Last.Seq = n
		case 4:
			s.Sessions[i].Last.Err = api.Errno(n)
		case 5:
			s.Sessions[i].Last.Val = some(r, noVal)
		case 6:
			s.Sessions[i].Last.Rev = n
		case 7:
			s.Sessions[i], s.Sessions[j] = s.Sessions[j], s.Sessions[i]
		}
	}
}

// variants returns s, and every state that differs from it in one number, one string, one flag or one element.
func variants(s api.State) []api.State {
	var l []api.State
	vary := func(change func(s *api.State)) {
		v, _ := roomy(s)
		change(&v)
		l = append(l, v)
	}
	vary(func(*api.State) {})
	varyNumbers(s, vary)
	varyTexts(s, vary)
	for i := range s.Pairs {
		vary(func(v *api.State) { v.Pairs = v.Pairs[:i] })
		vary(func(v *api.State) { v.Pairs = v.Pairs[i:] })
		vary(func(v *api.State) { v.Pairs = slices.Delete(v.Pairs, i, i+1) })
		vary(func(v *api.State) { v.Pairs = slices.Insert(v.Pairs, i, api.Pair{}) })
		vary(func(v *api.State) { v.Pairs = slices.Insert(v.Pairs, i, v.Pairs[i]) })
		vary(func(v *api.State) { v.Pairs[0], v.Pairs[i] = v.Pairs[i], v.Pairs[0] })
	}
	for i := range s.Sessions {
		vary(func(v *api.State) { v.Sessions = v.Sessions[:i] })
		vary(func(v *api.State) { v.Sessions = v.Sessions[i:] })
		vary(func(v *api.State) { v.Sessions = slices.Delete(v.Sessions, i, i+1) })
		vary(func(v *api.State) { v.Sessions = slices.Insert(v.Sessions, i, api.Session{}) })
		vary(func(v *api.State) { v.Sessions = slices.Insert(v.Sessions, i, v.Sessions[i]) })
		vary(func(v *api.State) { v.Sessions[0], v.Sessions[i] = v.Sessions[i], v.Sessions[0] })
		vary(func(v *api.State) { v.Sessions[i].Last.Found = !v.Sessions[i].Last.Found })
	}
	vary(func(v *api.State) { v.Pairs = nil })
	vary(func(v *api.State) { v.Sessions = nil })
	return l
}

// varyNumbers varies each number of s.
func varyNumbers(s api.State, vary func(func(*api.State))) {
	for _, n := range numbers {
		vary(func(v *api.State) { v.Schema = n })
		for i := range s.Pairs {
			vary(func(v *api.State) { v.Pairs[i].Rev = n })
		}
		for i := range s.Sessions {
			vary(func(v *api.State) { v.Sessions[i].Client = n })
			vary(func(v *api.State) { v.Sessions[i].Seq = n })
			vary(func(v *api.State) { v.Sessions[i].Last.Client = n })
			vary(func(v *api.State) { v.Sessions[i].Last.Seq = n })
			vary(func(v *api.State) { v.Sessions[i].Last.Err = api.Errno(n) })
			vary(func(v *api.State) { v.Sessions[i].Last.Rev = n })
			vary(func(v *api.State) { v.Sessions[i] = told(api.Answer{Client: n, Seq: 1}) })
			vary(func(v *api.State) { v.Sessions[i] = told(api.Answer{Client: i + 1, Seq: n}) })
		}
	}
}

// varyTexts varies each string of s.
func varyTexts(s api.State, vary func(func(*api.State))) {
	for _, key := range slices.Concat(keys, noKey) {
		for i := range s.Pairs {
			vary(func(v *api.State) { v.Pairs[i].Key = key })
		}
	}
	for _, val := range slices.Concat(values, noVal) {
		for i := range s.Pairs {
			vary(func(v *api.State) { v.Pairs[i].Val = val })
		}
		for i := range s.Sessions {
			vary(func(v *api.State) { v.Sessions[i].Last.Val = val })
		}
	}
}

// all returns the variants of states of both schemas, small and great, and of the zero state.
func all() []api.State {
	return slices.Concat(variants(one()), variants(two()), variants(api.State{}), variants(api.State{Schema: 1}), variants(api.State{Schema: 2}),
		[]api.State{full(1, mostKeys, clients), full(2, mostKeys, clients), full(1, mostKeys+1, clients), full(2, mostKeys+1, clients), full(2, 3, clients+1), {Schema: 1, Pairs: []api.Pair{}, Sessions: []api.Session{}}, {Schema: 2, Pairs: []api.Pair{}, Sessions: []api.Session{}}})
}

// P27.1: the example of the chapter, and encodings written out by hand, in both schemas.
func TestExamples(t *testing.T) {
	for _, x := range []struct {
		s    api.State
		want string
	}{
		{api.State{Schema: 2}, "020000"},
		{api.State{Schema: 2, Pairs: []api.Pair{}, Sessions: []api.Session{}}, "020000"},
		{api.State{Schema: 2, Pairs: []api.Pair{{Key: "a", Val: "1", Rev: 5}}}, "02" + "01" + "0161" + "05" + "0131" + "00"},
		{api.State{Schema: 2, Pairs: []api.Pair{{Key: "a", Val: "1", Rev: 300}}}, "02" + "01" + "0161" + "ac02" + "0131" + "00"},
		{api.State{Schema: 2, Sessions: []api.Session{told(api.Answer{Client: 2, Seq: 9, Found: true, Val: "z", Rev: 6})}}, "02" + "00" + "01" + "02090001017a" + "06"},
		{api.State{Schema: 2, Sessions: []api.Session{told(api.Answer{Client: 2, Seq: 9, Found: true, Val: "z"})}}, "02" + "00" + "01" + "02090001017a" + "00"},
		{api.State{Schema: 2, Pairs: []api.Pair{{Key: "é", Val: "a b", Rev: 1}, {Key: "€", Rev: 127}}}, "02" + "02" + "02c3a9" + "01" + "03612062" + "03e282ac" + "7f" + "00" + "00"},
		{api.State{Schema: 2, Sessions: []api.Session{told(api.Answer{Client: 1, Seq: maxSeq, Err: api.ErrTorn, Rev: maxRev})}}, "02" + "00" + "01" + "01808080801011" + "0000" + "8080808010"},
		{two(), twoBytes},
		{api.State{Schema: 1}, "010000"},
		{api.State{Schema: 1, Pairs: []api.Pair{{Key: "a", Val: "1"}}}, "01" + "01" + "0161" + "0131" + "00"},
		{api.State{Schema: 1, Sessions: []api.Session{told(api.Answer{Client: 2, Seq: 9, Found: true, Val: "z"})}}, "01" + "00" + "01" + "02090001017a"},
		{one(), oneBytes},
	} {
		b, err := Put(x.s)
		if hex.EncodeToString(b) != x.want || err != api.OK {
			t.Errorf("Put(%+v) = %x, %d, want %s", x.s, b, err, x.want)
		}
		s, err := Get(unhex(t, x.want))
		if err != api.OK || text(s) != text(x.s) {
			t.Errorf("Get(%s) = %+v, %d, want %+v", x.want, s, err, x.s)
		}
		wantWritten(t, x.s)
		wantRecovered(t, x.s)
		if x.s.Schema == 1 {
			continue
		}
		b, err = Encode(x.s)
		if hex.EncodeToString(b) != x.want || err != api.OK {
			t.Errorf("Encode(%+v) = %x, %d, want %s", x.s, b, err, x.want)
		}
		s, err = Decode(unhex(t, x.want))
		if err != api.OK || text(s) != text(x.s) {
			t.Errorf("Decode(%s) = %+v, %d, want %+v", x.want, s, err, x.s)
		}
	}
}

// P27.1: a state that is not valid is ErrForm, also in schema 1; a valid one of schema 1 is ErrVersion of Encode, but not of Put; nothing else is returned.
func TestWriteErrors(t *testing.T) {
	in := func(s api.State, schema int) api.State {
		s.Schema = schema
		return s
	}
	rev := func(s api.State, n int) api.State {
		s.Sessions[1].Last.Rev = n
		return s
	}
	pair := func(s api.State, n int) api.State {
		s.Pairs[1].Rev = n
		return s
	}
	for _, x := range []struct {
		name        string
		s           api.State
		encode, put api.Errno
	}{
		{"the zero state", api.State{}, api.ErrForm, api.ErrForm},
		{"schema 1, empty", api.State{Schema: 1}, api.ErrVersion, api.OK},
		{"schema 2, empty", api.State{Schema: 2}, api.OK, api.OK},
		{"schema 3, empty", api.State{Schema: 3}, api.ErrForm, api.ErrForm},
		{"schema -1, empty", api.State{Schema: -1}, api.ErrForm, api.ErrForm},
		{"schema 257, empty", api.State{Schema: 257}, api.ErrForm, api.ErrForm},
		{"schema 258, empty", api.State{Schema: 258}, api.ErrForm, api.ErrForm},
		{"schema 1", one(), api.ErrVersion, api.OK},
		{"schema 2", two(), api.OK, api.OK},
		{"schema 1, revisions", in(two(), 1), api.ErrForm, api.ErrForm},
		{"schema 2, no revisions", in(one(), 2), api.ErrForm, api.ErrForm},
		{"schema 0", in(one(), 0), api.ErrForm, api.ErrForm},
		{"schema 3", in(two(), 3), api.ErrForm, api.ErrForm},
		{"schema 2, a pair with Rev 0", pair(two(), 0), api.ErrForm, api.ErrForm},
		{"schema 2, a pair with Rev -1", pair(two(), -1), api.ErrForm, api.ErrForm},
		{"schema 2, a pair with Rev 1", pair(two(), 1), api.OK, api.OK},
		{"schema 2, a pair with Rev beyond", pair(two(), maxRev+1), api.ErrForm, api.ErrForm},
		{"schema 1, a pair with Rev 1", pair(one(), 1), api.ErrForm, api.ErrForm},
		{"schema 1, an answer with Rev", rev(one(), 3), api.ErrForm, api.ErrForm},
		{"schema 2, an answer with Rev", rev(two(), 3), api.OK, api.OK},
		{"schema 2, an answer with Rev beyond", rev(two(), maxRev+1), api.ErrForm, api.ErrForm},
		{"schema 1, 64 pairs", full(1, mostKeys, clients), api.ErrVersion, api.OK},
		{"schema 2, 64 pairs", full(2, mostKeys, clients), api.OK, api.OK},
		{"schema 1, 65 pairs", full(1, mostKeys+1, clients), api.ErrForm, api.ErrForm},
		{"schema 2, 65 pairs", full(2, mostKeys+1, clients), api.ErrForm, api.ErrForm},
		{"schema 1, 9 clients", full(1, mostKeys, clients+1), api.ErrForm, api.ErrForm},
		{"schema 2, 9 clients", full(2, mostKeys, clients+1), api.ErrForm, api.ErrForm},
	} {
		t.Run(x.name, func(t *testing.T) {
			if errs := wantWritten(t, x.s); errs != [2]api.Errno{x.encode, x.put} {
				t.Errorf("%v, want %d, %d", errs, x.encode, x.put)
			}
			if b, err := Encode(x.s); err != x.encode || err != api.OK && b != nil {
				t.Errorf("Encode: %x, %d, want %d", b, err, x.encode)
			}
			if b, err := Put(x.s); err != x.put || err != api.OK && b != nil {
				t.Errorf("Put: %x, %d, want %d", b, err, x.put)
			}
		})
	}
}

// P27.1: every state that differs in one thing from a valid one, or from an empty one.
func TestWriteAll(t *testing.T) {
	counts := map[[2]api.Errno]int{}
	for _, s := range all() {
		counts[wantWritten(t, s)]++
	}
	wantCounts(t, counts, map[[2]api.Errno]int{
		{api.OK, api.OK}:           70,
		{api.ErrVersion, api.OK}:   70,
		{api.ErrForm, api.ErrForm}: 1000,
	})
}

// wantCounts fails if there are fewer of a kind than are wanted, or others.
func wantCounts[K comparable](t *testing.T, counts, least map[K]int) {
	t.Helper()
	for kind, n := range least {
		if counts[kind] < n {
			t.Errorf("too few of the kind %v, or others: %v", kind, counts)
		}
	}
	for kind := range counts {
		if _, is := least[kind]; !is {
			t.Errorf("another kind: %v", kind)
		}
	}
}

// P27.1, P27.3: random states, of which up to two things are changed; those that are valid are recovered.
func TestWriteRandom(t *testing.T) {
	r := rand.New(rand.NewSource(1))
	counts := map[[2]api.Errno]int{}
	for i := range 10000 {
		s := random(r, 1+i%2)
		for range r.Intn(3) {
			disturb(r, &s)
		}
		errs := wantWritten(t, s)
		counts[errs]++
		if errs[1] == api.OK {
			wantRecovered(t, s)
		}
	}
	wantCounts(t, counts, map[[2]api.Errno]int{
		{api.OK, api.OK}:           1500,
		{api.ErrVersion, api.OK}:   1500,
		{api.ErrForm, api.ErrForm}: 3000,
	})
}

// P27.1: the number of pairs and that of sessions, up to the limits.
func TestWriteCounts(t *testing.T) {
	for n := range mostKeys + 5 {
		for m := range clients + 3 {
			want := api.OK
			if n > mostKeys || m > clients {
				want = api.ErrForm
			}
			if errs := wantWritten(t, full(2, n, m)); errs != [2]api.Errno{want, want} {
				t.Fatalf("%d pairs, %d sessions: %v, want %d", n, m, errs, want)
			}
			if errs := wantWritten(t, full(1, n, m)); errs[1] != want {
				t.Fatalf("schema 1, %d pairs, %d sessions: %v, want %d", n, m, errs, want)
			}
		}
	}
}

// bad is bytes in hexadecimal digits, and the errors that Decode, Get and Migrate have for them.
type bad struct {
	b                    string
	decode, get, migrate api.Errno
}

// wantErrors fails if the errors for x are others, or anything is returned beside one.
func wantErrors(t *testing.T, x bad) {
	t.Helper()
	b := unhex(t, x.b)
	if errs := wantRead(t, b); errs != [3]api.Errno{x.decode, x.get, x.migrate} {
		t.Errorf("Decode, Get and Migrate of %s: %v, want %d, %d, %d", x.b, errs, x.decode, x.get, x.migrate)
	}
	if s, err := Decode(b); err != x.decode || err != api.OK && (s.Schema != 0 || len(s.Pairs) > 0 || len(s.Sessions) > 0) {
		t.Errorf("Decode(%s) = %+v, %d, want %d", x.b, s, err, x.decode)
	}
	if s, err := Get(b); err != x.get || err != api.OK && (s.Schema != 0 || len(s.Pairs) > 0 || len(s.Sessions) > 0) {
		t.Errorf("Get(%s) = %+v, %d, want %d", x.b, s, err, x.get)
	}
	if out, err := Migrate(b); err != x.migrate || err != api.OK && len(out) > 0 {
		t.Errorf("Migrate(%s) = %x, %d, want %d", x.b, out, err, x.migrate)
	}
}

// P27.1, P27.2: the first number, ahead of all other errors: the examples of the chapter, and others.
func TestFirstErrors(t *testing.T) {
	for _, x := range []bad{
		{"000000", api.ErrForm, api.ErrForm, api.ErrForm}, // the example of Get: no schema
		{"020000", api.OK, api.OK, api.ErrForm},           // the example of Migrate: another schema
		{"010000", api.ErrForm, api.OK, api.OK},
		{"", api.ErrShort, api.ErrShort, api.ErrShort},
		{"80", api.ErrShort, api.ErrShort, api.ErrShort},  // it ends too early ..
		{"82", api.ErrShort, api.ErrShort, api.ErrShort},  // .. and this does ..
		{"8000", api.ErrForm, api.ErrForm, api.ErrForm},   // .. it is none ..
		{"8100", api.ErrForm, api.ErrForm, api.ErrForm},   // .. nor is this ..
		{"820000", api.ErrForm, api.ErrForm, api.ErrForm}, // .. nor this ..
		{"03", api.ErrLong, api.ErrLong, api.ErrLong},     // .. it is greater than 2
		{"030000", api.ErrLong, api.ErrLong, api.ErrLong},
		{"7f", api.ErrLong, api.ErrLong, api.ErrLong},
		{"8101", api.ErrLong, api.ErrLong, api.ErrLong}, // 129
		{"8201", api.ErrLong, api.ErrLong, api.ErrLong}, // 130
		{"8102", api.ErrLong, api.ErrLong, api.ErrLong}, // 257
		{"8202", api.ErrLong, api.ErrLong, api.ErrLong}, // 258
		{"82020000", api.ErrLong, api.ErrLong, api.ErrLong},
		{"828080808080808001", api.ErrLong, api.ErrLong, api.ErrLong},
		{"82808080808080808001", api.ErrForm, api.ErrForm, api.ErrForm}, // ten bytes
		{"ffffffffffffffff7f", api.ErrLong, api.ErrLong, api.ErrLong},
		{"00", api.ErrForm, api.ErrForm, api.ErrForm}, // 0, whatever stands behind it
		{"0080", api.ErrForm, api.ErrForm, api.ErrForm},
		{"0041", api.ErrForm, api.ErrForm, api.ErrForm},
		{"01", api.ErrForm, api.ErrShort, api.ErrShort}, // the other schema, whatever stands behind it
		{"02", api.ErrShort, api.ErrShort, api.ErrForm},
		{"0100", api.ErrForm, api.ErrShort, api.ErrShort},
		{"0200", api.ErrShort, api.ErrShort, api.ErrForm},
		{"0141", api.ErrForm, api.ErrLong, api.ErrLong},
		{"0241", api.ErrLong, api.ErrLong, api.ErrForm},
		{"0180", api.ErrForm, api.ErrShort, api.ErrShort},
		{"0280", api.ErrShort, api.ErrShort, api.ErrForm},
		{"018000", api.ErrForm, api.ErrForm, api.ErrForm},
		{"028000", api.ErrForm, api.ErrForm, api.ErrForm},
		{oneBytes, api.ErrForm, api.OK, api.OK},
		{twoBytes, api.OK, api.OK, api.ErrForm},
		{upBytes, api.OK, api.OK, api.ErrForm},
		{"01" + twoBytes[2:], api.ErrForm, api.ErrShort, api.ErrShort}, // what is of one schema behind the number of the other: the revision of a is the length of its value, the length of its value a value, and the value the length of a key
		{"02" + oneBytes[2:], api.ErrShort, api.ErrShort, api.ErrForm},
	} {
		wantErrors(t, x)
	}
	if errs := wantRead(t, nil); errs != [3]api.Errno{api.ErrShort, api.ErrShort, api.ErrShort} {
		t.Errorf("no bytes: %v", errs)
	}
}

// P27.1: the errors of Decode behind the first number, in their order; Get has the same.
func TestDecodeErrors(t *testing.T) {
	for _, x := range []struct {
		b    string
		want api.Errno
	}{
		{"02c000", api.ErrForm},
		{"028001", api.ErrLong}, // 128 pairs come ahead of what is missing
		{"02ffffffffffffffff7f", api.ErrLong},
		{"02ffffffffffffffffff01", api.ErrForm},
		{"0240", api.ErrShort},
		{"020009", api.ErrLong}, // 9 sessions, likewise
		{"020008", api.ErrShort},
		{"0200ffffffffffffffff7f", api.ErrLong},
		{"020080", api.ErrShort},
		{"02008000", api.ErrForm},
		{"02000000", api.ErrForm}, // a byte is left
		{"020000ff", api.ErrForm},
		{"02000080", api.ErrForm},
		{"0201" + "016101" + "0131" + "00", api.OK},
		{"0201" + "016101" + "0131" + "0000", api.ErrForm},      // a byte is left
		{"0201" + "016101" + "0131", api.ErrShort},              // no number of sessions
		{"0201" + "0161" + "01", api.ErrShort},                  // no value
		{"0201" + "0161", api.ErrShort},                         // no revision
		{"0201" + "0161" + "80" + "0131" + "00", api.ErrShort},  // the revision takes the byte behind it, and the value is longer than what is left
		{"0201" + "0161" + "8000" + "0131" + "00", api.ErrForm}, // the revision is no number
		{"0201" + "016100" + "0131" + "00", api.ErrForm},        // the revision 0
		{"0201" + "0161" + "8080808010" + "0131" + "00", api.OK},
		{"0201" + "0161" + "8180808010" + "0131" + "00", api.ErrForm},         // the revision 2^32 + 1
		{"0201" + "0161" + "ffffffffffffffff7f" + "0131" + "00", api.ErrForm}, // the greatest number
		{"0201" + "0161" + "ffffffffffffffff7f" + "0131", api.ErrShort},       // likewise, but bytes are missing
		{"0201" + "0161" + "00" + "0131", api.ErrShort},                       // the revision 0, but bytes are missing
		{"0201" + "00" + "01" + "0131" + "00", api.ErrForm},                   // the key is empty
		{"0201" + "00" + "01" + "0131" + "0000", api.ErrForm},                 // likewise, and a byte is left
		{"0201" + "00" + "01" + "0131", api.ErrShort},                         // likewise, but bytes are missing
		{"0201" + "02610101" + "31" + "00", api.ErrShort},                     // the key takes the revision, and the value is longer than what is left
		{"0201" + "017f01" + "0131", api.ErrShort},                            // the key is none, but bytes are missing
		{"0201" + "017f01" + "0131" + "00", api.ErrForm},
		{"0201" + "016101" + "017f" + "00", api.ErrForm},                     // the value is none
		{"0202" + "016101" + "0131" + "016102" + "0132" + "00", api.ErrForm}, // two pairs with one key
		{"0202" + "016201" + "0131" + "016102" + "0132" + "00", api.ErrForm}, // two that descend
		{"0202" + "016101" + "0131" + "016202" + "0132" + "00", api.OK},
		{"0202" + "016105" + "0131" + "016202" + "0132" + "00", api.OK}, // revisions in any order
		{"0202" + "016101" + "0131" + "016200" + "0132" + "00", api.ErrForm},
		{"020001" + "010100000000", api.OK},
		{"020001" + "010100000005", api.OK},
		{"020001" + "0101000000", api.ErrShort},                   // an answer in V1
		{"020001" + "010100000080", api.ErrShort},                 // a revision that ends too early
		{"020001" + "01010000008000", api.ErrForm},                // one that is no number
		{"020001" + "01010000008080808010", api.OK},               // the revision 2^32
		{"020001" + "01010000008180808010", api.ErrForm},          // one more
		{"020001" + "000100000000", api.ErrForm},                  // client 0
		{"020001" + "080100000000", api.OK},                       // client 8
		{"020001" + "090100000000", api.ErrForm},                  // client 9
		{"020001" + "010000000000", api.ErrForm},                  // number 0
		{"020001" + "01808080801000000000", api.OK},               // number 2^32
		{"020001" + "01818080801000000000", api.ErrForm},          // one more
		{"020001" + "010111000000", api.OK},                       // the last error
		{"020001" + "010112000000", api.ErrForm},                  // one more
		{"020001" + "010100020000", api.ErrForm},                  // the flag 2
		{"020001" + "0101000002", api.ErrShort},                   // a value that ends too early
		{"020001" + "01010000", api.ErrShort},                     // no value
		{"020001" + "0101000001" + "0a" + "00", api.ErrForm},      // a value that is none
		{"020001" + "0901000001", api.ErrShort},                   // client 9, but bytes are missing
		{"020001" + "090100020000", api.ErrForm},                  // client 9, and the flag 2
		{"020001" + "01010000000000", api.ErrForm},                // a byte is left
		{"020002" + "010100000000" + "010100000000", api.ErrForm}, // two sessions of one client
		{"020002" + "020100000000" + "010100000000", api.ErrForm}, // two that descend
		{"020002" + "010100000000" + "020100000000", api.OK},
		{"0201" + "016101" + "0131" + "01" + "010100000004", api.OK},
		{"0201" + "01ff01" + "0131" + "09", api.ErrLong}, // 9 sessions come ahead of a key that is none
		{"0201" + "016100" + "0131" + "09", api.ErrLong}, // .. and of a revision that is not valid
	} {
		wantErrors(t, bad{x.b, x.want, x.want, api.ErrForm})
	}
}

// P27.1, P27.2: the errors of Get and Migrate for what begins with 1 are those of layer 26.
func TestOlderErrors(t *testing.T) {
	for _, x := range []struct {
		b    string
		want api.Errno
	}{
		{"01c000", api.ErrForm},
		{"018001", api.ErrLong},
		{"0140", api.ErrShort},
		{"010009", api.ErrLong},
		{"010008", api.ErrShort},
		{"01000000", api.ErrForm}, // a byte is left
		{"01" + "01" + "01610131" + "00", api.OK},
		{"01" + "01" + "01610131" + "0000", api.ErrForm},
		{"01" + "01" + "01610131", api.ErrShort},
		{"01" + "01" + "016101" + "0131" + "00", api.ErrLong}, // a pair with the revision 1: its value is taken for a number of 49 sessions
		{"01" + "01" + "01ff0131" + "00", api.ErrForm},        // the key is none
		{"01" + "01" + "0161017f" + "00", api.ErrForm},        // the value is none
		{"01" + "02" + "01610131" + "01610132" + "00", api.ErrForm},
		{"01" + "02" + "01610131" + "01620132" + "00", api.OK},
		{"010001" + "0101000000", api.OK},
		{"010001" + "0901000000", api.ErrForm},   // client 9
		{"010001" + "0101000200", api.ErrForm},   // the flag 2
		{"010001" + "010100000000", api.ErrForm}, // an answer in V2, without a revision
		{"010001" + "010100000003", api.ErrForm}, // an answer in V2
		{"01" + "01" + "01ff0131" + "09", api.ErrLong},
	} {
		wantErrors(t, bad{x.b, api.ErrForm, x.want, x.want})
		if _, err := snapone.Decode(unhex(t, x.b)); err != x.want {
			t.Errorf("snapone.Decode(%s) = %d, want %d", x.b, err, x.want)
		}
	}
}

// P27.1, P27.2: the first number: every one of a byte, and many of more, ahead of a whole rest, half a one, and none.
func TestFirst(t *testing.T) {
	heads := [][]byte{{}, {0x80}, {0x81}, {0x82}, {0x80, 0x80}, {0x81, 0x80}, {0x81, 0}, {0x82, 0}, {0xff, 0xff, 0}}
	for _, n := range numbers {
		heads = append(heads, binary.AppendUvarint(nil, uint64(n)))
	}
	for n := range 300 {
		heads = append(heads, binary.AppendUvarint(nil, uint64(n)))
	}
	older, newer := encoded(1, one())[1:], encoded(2, two())[1:]
	counts := [3]map[api.Errno]int{{}, {}, {}}
	for _, head := range heads {
		for _, tail := range [][]byte{{}, {0}, {0, 0}, {0, 0, 0}, {0x41}, {0x80, 0}, older, older[:9], append(slices.Clone(older), 1), newer, newer[:9], append(slices.Clone(newer), 1)} {
			for i, err := range wantRead(t, slices.Concat(head, tail)) {
				counts[i][err]++
			}
		}
	}
	for i, count := range counts {
		wantCounts(t, count, map[api.Errno]int{api.OK: 3 + i%2, api.ErrShort: 10, api.ErrForm: 20, api.ErrLong: 2000})
	}
}

// P27.1: at most 64 pairs and 8 sessions are read, also where all of them are there; ErrLong comes ahead of all that stands behind.
func TestReadCounts(t *testing.T) {
	for n := range mostKeys + 70 {
		for _, m := range []int{0, 1, clients - 1, clients, clients + 1, clients + 2, 127, 128, 300} {
			older, newer := encoded(1, full(1, n, m)), encoded(2, full(2, n, m))
			want := api.OK
			if n > mostKeys || m > clients {
				want = api.ErrLong
			}
			if errs := wantRead(t, older); errs != [3]api.Errno{api.ErrForm, want, want} {
				t.Fatalf("schema 1, %d pairs, %d sessions: %v, want %d", n, m, errs, want)
			}
			if errs := wantRead(t, newer); errs != [3]api.Errno{want, want, api.ErrForm} {
				t.Fatalf("schema 2, %d pairs, %d sessions: %v, want %d", n, m, errs, want)
			}
			if want == api.OK {
				want = api.ErrForm
			}
			if errs := wantRead(t, append(newer, 0)); errs != [3]api.Errno{want, want, api.ErrForm} {
				t.Fatalf("schema 2, %d pairs, %d sessions, and a byte: %v, want %d", n, m, errs, want)
			}
		}
	}
	for _, n := range numbers {
		if n < 0 {
			continue
		}
		count := binary.AppendUvarint(nil, uint64(n))
		for room := range 80 {
			zeros := make([]byte, room)
			for schema := range byte(3) {
				wantRead(t, slices.Concat([]byte{schema}, count, zeros))
				wantRead(t, slices.Concat([]byte{schema, 0}, count, zeros))
			}
		}
	}
}

// P27.1: what ends too early is ErrShort, wherever it ends; what has bytes left is ErrForm, whatever they are.
func TestReadEnds(t *testing.T) {
	for _, s := range []api.State{two(), full(2, mostKeys, clients), full(2, 0, 1), full(2, 1, 0), {Schema: 2}, one(), full(1, 1, 1), {Schema: 1}} {
		b := encoded(s.Schema, s)
		short := [3]api.Errno{api.ErrShort, api.ErrShort, api.ErrForm}
		if s.Schema == 1 {
			short = [3]api.Errno{api.ErrForm, api.ErrShort, api.ErrShort}
		}
		for size := 1; size < len(b); size++ {
			if errs := wantRead(t, b[:size]); errs != short {
				t.Fatalf("%x: %v", b[:size], errs)
			}
		}
		for c := range 256 {
			for _, more := range [][]byte{{byte(c)}, {byte(c), 0}, {0, byte(c)}, {byte(c), byte(c), byte(c)}} {
				if errs := wantRead(t, slices.Concat(b, more)); errs != [3]api.Errno{api.ErrForm, api.ErrForm, api.ErrForm} {
					t.Fatalf("%x, and %x: %v", b, more, errs)
				}
			}
		}
		if errs := wantRead(t, slices.Concat(b, b)); errs != [3]api.Errno{api.ErrForm, api.ErrForm, api.ErrForm} {
			t.Fatalf("%x, twice: %v", b, errs)
		}
	}
}

// P27.1: the bytes of states that are not valid are ErrForm, in each field and each order.
func TestReadInvalid(t *testing.T) {
	counts := map[[3]api.Errno]int{}
	for _, s := range slices.Concat(variants(two()), variants(api.State{Schema: 2})) {
		// Numbers from 0 on are in the bytes.
		s.Schema = 2
		for i := range s.Pairs {
			s.Pairs[i].Rev = max(s.Pairs[i].Rev, 0)
		}
		for i, x := range s.Sessions {
			x.Last.Client, x.Last.Seq, x.Last.Err, x.Last.Rev = max(x.Last.Client, 0), max(x.Last.Seq, 0), max(x.Last.Err, 0), max(x.Last.Rev, 0)
			s.Sessions[i] = told(x.Last)
		}
		want := api.OK
		if !isValid(s) {
			want = api.ErrForm
		}
		b := encoded(2, s)
		got, err := Decode(b)
		if err != want || err == api.OK && text(got) != text(s) || err != api.OK && text(got) != text(api.State{}) {
			t.Fatalf("Decode of %+v = %+v, %d, want %d", s, got, err, want)
		}
		counts[wantRead(t, b)]++
		wantRead(t, append(b, 0))
	}
	wantCounts(t, counts, map[[3]api.Errno]int{
		{api.OK, api.OK, api.ErrForm}:           300,
		{api.ErrForm, api.ErrForm, api.ErrForm}: 200,
	})
}

// P27.1: keys and values have no limit in the bytes but that they are there: too long ones are states that are not valid.
func TestReadLong(t *testing.T) {
	for _, n := range []int{keyBytes, keyBytes + 1, valBytes, valBytes + 1, 127, 128, 1000, 70000} {
		long := strings.Repeat("k", n)
		for _, x := range []struct {
			s     api.State
			limit int
		}{
			{api.State{Schema: 2, Pairs: []api.Pair{{Key: long, Rev: 1}}}, keyBytes},
			{api.State{Schema: 2, Pairs: []api.Pair{{Key: "k", Val: long, Rev: 1}}}, valBytes},
			{api.State{Schema: 2, Sessions: []api.Session{told(api.Answer{Client: 1, Seq: 1, Val: long})}}, valBytes},
		} {
			want := api.OK
			if n > x.limit {
				want = api.ErrForm
			}
			b := encoded(2, x.s)
			if errs := wantRead(t, b); errs != [3]api.Errno{want, want, api.ErrForm} {
				t.Errorf("%d bytes of at most %d: %v, want %d", n, x.limit, errs, want)
			}
			if errs := wantRead(t, b[:len(b)-1]); errs != [3]api.Errno{api.ErrShort, api.ErrShort, api.ErrForm} {
				t.Errorf("%d bytes of at most %d, without the last byte: %v", n, x.limit, errs)
			}
		}
	}
}

// P27.1, P27.2: all strings of a few bytes, among them all short ones, and longer ones that begin with the number of a schema.
func TestReadSmall(t *testing.T) {
	for _, x := range []struct {
		head     []byte
		alphabet []byte
		size     int
		fine     [3]int // of how many Decode, Get and Migrate have no error
	}{
		{nil, []byte{0, 1, 2, 'a', 0x80}, 7, [3]int{4, 8, 4}},
		{[]byte{1}, []byte{0, 1}, 13, [3]int{0, 5, 5}},
		{[]byte{2}, []byte{0, 1}, 13, [3]int{9, 9, 0}},
		{[]byte{2}, []byte{0, 1, 'a'}, 9, [3]int{53, 53, 0}},
	} {
		counts := [3]map[api.Errno]int{{}, {}, {}}
		level := [][]byte{x.head}
		for range x.size + 1 {
			var next [][]byte
			for _, b := range level {
				for i, err := range wantRead(t, b) {
					counts[i][err]++
				}
				for _, c := range x.alphabet {
					next = append(next, append(slices.Clone(b), c))
				}
			}
			level = next
		}
		if got := [3]int{counts[0][api.OK], counts[1][api.OK], counts[2][api.OK]}; got != x.fine {
			t.Errorf("up to %d bytes of %x behind %x: %v without an error, want %v", x.size, x.alphabet, x.head, got, x.fine)
		}
	}
}

// P27.1, P27.2: whatever stands at any place of an encoding in place of one byte, or beside it.
func TestReadChanged(t *testing.T) {
	counts := map[api.Errno]int{}
	for _, s := range []api.State{two(), full(2, 2, 2), one()} {
		b := encoded(s.Schema, s)
		for i := range b {
			for c := range 256 {
				changed := slices.Clone(b)
				changed[i] = byte(c)
				counts[wantRead(t, changed)[1]]++
				counts[wantRead(t, slices.Insert(slices.Clone(b), i, byte(c)))[1]]++
			}
			counts[wantRead(t, slices.Delete(slices.Clone(b), i, i+1))[1]]++
		}
	}
	wantCounts(t, counts, map[api.Errno]int{api.OK: 500, api.ErrShort: 500, api.ErrForm: 500, api.ErrLong: 500})
}

// P27.1, P27.2: random changes to the encodings of random states.
func TestReadRandom(t *testing.T) {
	r := rand.New(rand.NewSource(2))
	counts := map[api.Errno]int{}
	for n := range 20000 {
		schema := 1 + n%2
		b := encoded(schema, random(r, schema))
		for range 1 + r.Intn(3) {
			i, j := r.Intn(len(b)+1), r.Intn(len(b)+1)
			switch r.Intn(5) {
			case 0:
				b = b[:i]
			case 1:
				b = slices.Insert(b, i, byte(r.Intn(256)))
			case 2:
				b = slices.Concat(b[:min(i, j)], b[max(i, j):])
			case 3:
				b = slices.Concat(b[:max(i, j)], b[min(i, j):])
			case 4:
				if i < len(b) {
					b[i] ^= 1 << r.Intn(8)
				}
			}
		}
		counts[wantRead(t, b)[1]]++
	}
	wantCounts(t, counts, map[api.Errno]int{api.OK: 300, api.ErrShort: 300, api.ErrForm: 300, api.ErrLong: 300})
}

// P27.1: for schema 1, Put and Get are what layer 26 does.
func TestOlder(t *testing.T) {
	counts := map[api.Errno]int{}
	for _, s := range all() {
		if s.Schema == 2 {
			continue
		}
		want, wantErr := snapone.Encode(s)
		if b, err := Put(s); err != wantErr || !bytes.Equal(b, want) {
			t.Fatalf("Put(%+v) = %x, %d, but layer 26 has %x, %d", s, b, err, want, wantErr)
		}
		counts[wantErr]++
		if wantErr != api.OK {
			continue
		}
		state, stateErr := snapone.Decode(want)
		if got, err := Get(want); err != stateErr || text(got) != text(state) {
			t.Fatalf("Get(%x) = %+v, %d, but layer 26 has %+v, %d", want, got, err, state, stateErr)
		}
	}
	wantCounts(t, counts, map[api.Errno]int{api.OK: 70, api.ErrForm: 500})
}

// P27.2: the example of the chapter, and migrated encodings written out by hand.
func TestMigrateExamples(t *testing.T) {
	for _, x := range []struct {
		b, want string
		err     api.Errno
	}{
		{"010000", "020000", api.OK},
		{"01" + "01" + "0161" + "0131" + "00", "02" + "01" + "0161" + "01" + "0131" + "00", api.OK},
		{"01" + "02" + "0161" + "00" + "02c3a9" + "0132" + "00", "02" + "02" + "0161" + "01" + "00" + "02c3a9" + "01" + "0132" + "00", api.OK},
		{"01" + "00" + "01" + "02090001017a", "02" + "00" + "01" + "02090001017a" + "00", api.OK},
		{oneBytes, upBytes, api.OK},
		{"020000", "", api.ErrForm}, // the example: a state of schema 2
		{twoBytes, "", api.ErrForm},
		{upBytes, "", api.ErrForm}, // what was migrated is not migrated again
		{"0100", "", api.ErrShort},
		{"0141", "", api.ErrLong},
		{"03", "", api.ErrLong},
		{"", "", api.ErrShort},
	} {
		b, err := Migrate(unhex(t, x.b))
		if hex.EncodeToString(b) != x.want || err != x.err {
			t.Errorf("Migrate(%s) = %x, %d, want %s, %d", x.b, b, err, x.want, x.err)
		}
		if wantMigrated(t, unhex(t, x.b)) != x.err {
			t.Errorf("Migrate(%s): not the error %d", x.b, x.err)
		}
	}
	if b, err := Migrate(nil); err != api.ErrShort || len(b) > 0 {
		t.Errorf("Migrate(nil) = %x, %d", b, err)
	}
}

// wantUp fails if the encoding of s, which is valid and of schema 1, is not migrated to that of a state with the same contents, whose revisions are 1.
func wantUp(t *testing.T, s api.State) {
	t.Helper()
	older, _ := snapone.Encode(s)
	b, err := Migrate(older)
	if err != api.OK {
		t.Fatalf("Migrate(%x) = %d", older, err)
	}
	up, err := Decode(b)
	if err != api.OK || up.Schema != 2 || len(up.Pairs) != len(s.Pairs) || !slices.Equal(up.Sessions, s.Sessions) {
		t.Fatalf("%+v became %+v, %d", s, up, err)
	}
	for i, p := range up.Pairs {
		if p != (api.Pair{Key: s.Pairs[i].Key, Val: s.Pairs[i].Val, Rev: 1}) {
			t.Fatalf("%+v became %+v", s.Pairs[i], p)
		}
	}
	if !migr.Same(migr.Says(up), migr.Says(s)) || migr.Check(up) != api.OK {
		t.Fatalf("%+v became %+v, with other contents", s, up)
	}
	below, _ := migr.Up(s)
	if want, err := Encode(below); err != api.OK || !bytes.Equal(b, want) {
		t.Fatalf("Migrate(%x) = %x, but the encoding of the migrated state is %x, %d", older, b, want, err)
	}
	if again, err := Migrate(b); err != api.ErrForm || len(again) > 0 {
		t.Fatalf("Migrate(%x) = %x, %d, once more", b, again, err)
	}
	if got, err := Get(older); err != api.OK || text(got) != text(s) {
		t.Fatalf("Get(%x) = %+v, %d, which is of schema 1 still", older, got, err)
	}
}

// P27.2, P27.3: every valid state of schema 1 among all variants, every number of pairs and of sessions, and random states.
func TestMigrated(t *testing.T) {
	n := 0
	for _, s := range all() {
		if s.Schema == 1 && isValid(s) {
			wantUp(t, s)
			n++
		}
	}
	if n < 150 {
		t.Errorf("%d states", n)
	}
	for n := range mostKeys + 1 {
		for m := range clients + 1 {
			wantUp(t, full(1, n, m))
		}
	}
	r := rand.New(rand.NewSource(3))
	for range 5000 {
		wantUp(t, random(r, 1))
	}
}

// P27.3: what commands of V1 make of a state and of its migrated encoding has the same contents, and their answers are the same.
func TestMigratedGoesOn(t *testing.T) {
	r := rand.New(rand.NewSource(4))
	for range 500 {
		s := random(r, 1)
		older, _ := Put(s)
		b, _ := Migrate(older)
		up, err := Get(b)
		if err != api.OK {
			t.Fatalf("Get(%x) = %d", b, err)
		}
		for seq := range 20 {
			c := api.Cmd{Kind: some(r, []int{api.CmdPut, api.CmdGet, api.CmdDel}), Client: 1, Seq: seq + 1, Key: some(r, keys)}
			if c.Kind == api.CmdPut {
				c.Val = some(r, values)
			}
			var was, is api.Answer
			s.Pairs, was = kvone.Do(s.Pairs, c)
			up.Pairs, is = kvtwo.Do(up.Pairs, c)
			if was != is {
				t.Fatalf("%+v: %+v in schema 1, %+v in schema 2", c, was, is)
			}
		}
		wantRecovered(t, s)
		wantRecovered(t, up)
		if !migr.Same(migr.Says(up), migr.Says(s)) {
			t.Fatalf("%+v in schema 1, %+v in schema 2", s, up)
		}
	}
}

// P27.3: every valid state among all variants is recovered, and no two different ones have one encoding, whatever their schemas.
func TestRecovered(t *testing.T) {
	by := map[string]string{}
	for _, s := range all() {
		if !isValid(s) {
			continue
		}
		wantRecovered(t, s)
		b, _ := Put(s)
		if was, is := by[string(b)]; is && was != text(s) {
			t.Fatalf("%x is the encoding of two states:\n%s\n%s", b, was, text(s))
		}
		by[string(b)] = text(s)
	}
	if len(by) < 400 {
		t.Errorf("%d encodings", len(by))
	}
}

// P27.1, P27.3: the sessions that are recovered have the client and the number of their answers, which stand as layer 9 encodes them in V2.
func TestSessions(t *testing.T) {
	r := rand.New(rand.NewSource(5))
	for range 2000 {
		s := random(r, 2)
		s.Pairs = nil
		want := []byte{2, 0, byte(len(s.Sessions))}
		for _, x := range s.Sessions {
			b, err := answer.Encode(api.V2, x.Last)
			if err != api.OK {
				t.Fatalf("%+v: %d", x.Last, err)
			}
			want = append(want, b...)
		}
		if b, err := Encode(s); err != api.OK || !bytes.Equal(b, want) {
			t.Fatalf("Encode(%+v) = %x, %d, want %x", s, b, err, want)
		}
		got, err := Decode(want)
		if err != api.OK || !slices.Equal(got.Sessions, s.Sessions) {
			t.Fatalf("Decode(%x) = %+v, %d, want %+v", want, got, err, s)
		}
	}
}

// P27.3: results are new memory: those of two calls with the same argument share none.
func TestMemory(t *testing.T) {
	for _, s := range []api.State{one(), two(), full(1, mostKeys, clients), full(2, mostKeys, clients), {Schema: 1}, {Schema: 2}} {
		first, _ := Put(s)
		second, _ := Put(s)
		spoilBytes(first)
		if !bytes.Equal(second, encoded(s.Schema, s)) {
			t.Errorf("two encodings of %+v share memory", s)
		}
		a, _ := Get(second)
		b, _ := Get(second)
		spoil(a)
		if text(b) != text(s) {
			t.Errorf("two states of %x share memory", second)
		}
		given, _ := roomy(s)
		got, _ := Put(given)
		spoil(given)
		if !bytes.Equal(got, second) {
			t.Errorf("the encoding of %+v changes with the state", s)
		}
		if s.Schema == 2 {
			continue
		}
		up, _ := Migrate(second)
		again, _ := Migrate(second)
		spoilBytes(up)
		if want, _ := migrated(second); !bytes.Equal(again, want) {
			t.Errorf("two migrations of %x share memory", second)
		}
	}
}
