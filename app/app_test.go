package app

import (
	"fmt"
	"maps"
	"math"
	"math/rand"
	"slices"
	"strings"
	"testing"

	"changeover/api"
	"changeover/cmd"
	"changeover/kvtwo"
	"changeover/migr"
	"changeover/snaptwo"
	"changeover/vers"
)

// The limits of the chapters, written out.
const (
	keyBytes = 24
	valBytes = 48
	mostKeys = 64
	clients  = 8
	nodes    = 9
	errnos   = 17
	maxSeq   = 4294967296
	maxRev   = 4294967296
)

// keys, in the order of their bytes, and strings that are none.
var (
	keys  = []string{"-", "--", "0", "00", "1", ":", "A", "_", "a", "aa", "b", strings.Repeat("z", keyBytes), "¡", "é", strings.Repeat("é", keyBytes/2), "€", "\U0010ffff"}
	noKey = []string{"", " ", "a b", "a/b", "\"", "a\n", "\x00", "~", "\u00a0", "\ufffd", "\xff", "a\xe2\x82", strings.Repeat("z", keyBytes+1), strings.Repeat("é", keyBytes/2) + "z"}
)

// values, and strings that are none.
var (
	values = []string{"", "x", " ", "a b", "~", "\"", "é", "€", "\ufffd", strings.Repeat("v", valBytes), strings.Repeat("é", valBytes/2)}
	noVal  = []string{"\x00", "\n", "\x1f", "a\x7f", "\xff", "a\xe2\x82", "\xed\xa0\x80", strings.Repeat("v", valBytes+1), strings.Repeat("é", valBytes/2) + "v"}
)

// numbers: those at the limits, beside and beyond them, and at those of Go's number types.
var numbers = []int{
	math.MinInt, math.MinInt + 1, -maxSeq - 1, -maxSeq, -256, -8, -2, -1, 0, 1, 2, 3, 6, 7, 8, 9, 10, 16, 17, 18, 255, 256, 257, 258,
	math.MaxInt32, math.MaxInt32 + 1, math.MaxUint32 - 1, math.MaxUint32, maxSeq, maxSeq + 1, maxSeq + 2, 2*maxSeq + 1, math.MaxInt - 1, math.MaxInt,
}

// put, get, del and cas return the commands of a client.
func put(client, seq int, key, val string) api.Cmd {
	return api.Cmd{Kind: api.CmdPut, Client: client, Seq: seq, Key: key, Val: val}
}

func get(client, seq int, key string) api.Cmd {
	return api.Cmd{Kind: api.CmdGet, Client: client, Seq: seq, Key: key}
}

func del(client, seq int, key string) api.Cmd {
	return api.Cmd{Kind: api.CmdDel, Client: client, Seq: seq, Key: key}
}

func cas(client, seq int, key, old, val string) api.Cmd {
	return api.Cmd{Kind: api.CmdCas, Client: client, Seq: seq, Key: key, Old: old, Val: val}
}

// activate is the activation.
var activate = api.Cmd{Kind: api.CmdActivate}

// nobodys: the commands that no client owns and that are not the activation.
var nobodys = []api.Cmd{{Kind: api.CmdNop}, {Kind: api.CmdAdd, Node: 1}, {Kind: api.CmdAdd, Node: nodes}, {Kind: api.CmdDrop, Node: 1}, {Kind: api.CmdDrop, Node: nodes}}

// told returns the session of which a is the last answer.
func told(a api.Answer) api.Session {
	return api.Session{Client: a.Client, Seq: a.Seq, Last: a}
}

// one and two return valid states of both schemas: two is not what one is migrated to.
func one() api.State {
	return api.State{
		Schema: 1,
		Pairs:  []api.Pair{{Key: "a", Val: "1"}, {Key: "b"}, {Key: "c", Val: "x y"}},
		Sessions: []api.Session{
			told(api.Answer{Client: 2, Seq: 10}),
			told(api.Answer{Client: 3, Seq: maxSeq, Err: api.ErrFull}),
			told(api.Answer{Client: 8, Seq: 7, Found: true, Val: "old"}),
		},
	}
}

func two() api.State {
	return api.State{
		Schema: 2,
		Pairs:  []api.Pair{{Key: "a", Val: "1", Rev: 1}, {Key: "b", Rev: maxRev}, {Key: "c", Val: "x y", Rev: maxRev - 1}},
		Sessions: []api.Session{
			told(api.Answer{Client: 2, Seq: 10, Found: true, Val: "w", Rev: maxRev}),
			told(api.Answer{Client: 3, Seq: maxSeq, Err: api.ErrNone}),
			told(api.Answer{Client: 8, Seq: 7, Err: api.ErrStale, Found: true, Val: "old", Rev: 5}),
		},
	}
}

// full returns a valid state of the schema with n pairs, and no sessions.
func full(schema, n int) api.State {
	s := api.State{Schema: schema}
	for i := range n {
		s.Pairs = append(s.Pairs, api.Pair{Key: fmt.Sprintf("k%04d", 2*i+1), Val: fmt.Sprint("v", i), Rev: (i + 1) * (schema - 1)})
	}
	return s
}

// wrongState returns ErrForm if s is not valid: keys and values come from the lists above, or are made valid.
func wrongState(s api.State) api.Errno {
	ok := (s.Schema == 1 || s.Schema == 2) && len(s.Pairs) <= mostKeys
	for i, p := range s.Pairs {
		ok = ok && (i == 0 || s.Pairs[i-1].Key < p.Key) && !slices.Contains(noKey, p.Key) && !slices.Contains(noVal, p.Val)
		ok = ok && (s.Schema == 1 && p.Rev == 0 || s.Schema == 2 && p.Rev > 0 && p.Rev <= maxRev)
	}
	for i, x := range s.Sessions {
		a := x.Last
		ok = ok && (i == 0 || s.Sessions[i-1].Client < x.Client) && x.Client == a.Client && x.Seq == a.Seq
		ok = ok && x.Client > 0 && x.Client <= clients && x.Seq > 0 && x.Seq <= maxSeq
		ok = ok && a.Err >= 0 && a.Err <= errnos && !slices.Contains(noVal, a.Val)
		ok = ok && (a.Rev == 0 || s.Schema == 2 && a.Rev > 0 && a.Rev <= maxRev)
	}
	if !ok {
		return api.ErrForm
	}
	return api.OK
}

// wrongCmd returns the error of c: of its kind, its numbers, its strings, and of the fields that its kind does not have, in this order.
func wrongCmd(c api.Cmd) api.Errno {
	owned, node := c.Kind >= 2 && c.Kind <= 5, c.Kind == 7 || c.Kind == 8
	key, val, old := owned, c.Kind == 2 || c.Kind == 5, c.Kind == 5
	switch {
	case c.Kind < 1 || c.Kind > 8:
		return api.ErrKind
	case owned && (c.Client < 1 || c.Client > clients || c.Seq < 1 || c.Seq > maxSeq), node && (c.Node < 1 || c.Node > nodes):
		return api.ErrRange
	case key && slices.Contains(noKey, c.Key), val && slices.Contains(noVal, c.Val), old && slices.Contains(noVal, c.Old):
		return api.ErrText
	case !owned && (c.Client != 0 || c.Seq != 0), !node && c.Node != 0, !key && c.Key != "", !val && c.Val != "", !old && c.Old != "":
		return api.ErrForm
	}
	return api.OK
}

// machine carries out valid commands, by maps.
type machine struct {
	active bool
	vals   map[string]string
	revs   map[string]int
	last   map[int]api.Answer
}

// machineOf returns the machine of a valid state.
func machineOf(s api.State) *machine {
	m := &machine{active: s.Schema == 2, vals: map[string]string{}, revs: map[string]int{}, last: map[int]api.Answer{}}
	for _, p := range s.Pairs {
		m.vals[p.Key], m.revs[p.Key] = p.Val, p.Rev
	}
	for _, x := range s.Sessions {
		m.last[x.Client] = x.Last
	}
	return m
}

// state returns the state of the machine.
func (m *machine) state() api.State {
	s := api.State{Schema: 1}
	if m.active {
		s.Schema = 2
	}
	for _, key := range slices.Sorted(maps.Keys(m.vals)) {
		s.Pairs = append(s.Pairs, api.Pair{Key: key, Val: m.vals[key], Rev: m.revs[key]})
	}
	for client := range clients + 1 {
		if a, is := m.last[client]; is {
			s.Sessions = append(s.Sessions, api.Session{Client: client, Seq: a.Seq, Last: a})
		}
	}
	return s
}

// do carries out c and returns the answer.
func (m *machine) do(c api.Cmd) api.Answer {
	if c.Kind == 6 && !m.active {
		m.active = true
		for key := range m.vals {
			m.revs[key] = 1
		}
	}
	if c.Client == 0 {
		return api.Answer{}
	}
	a := api.Answer{Client: c.Client, Seq: c.Seq}
	last := m.last[c.Client]
	switch {
	case c.Seq == last.Seq:
		return last
	case c.Seq < last.Seq:
		a.Err = 15
		return a
	case c.Kind == 5 && !m.active:
		a.Err = 14
		return a
	}
	m.last[c.Client] = m.effect(c, a)
	return m.last[c.Client]
}

// effect carries out c, a new command that is not refused, and returns the answer that begins as a.
func (m *machine) effect(c api.Cmd, a api.Answer) api.Answer {
	val, found := m.vals[c.Key]
	full := len(m.vals) == mostKeys
	switch {
	case c.Kind == 2 && !found && full:
		a.Err = 11
		return a
	case c.Kind == 5 && !found:
		a.Err = 10
		return a
	}
	a.Found, a.Val = found, val
	switch {
	case c.Kind == 4:
		delete(m.vals, c.Key)
		delete(m.revs, c.Key)
	case c.Kind == 5 && val != c.Old:
		a.Err, a.Rev = 15, m.revs[c.Key]
	case c.Kind == 2, c.Kind == 5:
		m.vals[c.Key] = c.Val
		if m.active && m.revs[c.Key] < maxRev {
			m.revs[c.Key]++
		}
	}
	if c.Kind == 5 && a.Err == 0 {
		a.Rev = m.revs[c.Key]
	}
	return a
}

// ran returns what Run is to return.
func ran(s api.State, l []api.Cmd) (api.State, []api.Answer, api.Errno) {
	if err := wrongState(s); err != api.OK {
		return api.State{}, nil, err
	}
	m := machineOf(s)
	var answers []api.Answer
	for _, c := range l {
		if err := wrongCmd(c); err != api.OK {
			return api.State{}, nil, err
		}
		answers = append(answers, m.do(c))
	}
	return m.state(), answers, api.OK
}

// same reports whether all that is in a and b is equal, field by field.
func same(a, b api.State) bool {
	return a.Schema == b.Schema && slices.Equal(a.Pairs, b.Pairs) && slices.Equal(a.Sessions, b.Sessions)
}

// The marks stand in memory that nothing may write to.
var (
	markPair    = api.Pair{Key: "mark", Val: "beyond", Rev: 77}
	markSession = api.Session{Client: 77, Seq: 78, Last: api.Answer{Client: 79, Seq: 80, Val: "mark"}}
	markCmd     = api.Cmd{Kind: 77, Client: 78, Seq: 79, Key: "mark"}
)

// roomy returns a copy of s with room beyond the ends of its lists, and what tells whether anything in it has changed.
func roomy(s api.State) (api.State, func() bool) {
	pairs := append(append([]api.Pair{}, s.Pairs...), markPair, markPair, markPair)
	sessions := append(append([]api.Session{}, s.Sessions...), markSession, markSession, markSession)
	firstPairs, firstSessions := slices.Clone(pairs), slices.Clone(sessions)
	given := api.State{Schema: s.Schema, Pairs: pairs[:len(s.Pairs)], Sessions: sessions[:len(s.Sessions)]}
	return given, func() bool { return !slices.Equal(pairs, firstPairs) || !slices.Equal(sessions, firstSessions) }
}

// spoil overwrites a state, and the memory beyond the ends of its lists.
func spoil(s api.State) {
	pairs, sessions := s.Pairs[:cap(s.Pairs)], s.Sessions[:cap(s.Sessions)]
	for i := range pairs {
		pairs[i] = api.Pair{Key: "spoilt", Val: "spoilt", Rev: -5}
	}
	for i := range sessions {
		sessions[i] = api.Session{Client: -5, Seq: -6, Last: api.Answer{Client: -7, Val: "spoilt"}}
	}
}

// copied returns s in memory of its own.
func copied(s api.State) api.State {
	return api.State{Schema: s.Schema, Pairs: slices.Clone(s.Pairs), Sessions: slices.Clone(s.Sessions)}
}

// wantApply fails if Apply of s and c is not as the definitions tell, or its result shares memory with s; it returns the result.
func wantApply(t *testing.T, s api.State, c api.Cmd) (api.State, api.Answer, api.Errno) {
	t.Helper()
	var wantAnswer api.Answer
	want, answers, wantErr := ran(s, []api.Cmd{c})
	if wantErr == api.OK {
		wantAnswer = answers[0]
	}
	given, changed := roomy(s)
	got, a, err := Apply(given, c)
	if err != wantErr || a != wantAnswer || !same(got, want) {
		t.Fatalf("Apply(%+v, %+v) = %+v, %+v, %d, want %+v, %+v, %d", s, c, got, a, err, want, wantAnswer, wantErr)
	}
	out := copied(got)
	spoil(got)
	if changed() {
		t.Fatalf("Apply(%+v, %+v) changes the state, or shares its memory", s, c)
	}
	return out, a, err
}

// wantRun fails if Run of s and l is not as the definitions tell, or its results share memory with s or l; it returns the results.
func wantRun(t *testing.T, s api.State, l []api.Cmd) (api.State, []api.Answer, api.Errno) {
	t.Helper()
	want, wantAnswers, wantErr := ran(s, l)
	given, changed := roomy(s)
	all := append(append([]api.Cmd{}, l...), markCmd, markCmd)
	first := slices.Clone(all)
	got, answers, err := Run(given, all[:len(l)])
	if err != wantErr || !slices.Equal(answers, wantAnswers) || !same(got, want) {
		t.Fatalf("Run(%+v, %+v) = %+v, %+v, %d, want %+v, %+v, %d", s, l, got, answers, err, want, wantAnswers, wantErr)
	}
	out := copied(got)
	spoil(got)
	if changed() || !slices.Equal(all, first) {
		t.Fatalf("Run(%+v, %+v) changes what it is given, or shares its memory", s, l)
	}
	return out, answers, err
}

// some returns one of the elements.
func some[T any](r *rand.Rand, of []T) T {
	return of[r.Intn(len(of))]
}

// random returns a valid state of the schema.
func random(r *rand.Rand, schema int) api.State {
	s := api.State{Schema: schema}
	if r.Intn(4) == 0 {
		s = full(schema, mostKeys-r.Intn(3))
	} else {
		for _, key := range keys {
			if r.Intn(2) == 0 {
				s.Pairs = append(s.Pairs, api.Pair{Key: key, Val: some(r, values), Rev: someNumber(r) * (schema - 1)})
			}
		}
	}
	for client := 1; client <= clients; client++ {
		if r.Intn(3) == 0 {
			continue
		}
		a := api.Answer{Client: client, Seq: someNumber(r), Err: api.Errno(r.Intn(errnos + 1)), Found: r.Intn(2) == 0, Val: some(r, values)}
		if schema == 2 && r.Intn(2) == 0 {
			a.Rev = someNumber(r)
		}
		s.Sessions = append(s.Sessions, told(a))
	}
	return s
}

// someNumber returns a number from 1 to the greatest revision, which is also the greatest number of a command.
func someNumber(r *rand.Rand) int {
	return 1 + r.Intn(1<<r.Intn(33))
}

// someOwned returns a valid command of one of the first clients, as many as given, about a pair of s or another one; most are new, and half of the swaps have the value that is there.
func someOwned(r *rand.Rand, s api.State, among int) api.Cmd {
	c := api.Cmd{Kind: api.CmdPut + r.Intn(4), Client: 1 + r.Intn(among), Key: some(r, keys)}
	for _, x := range s.Sessions {
		if x.Client == c.Client {
			c.Seq = x.Seq
		}
	}
	c.Seq = min(max(c.Seq+some(r, []int{-5, -1, 0, 1, 1, 1, 1, 1, 2, 300}), 1), maxSeq)
	var p api.Pair
	if len(s.Pairs) > 0 && r.Intn(2) == 0 {
		p = some(r, s.Pairs)
		c.Key = p.Key
	}
	if c.Kind == api.CmdPut || c.Kind == api.CmdCas {
		c.Val = some(r, values)
	}
	if c.Kind == api.CmdCas {
		c.Old = some(r, append(slices.Repeat([]string{p.Val}, len(values)), values...))
	}
	return c
}

// someCmd returns a valid command, most often one of a client, and seldom the activation.
func someCmd(r *rand.Rand, s api.State) api.Cmd {
	switch n := r.Intn(40); {
	case n == 0:
		return activate
	case n < 4:
		return some(r, nobodys)
	}
	return someOwned(r, s, 1+r.Intn(clients))
}

// someCourse returns n random valid commands, each for the state that those ahead of it lead to.
func someCourse(r *rand.Rand, s api.State, n int) []api.Cmd {
	m := machineOf(s)
	var l []api.Cmd
	for range n {
		c := someCmd(r, m.state())
		m.do(c)
		l = append(l, c)
	}
	return l
}

// valids returns valid commands of every kind, with fields at their limits.
func valids() []api.Cmd {
	l := append(slices.Clone(nobodys), activate)
	for _, client := range []int{1, 2, 3, clients} {
		for _, seq := range []int{1, 10, 11, maxSeq} {
			l = append(l, put(client, seq, "a", "n"), put(client, seq, "n", ""), get(client, seq, "a"), get(client, seq, "n"), del(client, seq, "a"), del(client, seq, "n"))
			l = append(l, cas(client, seq, "a", "1", "n"), cas(client, seq, "a", "n", ""), cas(client, seq, "n", "", "n"), cas(client, seq, "b", "", ""))
		}
	}
	return l
}

// changedCmds returns every command that differs from a valid one in one field.
func changedCmds() []api.Cmd {
	var l []api.Cmd
	for _, c := range []api.Cmd{{Kind: api.CmdNop}, activate, {Kind: api.CmdAdd, Node: 3}, {Kind: api.CmdDrop, Node: 3}, put(1, 2, "k", "v"), get(1, 2, "k"), del(1, 2, "k"), cas(1, 2, "k", "v", "w")} {
		vary := func(change func(c *api.Cmd)) {
			v := c
			change(&v)
			l = append(l, v)
		}
		for _, n := range numbers {
			vary(func(v *api.Cmd) { v.Kind = n })
			vary(func(v *api.Cmd) { v.Client = n })
			vary(func(v *api.Cmd) { v.Seq = n })
			vary(func(v *api.Cmd) { v.Node = n })
		}
		for _, key := range slices.Concat(keys, noKey) {
			vary(func(v *api.Cmd) { v.Key = key })
		}
		for _, val := range slices.Concat(values, noVal) {
			vary(func(v *api.Cmd) { v.Val = val })
			vary(func(v *api.Cmd) { v.Old = val })
		}
	}
	return l
}

// changedStates returns every state that differs from s in one field or one element.
func changedStates(s api.State) []api.State {
	var l []api.State
	vary := func(change func(s *api.State)) {
		v := copied(s)
		change(&v)
		l = append(l, v)
	}
	for _, n := range numbers {
		vary(func(v *api.State) { v.Schema = n })
		for i := range s.Pairs {
			vary(func(v *api.State) { v.Pairs[i].Rev = n })
		}
		for i := range s.Sessions {
			vary(func(v *api.State) { v.Sessions[i].Client = n })
			vary(func(v *api.State) { v.Sessions[i].Seq = n })
			vary(func(v *api.State) { v.Sessions[i].Last.Client = n })
			vary(func(v *api.State) { v.Sessions[i].Last.Seq = n })
			vary(func(v *api.State) { v.Sessions[i].Last.Err = api.Errno(n) })
			vary(func(v *api.State) { v.Sessions[i].Last.Rev = n })
			vary(func(v *api.State) { v.Sessions[i] = told(api.Answer{Client: n, Seq: 1}) })
		}
	}
	for i := range s.Pairs {
		for _, key := range slices.Concat(keys, noKey) {
			vary(func(v *api.State) { v.Pairs[i].Key = key })
		}
		for _, val := range slices.Concat(values, noVal) {
			vary(func(v *api.State) { v.Pairs[i].Val = val })
		}
		vary(func(v *api.State) { v.Pairs = v.Pairs[i:] })
		vary(func(v *api.State) { v.Pairs = slices.Insert(v.Pairs, i, v.Pairs[i]) })
		vary(func(v *api.State) { v.Pairs[0], v.Pairs[i] = v.Pairs[i], v.Pairs[0] })
	}
	for i := range s.Sessions {
		for _, val := range slices.Concat(values, noVal) {
			vary(func(v *api.State) { v.Sessions[i].Last.Val = val })
		}
		vary(func(v *api.State) { v.Sessions = v.Sessions[i:] })
		vary(func(v *api.State) { v.Sessions = slices.Insert(v.Sessions, i, v.Sessions[i]) })
		vary(func(v *api.State) { v.Sessions[0], v.Sessions[i] = v.Sessions[i], v.Sessions[0] })
	}
	return l
}

// states returns valid states and others, in both schemas and in none.
func states() []api.State {
	return slices.Concat(
		[]api.State{{}, {Schema: 1}, {Schema: 2}, {Schema: 3}, one(), two(), {Schema: 1, Pairs: []api.Pair{}, Sessions: []api.Session{}}, {Pairs: []api.Pair{}, Sessions: []api.Session{}}},
		[]api.State{full(1, mostKeys), full(2, mostKeys), full(1, mostKeys+1), full(2, mostKeys+1)},
		changedStates(one()), changedStates(two()))
}

// P28.1: the empty state has schema 1 and nothing else, and is each time another one.
func TestEmpty(t *testing.T) {
	s := Empty()
	if s.Schema != 1 || len(s.Pairs) != 0 || len(s.Sessions) != 0 {
		t.Fatalf("%+v", s)
	}
	s.Schema, s.Pairs, s.Sessions = 2, append(s.Pairs, markPair), append(s.Sessions, markSession)
	spoil(s)
	if s = Empty(); !same(s, api.State{Schema: 1}) || wrongState(s) != api.OK {
		t.Errorf("%+v", s)
	}
}

// P28.1: the examples: a cas before and after the activation, and a put twice.
func TestApplyExample(t *testing.T) {
	s, a, err := Apply(Empty(), put(1, 1, "a", "1"))
	want := api.State{Schema: 1, Pairs: []api.Pair{{Key: "a", Val: "1"}}, Sessions: []api.Session{{Client: 1, Seq: 1, Last: api.Answer{Client: 1, Seq: 1}}}}
	if err != api.OK || a != (api.Answer{Client: 1, Seq: 1}) || !same(s, want) {
		t.Fatalf("the put: %+v, %+v, %d", s, a, err)
	}
	s, a, err = Apply(s, put(1, 1, "a", "1"))
	if err != api.OK || a != (api.Answer{Client: 1, Seq: 1}) || !same(s, want) {
		t.Fatalf("the put again: %+v, %+v, %d", s, a, err)
	}
	swap := cas(1, 2, "a", "1", "2")
	s, a, err = Apply(s, swap)
	if err != api.OK || a != (api.Answer{Client: 1, Seq: 2, Err: api.ErrInactive}) || !same(s, want) {
		t.Fatalf("the cas: %+v, %+v, %d", s, a, err)
	}
	s, a, err = Apply(s, activate)
	want.Schema, want.Pairs[0].Rev = 2, 1
	if err != api.OK || a != (api.Answer{}) || !same(s, want) {
		t.Fatalf("the activation: %+v, %+v, %d", s, a, err)
	}
	answer := api.Answer{Client: 1, Seq: 2, Found: true, Val: "1", Rev: 2}
	want.Pairs[0], want.Sessions[0] = api.Pair{Key: "a", Val: "2", Rev: 2}, api.Session{Client: 1, Seq: 2, Last: answer}
	for range 3 {
		s, a, err = Apply(s, swap)
		if err != api.OK || a != answer || !same(s, want) {
			t.Fatalf("the cas behind it: %+v, %+v, %d", s, a, err)
		}
	}
}

// effect is a command, the answer to it, and the pair of its key before and after it: none if its key is empty.
type effect struct {
	name          string
	c             api.Cmd
	before, after api.Pair
	want          api.Answer
}

// P28.1: each kind of a client's commands has the effect of its schema, and the answer becomes the last one of its session.
func TestApplyEffects(t *testing.T) {
	for schema, l := range map[int][]effect{
		1: {
			{"put, new", put(4, 5, "k", "v"), api.Pair{}, api.Pair{Key: "k", Val: "v"}, api.Answer{}},
			{"put", put(4, 5, "k", "v"), api.Pair{Key: "k", Val: "u"}, api.Pair{Key: "k", Val: "v"}, api.Answer{Found: true, Val: "u"}},
			{"get, none", get(4, 5, "k"), api.Pair{}, api.Pair{}, api.Answer{}},
			{"get", get(4, 5, "k"), api.Pair{Key: "k", Val: "u"}, api.Pair{Key: "k", Val: "u"}, api.Answer{Found: true, Val: "u"}},
			{"del, none", del(4, 5, "k"), api.Pair{}, api.Pair{}, api.Answer{}},
			{"del", del(4, 5, "k"), api.Pair{Key: "k", Val: "u"}, api.Pair{}, api.Answer{Found: true, Val: "u"}},
		},
		2: {
			{"put, new", put(4, 5, "k", "v"), api.Pair{}, api.Pair{Key: "k", Val: "v", Rev: 1}, api.Answer{}},
			{"put", put(4, 5, "k", "v"), api.Pair{Key: "k", Val: "u", Rev: 7}, api.Pair{Key: "k", Val: "v", Rev: 8}, api.Answer{Found: true, Val: "u"}},
			{"put, the greatest", put(4, 5, "k", "v"), api.Pair{Key: "k", Val: "u", Rev: maxRev}, api.Pair{Key: "k", Val: "v", Rev: maxRev}, api.Answer{Found: true, Val: "u"}},
			{"get, none", get(4, 5, "k"), api.Pair{}, api.Pair{}, api.Answer{}},
			{"get", get(4, 5, "k"), api.Pair{Key: "k", Val: "u", Rev: 7}, api.Pair{Key: "k", Val: "u", Rev: 7}, api.Answer{Found: true, Val: "u"}},
			{"del, none", del(4, 5, "k"), api.Pair{}, api.Pair{}, api.Answer{}},
			{"del", del(4, 5, "k"), api.Pair{Key: "k", Val: "u", Rev: 7}, api.Pair{}, api.Answer{Found: true, Val: "u"}},
			{"cas, none", cas(4, 5, "k", "", "v"), api.Pair{}, api.Pair{}, api.Answer{Err: api.ErrNone}},
			{"cas, another", cas(4, 5, "k", "x", "v"), api.Pair{Key: "k", Val: "u", Rev: 7}, api.Pair{Key: "k", Val: "u", Rev: 7}, api.Answer{Err: api.ErrStale, Found: true, Val: "u", Rev: 7}},
			{"cas", cas(4, 5, "k", "u", "v"), api.Pair{Key: "k", Val: "u", Rev: 7}, api.Pair{Key: "k", Val: "v", Rev: 8}, api.Answer{Found: true, Val: "u", Rev: 8}},
			{"cas, the greatest", cas(4, 5, "k", "u", "v"), api.Pair{Key: "k", Val: "u", Rev: maxRev}, api.Pair{Key: "k", Val: "v", Rev: maxRev}, api.Answer{Found: true, Val: "u", Rev: maxRev}},
		},
	} {
		for _, x := range l {
			t.Run(fmt.Sprint(schema, " ", x.name), func(t *testing.T) { wantEffect(t, schema, x) })
		}
	}
}

// wantEffect fails if x is not so in the schema, whatever other pairs and sessions there are.
func wantEffect(t *testing.T, schema int, x effect) {
	around := func(p api.Pair) []api.Pair {
		l := []api.Pair{{Key: "j", Val: "left", Rev: 3 * (schema - 1)}, p, {Key: "l", Val: "right", Rev: 4 * (schema - 1)}}
		return slices.DeleteFunc(l, func(p api.Pair) bool { return p.Key == "" })
	}
	x.want.Client, x.want.Seq = 4, 5
	ahead, behind := told(api.Answer{Client: 3, Seq: 9, Val: "c"}), told(api.Answer{Client: 5, Seq: 4, Val: "e"})
	for _, own := range [][]api.Session{nil, {told(api.Answer{Client: 4, Seq: 4, Err: api.ErrFull})}, {told(api.Answer{Client: 4, Seq: 1, Found: true, Val: "d"})}} {
		s := api.State{Schema: schema, Pairs: around(x.before), Sessions: slices.Concat([]api.Session{ahead}, own, []api.Session{behind})}
		want := api.State{Schema: schema, Pairs: around(x.after), Sessions: []api.Session{ahead, told(x.want), behind}}
		got, a, err := Apply(s, x.c)
		if err != api.OK || a != x.want || !same(got, want) {
			t.Errorf("%+v, %+v, %d, want %+v, %+v", got, a, err, want, x.want)
		}
		wantApply(t, s, x.c)
	}
}

// P28.1: a new key beside 64 others is ErrFull in both schemas, and that is the last answer also when there is room again; beside 63 it is not.
func TestApplyFull(t *testing.T) {
	for schema := 1; schema <= 2; schema++ {
		for gap := range mostKeys + 1 {
			c := put(1, 1, fmt.Sprintf("k%04d", 2*gap), "v")
			s, a, _ := wantApply(t, full(schema, mostKeys), c)
			if want := (api.Answer{Client: 1, Seq: 1, Err: api.ErrFull}); a != want || !same(s, api.State{Schema: schema, Pairs: full(schema, mostKeys).Pairs, Sessions: []api.Session{told(want)}}) {
				t.Fatalf("%+v, %+v", s, a)
			}
			s, _, _ = wantApply(t, s, del(2, 1, "k0001"))
			again, a, _ := wantApply(t, s, c)
			if a.Err != api.ErrFull || !same(s, again) {
				t.Fatalf("again: %+v, %+v", again, a)
			}
			c.Seq++
			s, a, _ = wantApply(t, s, c)
			if a.Err != api.OK || len(s.Pairs) != mostKeys {
				t.Fatalf("with room: %+v, %+v", s, a)
			}
			s, a, _ = wantApply(t, s, put(2, 2, "k0127", "w"))
			if a.Err != api.OK || !a.Found || len(s.Pairs) != mostKeys {
				t.Fatalf("of a key that there is: %+v, %+v", s, a)
			}
		}
	}
}

// P28.1: a command is again, stale or new by its client's session alone, in this order ahead of what its schema does not have.
func TestApplySessions(t *testing.T) {
	for _, s := range []api.State{one(), two()} {
		for client := 1; client <= clients; client++ {
			last := slices.IndexFunc(s.Sessions, func(x api.Session) bool { return x.Client == client })
			for _, seq := range []int{1, 2, 6, 7, 8, 9, 10, 11, 12, 300, maxSeq - 1, maxSeq} {
				for _, c := range []api.Cmd{put(client, seq, "a", "n"), put(client, seq, "n", "n"), get(client, seq, "a"), del(client, seq, "a"), cas(client, seq, "a", "1", "n")} {
					got, a, err := wantApply(t, s, c)
					what := "new"
					switch {
					case last >= 0 && seq == s.Sessions[last].Seq:
						what = "again"
					case last >= 0 && seq < s.Sessions[last].Seq:
						what = "stale"
					case c.Kind == api.CmdCas && s.Schema == 1:
						what = "inactive"
					}
					is := err == api.OK && a.Client == client && a.Seq == seq
					switch what {
					case "again":
						is = is && a == s.Sessions[last].Last && same(got, s)
					case "stale":
						is = is && a == api.Answer{Client: client, Seq: seq, Err: api.ErrStale} && same(got, s)
					case "inactive":
						is = is && a == api.Answer{Client: client, Seq: seq, Err: api.ErrInactive} && same(got, s)
					case "new":
						is = is && a.Err == api.OK && slices.Contains(got.Sessions, told(a))
					}
					if !is {
						t.Fatalf("Apply(%+v, %+v), %s = %+v, %+v, %d", s, c, what, got, a, err)
					}
				}
			}
		}
	}
}

// P28.1: the activation migrates a state of schema 1 and has no effect in schema 2; its answer is zero.
func TestApplyActivate(t *testing.T) {
	want := one()
	want.Schema = 2
	for i := range want.Pairs {
		want.Pairs[i].Rev = 1
	}
	s, a, err := wantApply(t, one(), activate)
	if err != api.OK || a != (api.Answer{}) || !same(s, want) {
		t.Errorf("%+v, %+v, %d", s, a, err)
	}
	for _, s := range []api.State{want, two(), {Schema: 2}, full(2, mostKeys)} {
		got, a, err := wantApply(t, s, activate)
		if err != api.OK || a != (api.Answer{}) || !same(got, s) {
			t.Errorf("%+v, %+v, %d", got, a, err)
		}
	}
	for n := range mostKeys + 1 {
		s, _, err := wantApply(t, full(1, n), activate)
		if up, _ := migr.Up(full(1, n)); err != api.OK || !same(s, up) {
			t.Errorf("%+v, want %+v", s, up)
		}
	}
}

// P28.1: all other commands of nobody have no effect, and their answers are zero.
func TestApplyNobodys(t *testing.T) {
	l := slices.Clone(nobodys)
	for node := 1; node <= nodes; node++ {
		l = append(l, api.Cmd{Kind: api.CmdAdd, Node: node}, api.Cmd{Kind: api.CmdDrop, Node: node})
	}
	for _, s := range []api.State{one(), two(), {Schema: 1}, {Schema: 2}, full(1, mostKeys), full(2, mostKeys)} {
		for _, c := range l {
			got, a, err := wantApply(t, s, c)
			if err != api.OK || a != (api.Answer{}) || !same(got, s) {
				t.Errorf("Apply(%+v, %+v) = %+v, %+v, %d", s, c, got, a, err)
			}
		}
	}
}

// P28.1: the errors of commands, handwritten, in every schema and behind that of the state.
func TestApplyErrors(t *testing.T) {
	for _, x := range []struct {
		c    api.Cmd
		want api.Errno
	}{
		{api.Cmd{}, api.ErrKind},
		{api.Cmd{Kind: 9}, api.ErrKind},
		{api.Cmd{Kind: -1}, api.ErrKind},
		{api.Cmd{Kind: 9, Client: 99, Key: " "}, api.ErrKind},
		{put(0, 1, "a", "1"), api.ErrRange},
		{put(9, 1, "a", "1"), api.ErrRange},
		{put(1, 0, "a", "1"), api.ErrRange},
		{put(1, maxSeq+1, "a", "1"), api.ErrRange},
		{put(1, 0, "", "1"), api.ErrRange},
		{api.Cmd{Kind: api.CmdAdd}, api.ErrRange},
		{api.Cmd{Kind: api.CmdDrop, Node: 10}, api.ErrRange},
		{get(1, 1, ""), api.ErrText},
		{del(1, 1, "a b"), api.ErrText},
		{put(1, 1, "a", "\n"), api.ErrText},
		{cas(1, 1, "a", "\n", ""), api.ErrText},
		{cas(1, 1, "a", "", "\n"), api.ErrText},
		{api.Cmd{Kind: api.CmdGet, Client: 1, Seq: 1, Key: " ", Node: 1}, api.ErrText},
		{api.Cmd{Kind: api.CmdGet, Client: 1, Seq: 1, Key: "a", Val: "1"}, api.ErrForm},
		{api.Cmd{Kind: api.CmdPut, Client: 1, Seq: 1, Key: "a", Old: "1"}, api.ErrForm},
		{api.Cmd{Kind: api.CmdNop, Client: 1}, api.ErrForm},
		{api.Cmd{Kind: api.CmdActivate, Seq: 1}, api.ErrForm},
		{api.Cmd{Kind: api.CmdAdd, Node: 1, Key: "a"}, api.ErrForm},
	} {
		for _, s := range []api.State{one(), two(), {Schema: 1}, {Schema: 2}} {
			got, a, err := wantApply(t, s, x.c)
			if err != x.want || a != (api.Answer{}) || got.Schema != 0 || got.Pairs != nil || got.Sessions != nil {
				t.Errorf("Apply(%+v, %+v) = %+v, %+v, %d, want %d", s, x.c, got, a, err, x.want)
			}
			s.Schema = 3 - s.Schema
			s.Pairs = []api.Pair{{Key: "a", Rev: 2 - s.Schema}}
			if _, _, err := wantApply(t, s, x.c); err != api.ErrForm {
				t.Errorf("Apply(%+v, %+v) returns %d", s, x.c, err)
			}
		}
	}
}

// P28.1: every command that differs in one field from a valid one, on valid states and on one that is not.
func TestApplyCmds(t *testing.T) {
	counts := map[api.Errno]int{}
	for _, c := range slices.Concat(changedCmds(), valids()) {
		for _, s := range []api.State{one(), two(), {Schema: 1}, full(2, mostKeys), {Schema: 3}} {
			_, _, err := wantApply(t, s, c)
			counts[err]++
			if want := cmd.Check(c); s.Schema != 3 && err != want {
				t.Fatalf("Apply(%+v, %+v) returns %d, want %d", s, c, err, want)
			}
		}
	}
	for _, err := range []api.Errno{api.OK, api.ErrKind, api.ErrRange, api.ErrText, api.ErrForm} {
		if counts[err] < 100 {
			t.Errorf("too few of a kind: %v", counts)
		}
	}
}

// P28.1: every state that differs in one thing from a valid one, with valid commands and others.
func TestApplyStates(t *testing.T) {
	l := []api.Cmd{{Kind: api.CmdNop}, activate, {Kind: api.CmdAdd, Node: 3}, put(1, 1, "a", "n"), get(2, 10, "a"), del(2, 11, "a"), cas(3, 1, "a", "1", "n"), cas(8, 8, "a", "1", "n"), {}, put(9, 1, "a", "n"), get(1, 1, "")}
	counts := map[api.Errno]int{}
	for _, s := range states() {
		for _, c := range l {
			_, _, err := wantApply(t, s, c)
			counts[err]++
			if want := migr.Check(s); want != api.OK && err != want {
				t.Fatalf("Apply(%+v, %+v) returns %d, want %d", s, c, err, want)
			}
		}
	}
	if counts[api.OK] < 2000 || counts[api.ErrForm] < 2000 || counts[api.ErrKind] < 200 || counts[api.ErrRange] < 200 || counts[api.ErrText] < 200 {
		t.Errorf("too few of a kind: %v", counts)
	}
}

// P28.1: random states and commands.
func TestApplyRandom(t *testing.T) {
	r := rand.New(rand.NewSource(1))
	counts := map[string]int{}
	for i := range 20000 {
		s := random(r, 1+i%2)
		c := someCmd(r, s)
		_, a, err := wantApply(t, s, c)
		if err != api.OK {
			t.Fatalf("Apply(%+v, %+v) returns %d", s, c, err)
		}
		counts[fmt.Sprint("kind ", c.Kind, " in ", s.Schema)]++
		counts[fmt.Sprint("error ", a.Err, " in ", s.Schema)]++
	}
	for _, what := range []string{"kind 1 in 1", "kind 6 in 1", "kind 6 in 2", "kind 7 in 2", "kind 8 in 1", "error 11 in 1", "error 11 in 2", "error 14 in 1", "error 15 in 1", "error 15 in 2", "error 10 in 2", "error 0 in 1", "error 0 in 2"} {
		if counts[what] < 50 {
			t.Errorf("too few of a kind: %v", counts)
		}
	}
}

// P28.1: what Apply returned changes neither with the state it was given, nor with another result.
func TestApplyKept(t *testing.T) {
	for _, s := range []api.State{one(), two(), full(1, mostKeys), full(2, mostKeys)} {
		for _, c := range valids() {
			given, _ := roomy(s)
			first, _, _ := Apply(given, c)
			second, _, _ := Apply(given, c)
			kept := copied(first)
			spoil(second)
			spoil(given)
			if !same(first, kept) {
				t.Fatalf("the result of Apply(%+v, %+v) changes", s, c)
			}
		}
	}
}

// P28.1: the example, and a handwritten course through the activation.
func TestRunExample(t *testing.T) {
	for _, l := range [][]api.Cmd{{{}}, {activate, {}}, {{}, put(0, 0, "", "")}} {
		if s, answers, err := wantRun(t, Empty(), l); err != api.ErrKind || answers != nil || !same(s, api.State{}) {
			t.Errorf("%+v, %+v, %d", s, answers, err)
		}
	}
	s, answers, err := wantRun(t, Empty(), []api.Cmd{
		cas(1, 2, "a", "1", "2"), put(1, 1, "a", "1"), activate, put(1, 1, "a", "9"), cas(1, 2, "a", "1", "2"), cas(1, 2, "a", "1", "2"),
		{Kind: api.CmdNop}, get(2, 5, "a"), get(2, 4, "a"), activate, del(2, 6, "a"), cas(1, 3, "a", "2", "3"), {Kind: api.CmdAdd, Node: 4},
	})
	want := []api.Answer{
		{Client: 1, Seq: 2, Err: api.ErrInactive}, {Client: 1, Seq: 1}, {}, {Client: 1, Seq: 1}, {Client: 1, Seq: 2, Found: true, Val: "1", Rev: 2}, {Client: 1, Seq: 2, Found: true, Val: "1", Rev: 2},
		{}, {Client: 2, Seq: 5, Found: true, Val: "2"}, {Client: 2, Seq: 4, Err: api.ErrStale}, {}, {Client: 2, Seq: 6, Found: true, Val: "2"}, {Client: 1, Seq: 3, Err: api.ErrNone}, {},
	}
	if err != api.OK || !slices.Equal(answers, want) || !same(s, api.State{Schema: 2, Sessions: []api.Session{told(want[11]), told(want[10])}}) {
		t.Errorf("%+v, %+v, %d", s, answers, err)
	}
}

// P28.1: without commands Run returns the state and no answers, or ErrForm.
func TestRunNone(t *testing.T) {
	for _, s := range states() {
		for _, l := range [][]api.Cmd{nil, {}} {
			got, answers, err := wantRun(t, s, l)
			if want := migr.Check(s); err != want || len(answers) != 0 || want == api.OK && !same(got, s) {
				t.Fatalf("Run(%+v) = %+v, %+v, %d", s, got, answers, err)
			}
		}
	}
}

// P28.1: the first error is returned alone, wherever it stands and whatever comes behind it; that of the state is ahead of all.
func TestRunErrors(t *testing.T) {
	wrong := map[api.Errno]api.Cmd{api.ErrKind: {Kind: 9}, api.ErrRange: put(9, 1, "a", "1"), api.ErrText: get(1, 1, ""), api.ErrForm: {Kind: api.CmdNop, Node: 1}}
	l := []api.Cmd{put(1, 1, "a", "1"), activate, cas(1, 2, "a", "1", "2"), get(2, 1, "a"), {Kind: api.CmdNop}}
	for want, c := range wrong {
		for at := range len(l) + 1 {
			for later, other := range wrong {
				for _, s := range []api.State{Empty(), one(), two()} {
					more := append(slices.Insert(slices.Clone(l), at, c), other)
					got, answers, err := wantRun(t, s, more)
					if err != want || len(answers) != 0 || !same(got, api.State{}) {
						t.Fatalf("Run(%+v, %+v) = %+v, %+v, %d, want %d and not %d", s, more, got, answers, err, want, later)
					}
				}
				for _, s := range []api.State{{}, {Schema: 3}, full(1, mostKeys+1), full(2, mostKeys+1)} {
					if _, _, err := wantRun(t, s, append(slices.Insert(slices.Clone(l), at, c), other)); err != api.ErrForm {
						t.Fatalf("Run of %+v returns %d", s, err)
					}
				}
			}
		}
	}
}

// P28.1: random courses are those of a machine of maps, and of Apply, step by step.
func TestRun(t *testing.T) {
	r := rand.New(rand.NewSource(2))
	counts := map[string]int{}
	for i := range 1000 {
		s := random(r, 1+i%2)
		if i%3 == 0 {
			s = Empty()
		}
		l := someCourse(r, s, r.Intn(60))
		got, answers, err := wantRun(t, s, l)
		if err != api.OK || len(answers) != len(l) {
			t.Fatalf("Run(%+v, %+v) returns %d", s, l, err)
		}
		each := s
		for j, c := range l {
			var a api.Answer
			counts[fmt.Sprint("kind ", c.Kind, " in ", each.Schema)]++
			if each, a, err = Apply(each, c); err != api.OK || a != answers[j] {
				t.Fatalf("Apply(.., %+v) answers %+v, %d, Run %+v", c, a, err, answers[j])
			}
			counts[fmt.Sprint("error ", a.Err)]++
		}
		if !same(got, each) {
			t.Fatalf("Run(%+v, %+v) = %+v, step by step %+v", s, l, got, each)
		}
	}
	for _, what := range []string{"kind 1 in 1", "kind 2 in 1", "kind 2 in 2", "kind 4 in 1", "kind 4 in 2", "kind 5 in 1", "kind 5 in 2", "kind 6 in 1", "kind 6 in 2", "kind 7 in 2", "kind 8 in 2", "error 0", "error 10", "error 11", "error 14", "error 15"} {
		if counts[what] < 50 {
			t.Errorf("too few of a kind: %v", counts)
		}
	}
}

// P28.1: what Run returned changes neither with what it was given, nor with another result.
func TestRunKept(t *testing.T) {
	r := rand.New(rand.NewSource(3))
	for i := range 1000 {
		given := random(r, 1+i%2)
		l := someCourse(r, given, r.Intn(8))
		first, answers, _ := Run(given, l)
		second, others, _ := Run(given, l)
		kept, keptAnswers := copied(first), slices.Clone(answers)
		spoil(second)
		spoil(given)
		for j := range others {
			l[j], others[j] = markCmd, api.Answer{Client: -5}
		}
		if !same(first, kept) || !slices.Equal(answers, keptAnswers) {
			t.Fatalf("the results of Run(%+v, %+v) change", given, l)
		}
	}
}

// P28.2: valid states lead to valid states, of which there is an encoding, and the schema never goes back.
func TestValid(t *testing.T) {
	r := rand.New(rand.NewSource(4))
	for i := range 300 {
		s := random(r, 1+i%2)
		for range 40 {
			before := s.Schema
			c := someCmd(r, s)
			next, a, err := Apply(s, c)
			if err != api.OK || migr.Check(next) != api.OK || wrongState(next) != api.OK || next.Schema < before {
				t.Fatalf("Apply(%+v, %+v) = %+v, %d", s, c, next, err)
			}
			if cmd.Owned(c) != (a.Client == c.Client && a.Seq == c.Seq && a.Client > 0) || !cmd.Owned(c) && a != (api.Answer{}) {
				t.Fatalf("Apply(%+v, %+v) answers %+v", s, c, a)
			}
			b, err := snaptwo.Put(next)
			if read, err2 := snaptwo.Get(b); err != api.OK || err2 != api.OK || !same(read, next) {
				t.Fatalf("%+v has no encoding: %d, %d", next, err, err2)
			}
			s = next
		}
	}
}

// P28.2: a command that was carried out has no effect again, and the same answer, until a later one of its client is; from then on it is stale.
func TestAgain(t *testing.T) {
	r := rand.New(rand.NewSource(5))
	again, stale := 0, 0
	for i := range 300 {
		s := random(r, 1+i%2)
		answered := map[int]api.Answer{}
		carried := map[int]api.Cmd{}
		var overtaken []api.Cmd
		for range 40 {
			c := someCmd(r, s)
			last := s
			var a api.Answer
			s, a, _ = Apply(s, c)
			if c.Client > 0 && !same(s, last) {
				if old, is := carried[c.Client]; is {
					overtaken = append(overtaken, old)
				}
				carried[c.Client], answered[c.Client] = c, a
			}
			if next, b, err := Apply(s, c); err != api.OK || b != a || !same(next, s) {
				t.Fatalf("%+v, again: %+v, %d, first %+v", c, b, err, a)
			}
			for client, c := range carried {
				again++
				if next, a, err := Apply(s, c); err != api.OK || a != answered[client] || !same(next, s) {
					t.Fatalf("%+v, again: %+v, %d, first %+v", c, a, err, answered[client])
				}
			}
			for _, c := range overtaken {
				stale++
				if next, a, err := Apply(s, c); err != api.OK || a != (api.Answer{Client: c.Client, Seq: c.Seq, Err: api.ErrStale}) || !same(next, s) {
					t.Fatalf("%+v, overtaken: %+v, %d", c, a, err)
				}
			}
		}
	}
	if again < 20000 || stale < 20000 {
		t.Errorf("%d again, %d stale", again, stale)
	}
}

// P28.2: commands that were carried out may stand again anywhere behind themselves: the state is the same, and so are the answers to all others.
func TestTwice(t *testing.T) {
	r := rand.New(rand.NewSource(6))
	for i := range 500 {
		s := random(r, 1+i%2)
		l := someCourse(r, s, 1+r.Intn(30))
		want, answers, _ := Run(s, l)
		var more []api.Cmd
		var firsts []int
		for j, c := range l {
			more, firsts = append(more, c), append(firsts, j)
			for range r.Intn(3) {
				// One that was refused for want of the activation would count behind it.
				if k := r.Intn(j + 1); answers[k].Err != api.ErrInactive {
					more, firsts = append(more, l[k]), append(firsts, -1)
				}
			}
		}
		got, others, err := wantRun(t, s, more)
		if err != api.OK || !same(got, want) {
			t.Fatalf("Run(%+v, %+v) = %+v, %d, want %+v", s, more, got, err, want)
		}
		for j, k := range firsts {
			if k >= 0 && others[j] != answers[k] {
				t.Fatalf("Run(%+v, %+v) answers %+v at %d, want %+v", s, more, others[j], j, answers[k])
			}
		}
	}
}

// P28.2: commands of V1 have the same answers on a state and on the migrated one, and lead to the same contents; also if the activation is among them.
func TestMigrated(t *testing.T) {
	r := rand.New(rand.NewSource(7))
	counts := map[string]int{}
	for range 1000 {
		s := random(r, 1)
		up, err := migr.Up(s)
		if err != api.OK {
			t.Fatalf("Up(%+v) returns %d", s, err)
		}
		l := slices.DeleteFunc(someCourse(r, s, 60), func(c api.Cmd) bool { return !vers.Has(api.V1, c.Kind) })
		older, answers, err := wantRun(t, s, l)
		newer, others, err2 := wantRun(t, up, l)
		if err != api.OK || err2 != api.OK || !slices.Equal(answers, others) {
			t.Fatalf("of %+v: %+v, %d, migrated: %+v, %d", s, answers, err, others, err2)
		}
		if newer.Schema != 2 || !slices.Equal(kvtwo.Plain(older.Pairs), kvtwo.Plain(newer.Pairs)) || !slices.Equal(older.Sessions, newer.Sessions) || !migr.Same(migr.Says(older), migr.Says(newer)) {
			t.Fatalf("of %+v: %+v, migrated: %+v", s, older, newer)
		}
		counts[fmt.Sprint("schema ", older.Schema)]++
		for i, c := range l {
			counts[fmt.Sprint("kind ", c.Kind)]++
			counts[fmt.Sprint("error ", answers[i].Err)]++
		}
	}
	for _, what := range []string{"schema 1", "schema 2", "kind 1", "kind 2", "kind 3", "kind 4", "kind 6", "kind 7", "kind 8", "error 0", "error 11", "error 15"} {
		if counts[what] < 50 {
			t.Errorf("too few of a kind: %v", counts)
		}
	}
}
