package msgone

import (
	"bytes"
	"encoding/binary"
	"encoding/hex"
	"math"
	"math/rand"
	"slices"
	"strings"
	"testing"

	"changeover/api"
	"changeover/entry"
	"changeover/pack"
)

// The limits of the chapter, written out.
const (
	indexes = 1 << 32
	rounds  = 1 << 32
	nodes   = 9
	entries = 256
	image   = 32768
)

// having: the fields that each kind has, by the definition.
var having = map[int]string{
	api.MsgHello:    "Version",
	api.MsgWelcome:  "Version",
	api.MsgPrepare:  "Ballot Index",
	api.MsgPromise:  "Ballot Index Commit Entries",
	api.MsgAccept:   "Ballot Entries",
	api.MsgAccepted: "Ballot Index",
	api.MsgReject:   "Ballot",
	api.MsgBeat:     "Ballot Commit",
	api.MsgAsk:      "Index",
	api.MsgTell:     "Commit Entries",
	api.MsgImage:    "Image",
}

// Commands of some kinds, all of them valid.
var (
	nop = api.Cmd{Kind: api.CmdNop}
	put = api.Cmd{Kind: api.CmdPut, Client: 1, Seq: 2, Key: "k", Val: "v"}
	cas = api.Cmd{Kind: api.CmdCas, Client: 1, Seq: 3, Key: "k", Old: "a", Val: "b"}
	add = api.Cmd{Kind: api.CmdAdd, Node: 9}
)

// commands: one of each kind.
var commands = []api.Cmd{
	nop, put, cas, add, {Kind: api.CmdActivate}, {Kind: api.CmdDrop, Node: 1},
	{Kind: api.CmdGet, Client: 8, Seq: api.MaxSeq, Key: "é:1"},
	{Kind: api.CmdDel, Client: 3, Seq: 4, Key: strings.Repeat("k", 24)},
}

// numbersAround: numbers at the limits, beyond them, and at those of Go's types.
var numbersAround = []int{
	math.MinInt, math.MinInt + 1, -1 << 32, -9, -1, 0, 1, 2, 3, 8, 9, 10, 11, 255, 256, 257, 258, math.MaxInt32,
	math.MaxUint32, 1 << 32, 1<<32 + 1, 1<<32 + 2, 1<<33 + 1, math.MaxInt - 1, math.MaxInt,
}

// ballotOf returns a ballot.
func ballotOf(round, node int) api.Ballot {
	return api.Ballot{Round: round, Node: node}
}

// of returns an entry.
func of(index int, b api.Ballot, c api.Cmd) api.Entry {
	return api.Entry{Index: index, Ballot: b, Cmd: c}
}

// full returns a valid list of as many entries as asked for, with one command.
func full(size int, c api.Cmd) []api.Entry {
	var l []api.Entry
	for i := range size {
		l = append(l, of(i+1, ballotOf(i+1, i%nodes+1), c))
	}
	return l
}

// valid returns a message of each kind, each field that it has being different from zero.
func valid() []api.Msg {
	b := ballotOf(3, 2)
	some := []api.Entry{of(4, b, put), of(6, ballotOf(1, 1), nop)}
	return []api.Msg{
		{Kind: api.MsgHello, From: 1, To: 2, Version: 1},
		{Kind: api.MsgWelcome, From: 2, To: 1, Version: 1},
		{Kind: api.MsgPrepare, From: 9, To: 8, Ballot: b, Index: 5},
		{Kind: api.MsgPromise, From: 3, To: 9, Ballot: b, Index: 5, Commit: 300, Entries: some},
		{Kind: api.MsgAccept, From: 3, To: 4, Ballot: b, Entries: some[:1]},
		{Kind: api.MsgAccepted, From: 4, To: 3, Ballot: b, Index: 7},
		{Kind: api.MsgReject, From: 5, To: 6, Ballot: b},
		{Kind: api.MsgBeat, From: 6, To: 5, Ballot: b, Commit: 8},
		{Kind: api.MsgAsk, From: 1, To: 2, Index: 3},
		{Kind: api.MsgTell, From: 7, To: 1, Commit: 2, Entries: some},
		{Kind: api.MsgImage, From: 8, To: 7, Image: []byte("img")},
	}
}

// isIn reports whether a number is in a range.
func isIn(n, least, most int) bool {
	return least <= n && n <= most
}

// isRange reports whether a number, or a ballot, of the fields that the kind has is not valid, by the definition.
func isRange(m api.Msg) bool {
	has := func(field string) bool { return slices.Contains(strings.Fields(having[m.Kind]), field) }
	if !isIn(m.From, 1, nodes) || !isIn(m.To, 1, nodes) || m.From == m.To {
		return true
	}
	if has("Version") && m.Version != 1 && m.Version != 2 {
		return true
	}
	if has("Ballot") && (!isIn(m.Ballot.Round, 1, rounds) || !isIn(m.Ballot.Node, 1, nodes)) {
		return true
	}
	return has("Index") && !isIn(m.Index, 1, indexes) || has("Commit") && !isIn(m.Commit, 0, indexes)
}

// isForm reports whether m has more, or less, than its kind, by the definition.
func isForm(m api.Msg) bool {
	for field, zero := range map[string]bool{
		"Version": m.Version == 0,
		"Ballot":  m.Ballot.Round == 0 && m.Ballot.Node == 0,
		"Index":   m.Index == 0,
		"Commit":  m.Commit == 0,
		"Entries": len(m.Entries) == 0,
		"Image":   len(m.Image) == 0,
	} {
		if !zero && !strings.Contains(having[m.Kind], field) {
			return true
		}
	}
	switch m.Kind {
	case api.MsgAccept:
		return len(m.Entries) != 1 || m.Entries[0].Ballot != m.Ballot
	case api.MsgImage:
		return len(m.Image) == 0
	}
	return false
}

// checked returns the error of m, by the definitions.
func checked(m api.Msg) api.Errno {
	listed := strings.Contains(having[m.Kind], "Entries")
	switch {
	case having[m.Kind] == "":
		return api.ErrKind
	case isRange(m):
		return api.ErrRange
	case listed && len(m.Entries) > entries, m.Kind == api.MsgImage && len(m.Image) > image:
		return api.ErrLong
	case listed && entry.Check(m.Entries) != api.OK:
		return entry.Check(m.Entries)
	case isForm(m):
		return api.ErrForm
	}
	return api.OK
}

// checkedV1 returns the error of m in V1, by the definitions.
func checkedV1(m api.Msg) api.Errno {
	if err := checked(m); err != api.OK {
		return err
	}
	if having[m.Kind] == "Version" && m.Version != 1 {
		return api.ErrVersion
	}
	for _, e := range m.Entries {
		if e.Cmd.Kind == api.CmdCas {
			return api.ErrVersion
		}
	}
	return api.OK
}

// bytesOf returns the encoding of m in V1, by the definition, whatever m is.
func bytesOf(m api.Msg) []byte {
	var b []byte
	for _, n := range []int{m.Kind, m.From, m.To, m.Ballot.Round, m.Ballot.Node, m.Index, m.Commit} {
		b = binary.AppendUvarint(b, uint64(n))
	}
	var w pack.Writer
	entry.Put(&w, 1, m.Entries)
	b = append(b, w.Bytes()...)
	b = binary.AppendUvarint(b, uint64(len(m.Image)))
	return append(b, m.Image...)
}

// equal reports whether all fields of both are equal, by the definition.
func equal(a, b api.Msg) bool {
	rest := a.Kind == b.Kind && a.From == b.From && a.To == b.To && a.Index == b.Index && a.Commit == b.Commit && a.Version == b.Version
	if !rest || a.Ballot.Round != b.Ballot.Round || a.Ballot.Node != b.Ballot.Node {
		return false
	}
	if len(a.Entries) != len(b.Entries) || string(a.Image) != string(b.Image) {
		return false
	}
	for i := range a.Entries {
		if a.Entries[i] != b.Entries[i] {
			return false
		}
	}
	return true
}

// roomy returns m with its lists as pieces of longer ones, with the function that tells whether anything of all that was changed.
func roomy(m api.Msg) (api.Msg, func() bool) {
	l := slices.Concat(full(2, put), m.Entries, full(3, cas))
	b := slices.Concat([]byte("ahead"), m.Image, []byte("behind"))
	oldList, oldBytes := slices.Clone(l), slices.Clone(b)
	m.Entries, m.Image = l[2:2+len(m.Entries)], b[5:5+len(m.Image)]
	return m, func() bool { return !slices.Equal(l, oldList) || !bytes.Equal(b, oldBytes) }
}

// spoil changes all of the lists of m, up to their capacity.
func spoil(m api.Msg) {
	l, b := m.Entries[:cap(m.Entries)], m.Image[:cap(m.Image)]
	for i := range l {
		l[i] = of(-5, ballotOf(-5, -5), api.Cmd{Kind: -5})
	}
	for i := range b {
		b[i] ^= 0xff
	}
}

// wantError fails the test unless b is decoded to nothing, with this error.
func wantError(t *testing.T, b []byte, want api.Errno, what string) {
	t.Helper()
	if got, err := Decode(b); err != want || !equal(got, api.Msg{}) {
		t.Errorf("%s: Decode(%x) = %+v, error %d, want error %d", what, b, got, err, want)
	}
}

// P13.1: the examples of the chapter, and what the definitions say of each kind.
func TestCheckExamples(t *testing.T) {
	for _, x := range []struct {
		m    api.Msg
		want api.Errno
	}{
		{api.Msg{Kind: api.MsgAsk, From: 1, To: 1, Index: 1}, api.ErrRange},
		{api.Msg{Kind: api.MsgImage, From: 1, To: 2}, api.ErrForm},
		{api.Msg{Kind: api.MsgImage, From: 1, To: 2, Image: []byte{}}, api.ErrForm},
		{api.Msg{}, api.ErrKind},
		{api.Msg{Kind: api.MsgTell, From: 1, To: 2}, api.OK},
		{api.Msg{Kind: api.MsgPromise, From: 1, To: 2, Ballot: ballotOf(1, 1), Index: 1}, api.OK},
		{api.Msg{Kind: api.MsgBeat, From: 1, To: 2, Ballot: ballotOf(1, 1)}, api.OK},
		{api.Msg{Kind: api.MsgReject, From: 1, To: 2}, api.ErrRange},
		{api.Msg{Kind: api.MsgHello, From: 1, To: 2}, api.ErrRange},
		{api.Msg{Kind: api.MsgWelcome, From: 1, To: 2, Version: 2}, api.OK},
		{api.Msg{Kind: api.MsgAccept, From: 1, To: 2, Ballot: ballotOf(1, 1)}, api.ErrForm},
		{api.Msg{Kind: api.MsgAccept, From: 1, To: 2, Ballot: ballotOf(1, 1), Entries: full(1, cas)}, api.OK},
		{api.Msg{Kind: api.MsgAccept, From: 1, To: 2, Ballot: ballotOf(1, 2), Entries: full(1, nop)}, api.ErrForm},
		{api.Msg{Kind: api.MsgAccept, From: 1, To: 2, Ballot: ballotOf(1, 1), Entries: full(2, nop)}, api.ErrForm},
		{api.Msg{Kind: api.MsgAccept, From: 1, To: 2, Ballot: ballotOf(1, 1), Entries: full(entries+1, nop)}, api.ErrLong},
		{api.Msg{Kind: api.MsgAccept, From: 1, To: 2, Entries: []api.Entry{of(1, api.Ballot{}, nop)}}, api.ErrRange},
		{api.Msg{Kind: api.MsgAsk, From: 1, To: 2, Index: 1, Entries: []api.Entry{}, Image: []byte{}}, api.OK},
	} {
		if got := Check(x.m); got != x.want {
			t.Errorf("Check(%+v) = %d, want %d", x.m, got, x.want)
		}
	}
	for _, m := range valid() {
		if got := Check(m); got != api.OK {
			t.Errorf("Check(%+v) = %d", m, got)
		}
	}
}

// P13.1: kinds that exist, and those that do not, whatever else there is.
func TestCheckKinds(t *testing.T) {
	var kinds []int
	for kind := -300; kind <= 600; kind++ {
		kinds = append(kinds, kind)
	}
	kinds = append(kinds, numbersAround...)
	for kind := range 12 {
		kinds = append(kinds, 1<<32+kind, 1<<62+kind, math.MinInt+kind)
	}
	for _, kind := range kinds {
		for _, m := range append(valid(), api.Msg{}, api.Msg{From: -1, Index: -1, Entries: full(300, api.Cmd{})}) {
			m.Kind = kind
			if got, want := Check(m), checked(m); got != want || (got == api.ErrKind) != (kind < 1 || kind > 11) {
				t.Fatalf("Check(%+v) = %d, want %d", m, got, want)
			}
		}
	}
}

// P13.1: From and To are two different nodes, in every kind.
func TestCheckNodes(t *testing.T) {
	for _, m := range valid() {
		for _, from := range append(numbersAround, 4, 5, 6, 7) {
			for _, to := range append(numbersAround, 4, 5, 6, 7) {
				m.From, m.To = from, to
				want := api.OK
				if from < 1 || from > 9 || to < 1 || to > 9 || from == to {
					want = api.ErrRange
				}
				if got := Check(m); got != want {
					t.Fatalf("Check(%+v) = %d, want %d", m, got, want)
				}
			}
		}
	}
}

// P13.1: each number at its limits and beyond them, in every kind, whether the kind has it or not.
func TestCheckNumbers(t *testing.T) {
	for _, m := range valid() {
		for _, n := range numbersAround {
			for _, set := range []func(m *api.Msg){
				func(m *api.Msg) { m.Version = n },
				func(m *api.Msg) { m.Index = n },
				func(m *api.Msg) { m.Commit = n },
				func(m *api.Msg) { m.Ballot.Round = n },
				func(m *api.Msg) { m.Ballot.Node = n },
				func(m *api.Msg) { m.Ballot = ballotOf(n, 0) },
				func(m *api.Msg) { m.Ballot = ballotOf(0, n) },
				func(m *api.Msg) { m.Ballot = ballotOf(n, n) },
				func(m *api.Msg) { m.Ballot, m.Commit = api.Ballot{}, n },
				func(m *api.Msg) { m.Index, m.Commit = 0, n },
			} {
				x := m
				set(&x)
				if x.Kind == api.MsgAccept {
					x.Entries = []api.Entry{of(4, x.Ballot, put)}
				}
				if got, want := Check(x), checked(x); got != want {
					t.Fatalf("Check(%+v) = %d, want %d", x, got, want)
				}
			}
		}
	}
}

// P13.1: what a kind has, and nothing else, each field being absent, valid or not valid, all of them with all others.
func TestCheckOfAll(t *testing.T) {
	b := ballotOf(1, 1)
	lists := [][]api.Entry{
		nil, {of(1, b, nop)}, {of(1, ballotOf(1, 2), put)}, full(2, cas), full(entries, nop), full(entries+1, nop), {of(0, b, nop)},
		{of(2, b, nop), of(1, b, nop)}, {of(1, b, api.Cmd{})}, {of(1, b, api.Cmd{Kind: api.CmdNop, Node: 1})}, full(entries+1, api.Cmd{}),
	}
	images := [][]byte{nil, {}, {0}, make([]byte, image), make([]byte, image+1)}
	for kind := 0; kind <= 12; kind++ {
		for i := range 4 * 5 * 4 * 4 * len(lists) * len(images) {
			m := api.Msg{Kind: kind, From: 1, To: 2}
			pick := func(n int) int {
				got := i % n
				i /= n
				return got
			}
			m.Version = pick(4)
			m.Ballot = []api.Ballot{{}, b, ballotOf(rounds, 9), ballotOf(1, 0), ballotOf(1, 10)}[pick(5)]
			m.Index = []int{0, 1, indexes, indexes + 1}[pick(4)]
			m.Commit = []int{0, indexes, indexes + 1, -1}[pick(4)]
			m.Entries = lists[pick(len(lists))]
			m.Image = images[pick(len(images))]
			if got, want := Check(m), checked(m); got != want {
				t.Fatalf("Check of kind %d, version %d, ballot %v, index %d, commit %d, %d entries, %d bytes = %d, want %d",
					kind, m.Version, m.Ballot, m.Index, m.Commit, len(m.Entries), len(m.Image), got, want)
			}
		}
	}
}

// P13.1: of several errors the first one is told: ErrKind, ErrRange, ErrLong, that of the entries, ErrForm.
func TestCheckOrder(t *testing.T) {
	m := api.Msg{Kind: 12, From: 1, To: 1, Commit: -1, Index: 4, Entries: full(entries+1, api.Cmd{})}
	for _, step := range []struct {
		want api.Errno
		mend func()
	}{
		{api.ErrKind, func() { m.Kind = api.MsgTell }},
		{api.ErrRange, func() { m.To = 2 }},
		{api.ErrRange, func() { m.Commit = 1 }},
		{api.ErrLong, func() { m.Entries = m.Entries[:entries] }},
		{api.ErrKind, func() { m.Entries = full(entries, api.Cmd{Kind: api.CmdAdd}) }},
		{api.ErrRange, func() { m.Entries = full(entries, api.Cmd{Kind: api.CmdNop, Key: "k"}) }},
		{api.ErrForm, func() { m.Entries = append(full(2, nop), full(2, nop)...) }},
		{api.ErrOrder, func() { m.Entries = full(entries, nop) }},
		{api.ErrForm, func() { m.Index = 0 }},
		{api.OK, func() {}},
	} {
		if got := Check(m); got != step.want {
			t.Errorf("Check(%+v) = %d, want %d", m, got, step.want)
		}
		step.mend()
	}
	long := api.Msg{Kind: api.MsgImage, From: 1, To: 2, Index: 1, Image: make([]byte, image+1)}
	if got := Check(long); got != api.ErrLong {
		t.Errorf("Check of a long image = %d", got)
	}
	long.From = 0
	if got := Check(long); got != api.ErrRange {
		t.Errorf("Check of a long image from no node = %d", got)
	}
	accept := api.Msg{Kind: api.MsgAccept, From: 1, To: 2, Ballot: ballotOf(1, 2), Entries: []api.Entry{of(1, ballotOf(1, 1), put), of(1, ballotOf(1, 1), put)}}
	if got := Check(accept); got != api.ErrOrder {
		t.Errorf("Check of two entries in no order, with another ballot, = %d", got)
	}
}

// P13.1: messages are the same if each field is, a nil list being like an empty one, valid or not.
func TestSame(t *testing.T) {
	wild := api.Msg{Kind: 99, From: -1, To: -1, Ballot: ballotOf(-1, 99), Index: -1, Commit: -1, Version: 77, Entries: full(3, api.Cmd{}), Image: make([]byte, image+1)}
	for _, m := range append(valid(), api.Msg{}, wild) {
		same, changed := roomy(m)
		if !Same(m, m) || !Same(m, same) || !Same(same, m) || changed() {
			t.Fatalf("%+v is not the same as itself", m)
		}
		for i, change := range []func(m *api.Msg){
			func(m *api.Msg) { m.Kind++ },
			func(m *api.Msg) { m.From++ },
			func(m *api.Msg) { m.To++ },
			func(m *api.Msg) { m.Ballot.Round++ },
			func(m *api.Msg) { m.Ballot.Node++ },
			func(m *api.Msg) { m.Index++ },
			func(m *api.Msg) { m.Commit++ },
			func(m *api.Msg) { m.Version++ },
			func(m *api.Msg) { m.Entries = append(full(1, nop), m.Entries...) },
			func(m *api.Msg) { m.Entries = append(slices.Clone(m.Entries), api.Entry{}) },
			func(m *api.Msg) { m.Image = append([]byte{7}, m.Image...) },
			func(m *api.Msg) { m.Image = append(slices.Clone(m.Image), 0) },
			func(m *api.Msg) { m.Index, m.Commit = m.Commit-1, m.Index+1 },
			func(m *api.Msg) { m.From, m.To = m.From+1, m.To-1 },
		} {
			other := m
			change(&other)
			if Same(m, other) || Same(other, m) {
				t.Fatalf("%+v is the same after change %d", m, i)
			}
		}
	}
	bare, empty := api.Msg{Kind: 1}, api.Msg{Kind: 1, Entries: []api.Entry{}, Image: []byte{}}
	if !Same(bare, empty) || !Same(empty, bare) {
		t.Error("a nil list is not the same as an empty one")
	}
}

// P13.1: every field of every entry, and every byte of an image, counts.
func TestSameLists(t *testing.T) {
	for at := range 3 {
		for i, change := range []func(e *api.Entry){
			func(e *api.Entry) { e.Index++ },
			func(e *api.Entry) { e.Ballot.Round++ },
			func(e *api.Entry) { e.Ballot.Node++ },
			func(e *api.Entry) { e.Cmd.Kind++ },
			func(e *api.Entry) { e.Cmd.Client++ },
			func(e *api.Entry) { e.Cmd.Seq++ },
			func(e *api.Entry) { e.Cmd.Key += "x" },
			func(e *api.Entry) { e.Cmd.Val += "x" },
			func(e *api.Entry) { e.Cmd.Old += "x" },
			func(e *api.Entry) { e.Cmd.Node++ },
		} {
			a := api.Msg{Kind: api.MsgTell, Entries: full(3, cas), Image: []byte("img")}
			b := api.Msg{Kind: api.MsgTell, Entries: full(3, cas), Image: []byte("img")}
			if !Same(a, b) {
				t.Fatalf("%+v and %+v are not the same", a, b)
			}
			change(&b.Entries[at])
			if Same(a, b) || Same(b, a) {
				t.Fatalf("entry %d is the same after change %d", at, i)
			}
		}
		a, b := api.Msg{Image: []byte("img")}, api.Msg{Image: []byte("img")}
		b.Image[at]++
		if Same(a, b) {
			t.Errorf("byte %d of an image does not count", at)
		}
	}
}

// P13.2: encodings written out by hand, and back.
func TestEncodeExamples(t *testing.T) {
	b := ballotOf(3, 2)
	for _, x := range []struct {
		m    api.Msg
		want string
	}{
		{api.Msg{Kind: api.MsgAsk, From: 1, To: 2, Index: 3}, "090102000003000000"},
		{api.Msg{Kind: api.MsgHello, From: 1, To: 2, Version: 1}, "010102000000000000"},
		{api.Msg{Kind: api.MsgWelcome, From: 9, To: 1, Version: 1}, "020901000000000000"},
		{api.Msg{Kind: api.MsgPrepare, From: 1, To: 2, Ballot: b, Index: 300}, "0301020302ac02000000"},
		{api.Msg{Kind: api.MsgPromise, From: 1, To: 2, Ballot: b, Index: 5, Commit: 4, Entries: []api.Entry{of(6, ballotOf(1, 9), put)}}, "0401020302050401060109020102016b01760000"},
		{api.Msg{Kind: api.MsgPromise, From: 1, To: 2, Ballot: b, Index: 5}, "040102030205000000"},
		{api.Msg{Kind: api.MsgAccept, From: 1, To: 2, Ballot: b, Entries: []api.Entry{of(6, b, nop)}}, "050102030200000106030201000000000000"},
		{api.Msg{Kind: api.MsgAccepted, From: 1, To: 2, Ballot: b, Index: 7}, "060102030207000000"},
		{api.Msg{Kind: api.MsgReject, From: 1, To: 2, Ballot: b}, "070102030200000000"},
		{api.Msg{Kind: api.MsgBeat, From: 1, To: 2, Ballot: ballotOf(rounds, 9), Commit: indexes}, "0801028080808010090080808080100000"},
		{api.Msg{Kind: api.MsgTell, From: 1, To: 2, Commit: 4, Entries: []api.Entry{of(6, api.Ballot{}, add)}}, "0a010200000004010600000700000000" + "0900"},
		{api.Msg{Kind: api.MsgTell, From: 1, To: 2}, "0a0102000000000000"},
		{api.Msg{Kind: api.MsgImage, From: 1, To: 2, Image: []byte("img")}, "0b01020000000000" + "03696d67"},
	} {
		got, err := Encode(x.m)
		if hex.EncodeToString(got) != x.want || err != api.OK {
			t.Errorf("Encode(%+v) = %x, error %d, want %s", x.m, got, err, x.want)
		}
		in, _ := hex.DecodeString(x.want)
		if m, err := Decode(in); !equal(m, x.m) || err != api.OK {
			t.Errorf("Decode(%s) = %+v, error %d, want %+v", x.want, m, err, x.m)
		}
	}
}

// wrong returns messages with all kinds of errors, in V1.
func wrong() []api.Msg {
	b := ballotOf(1, 1)
	bad := api.Cmd{Kind: 99}
	return []api.Msg{
		{}, {Kind: 12, From: 1, To: 2}, {Kind: -1, From: 1, To: 2, Index: 1},
		{Kind: api.MsgHello, From: 1, To: 2}, {Kind: api.MsgHello, From: 1, To: 2, Version: 3}, {Kind: api.MsgWelcome, From: 1, To: 2, Version: -1},
		{Kind: api.MsgHello, From: 1, To: 2, Version: 2}, {Kind: api.MsgWelcome, From: 1, To: 2, Version: 2},
		{Kind: api.MsgHello, From: 1, To: 2, Version: 2, Index: 1}, {Kind: api.MsgHello, From: 1, To: 1, Version: 2},
		{Kind: api.MsgAsk, From: 1, To: 1, Index: 3}, {Kind: api.MsgAsk, From: 1, To: 2}, {Kind: api.MsgAsk, From: 1, To: 2, Index: 1, Version: 1},
		{Kind: api.MsgReject, From: 1, To: 2}, {Kind: api.MsgBeat, From: 1, To: 2, Ballot: b, Commit: -1},
		{Kind: api.MsgTell, From: 1, To: 2, Entries: full(2, cas)}, {Kind: api.MsgTell, From: 1, To: 2, Entries: append(full(2, put), of(3, b, cas))},
		{Kind: api.MsgTell, From: 1, To: 2, Entries: append(full(2, cas), of(3, b, bad))}, {Kind: api.MsgTell, From: 1, To: 2, Version: 2, Entries: full(2, cas)},
		{Kind: api.MsgTell, From: 1, To: 2, Entries: append(full(2, cas), full(2, nop)...)}, {Kind: api.MsgTell, From: 1, To: 2, Entries: full(entries+1, cas)},
		{Kind: api.MsgPromise, From: 1, To: 2, Ballot: b, Index: 1, Entries: full(entries, cas)}, {Kind: api.MsgAccept, From: 1, To: 2, Ballot: b, Entries: full(1, cas)},
		{Kind: api.MsgAccept, From: 1, To: 2, Ballot: b, Entries: full(2, cas)}, {Kind: api.MsgAccept, From: 1, To: 2, Ballot: ballotOf(2, 1), Entries: full(1, cas)},
		{Kind: api.MsgImage, From: 1, To: 2}, {Kind: api.MsgImage, From: 1, To: 2, Image: make([]byte, image+1)}, {Kind: api.MsgImage, From: 1, To: 2, Commit: 1, Image: []byte("i")},
	}
}

// P13.2: Encode returns nothing but the error of Check, or ErrVersion behind it.
func TestEncodeErrors(t *testing.T) {
	for _, m := range wrong() {
		given, changed := roomy(m)
		got, err := Encode(given)
		if want := checkedV1(m); len(got) != 0 || err != want || want == api.OK {
			t.Errorf("Encode(%+v) = %x, error %d, want %d", m, got, err, want)
		}
		if changed() {
			t.Errorf("Encode(%+v) changed it", m)
		}
	}
	for _, x := range []struct {
		m    api.Msg
		want api.Errno
	}{
		{api.Msg{Kind: api.MsgTell, From: 1, To: 2, Entries: full(1, cas)}, api.ErrVersion},
		{api.Msg{Kind: api.MsgHello, From: 1, To: 2, Version: 2}, api.ErrVersion},
		{api.Msg{Kind: api.MsgHello, From: 1, To: 2, Version: 3}, api.ErrRange},
		{api.Msg{Kind: api.MsgHello, From: 1, To: 2, Version: 2, Commit: 1}, api.ErrForm},
		{api.Msg{Kind: api.MsgAsk, From: 1, To: 2, Index: 1, Entries: full(1, cas)}, api.ErrForm},
	} {
		if _, err := Encode(x.m); err != x.want {
			t.Errorf("Encode(%+v) = error %d, want %d", x.m, err, x.want)
		}
	}
}

// P13.2: every command but a cas is encoded, and an image and a list as long as they may be.
func TestEncodeLimits(t *testing.T) {
	var messages []api.Msg
	for _, c := range commands {
		messages = append(messages, api.Msg{Kind: api.MsgTell, From: 1, To: 9, Commit: indexes, Entries: full(entries, c)})
	}
	for _, size := range []int{1, 127, 128, 255, 256, image - 1, image} {
		messages = append(messages, api.Msg{Kind: api.MsgImage, From: 9, To: 1, Image: bytes.Repeat([]byte{byte(size)}, size)})
	}
	for _, m := range messages {
		got, err := Encode(m)
		if len(m.Entries) > 0 && m.Entries[0].Cmd.Kind == api.CmdCas {
			if len(got) != 0 || err != api.ErrVersion {
				t.Errorf("a cas is encoded as %x, error %d", got, err)
			}
			continue
		}
		if !bytes.Equal(got, bytesOf(m)) || err != api.OK {
			t.Errorf("Encode of kind %d: %x, error %d, want %x", m.Kind, got, err, bytesOf(m))
		}
		if back, err := Decode(got); !equal(back, m) || err != api.OK {
			t.Errorf("Decode of %d bytes: error %d", len(got), err)
		}
	}
}

// P13.2: what Decode reads is checked; ErrVersion comes last. In V1 a cas has no Old, and no Version is encoded.
func TestDecodeErrors(t *testing.T) {
	for _, m := range wrong() {
		if m.Kind < 0 || m.Commit < 0 {
			continue
		}
		want := m
		want.Version = 0
		if m.Kind == api.MsgHello || m.Kind == api.MsgWelcome {
			want.Version = 1
		}
		err := checkedV1(want)
		if err == api.OK {
			got, err := Decode(bytesOf(m))
			if !equal(got, want) || err != api.OK {
				t.Errorf("Decode of %+v = %+v, error %d", m, got, err)
			}
			continue
		}
		wantError(t, bytesOf(m), err, "not valid")
		wantError(t, append(bytesOf(m), 0), last(err == api.ErrLong, err), "not valid, with a byte left")
	}
}

// last returns the error if it is the reader's, which then reads no further, and ErrForm, for a byte that is left, otherwise.
func last(reader bool, err api.Errno) api.Errno {
	if reader {
		return err
	}
	return api.ErrForm
}

// P13.2: the fields that a kind does not have are read too, and must be zero.
func TestDecodeForm(t *testing.T) {
	for _, m := range valid() {
		for field, set := range map[string]func(m *api.Msg){
			"Ballot":  func(m *api.Msg) { m.Ballot = ballotOf(3, 2) },
			"Index":   func(m *api.Msg) { m.Index = 1 },
			"Commit":  func(m *api.Msg) { m.Commit = 1 },
			"Entries": func(m *api.Msg) { m.Entries = []api.Entry{of(4, ballotOf(3, 2), put)} },
			"Image":   func(m *api.Msg) { m.Image = []byte{0} },
		} {
			x := m
			set(&x)
			if strings.Contains(having[m.Kind], field) {
				if got, err := Decode(bytesOf(x)); !equal(got, x) || err != api.OK {
					t.Errorf("Decode of %+v = %+v, error %d", x, got, err)
				}
				continue
			}
			wantError(t, bytesOf(x), api.ErrForm, field)
		}
	}
}

// P13.2: an encoding that is cut is ErrShort wherever it is cut; bytes that are left are ErrForm.
func TestDecodeCut(t *testing.T) {
	for _, m := range valid() {
		b := bytesOf(m)
		for size := range b {
			wantError(t, b[:size], api.ErrShort, "cut")
		}
		for _, more := range [][]byte{{0}, {0x80}, b} {
			wantError(t, slices.Concat(b, more), api.ErrForm, "bytes left")
		}
	}
	wantError(t, nil, api.ErrShort, "nothing")
	wantError(t, []byte{}, api.ErrShort, "nothing")
}

// P13.2: the error of the reader comes ahead of all others, and is the first one that it meets.
func TestDecodeReader(t *testing.T) {
	for _, x := range []struct {
		what, b string
		want    api.Errno
	}{
		{"a kind that does not exist, cut", "0c0102", api.ErrShort},
		{"a kind that does not exist", "0c0102000000000000", api.ErrKind},
		{"the kind 0", "000102000000000000", api.ErrKind},
		{"a kind of two bytes", "81020102000000000000", api.ErrKind},
		{"a kind with a zero byte too many", "89000102000003000000", api.ErrForm},
		{"a kind of eleven bytes", "8080808080808080808001" + "0102000003000000", api.ErrForm},
		{"a kind as great as numbers may be", "ffffffffffffffff7f" + "0102000003000000", api.ErrKind},
		{"an index as great as numbers may be", "0901020000" + "ffffffffffffffff7f" + "000000", api.ErrRange},
		{"an index beyond MaxIndex", "0901020000" + "8180808010" + "000000", api.ErrRange},
		{"no index", "090102000000000000", api.ErrRange},
		{"the node 0", "090002000003000000", api.ErrRange},
		{"the node 10", "09010a000003000000", api.ErrRange},
		{"one node", "090101000003000000", api.ErrRange},
		{"half a ballot", "070102030000000000", api.ErrRange},
		{"the zero ballot", "070102000000000000", api.ErrRange},
		{"more entries than MaxEntries", "0a01020000" + "0000" + "8102" + strings.Repeat("00", 9000), api.ErrLong},
		{"more entries than bytes", "0a01020000" + "0000" + "02" + "00", api.ErrShort},
		{"no such entry", "0a01020000" + "0000" + "01" + "000000" + "010000000000" + "00", api.ErrRange},
		{"no such command", "0a01020000" + "0000" + "01" + "010000" + "090000000000" + "00", api.ErrKind},
		{"a cas", "0a01020000" + "0000" + "01" + "010000" + "050101016b0000" + "00", api.ErrVersion},
		{"a cas, and bytes left", "0a01020000" + "0000" + "01" + "010000" + "050101016b0000" + "00" + "00", api.ErrForm},
		{"a cas in a message of no such form", "0a01020000" + "0100" + "01" + "010000" + "050101016b0000" + "00", api.ErrForm},
		{"a cas, and an entry that is not valid", "0a01020000" + "0000" + "02" + "010000" + "050101016b0000" + "000000" + "010000000000" + "00", api.ErrRange},
		{"an accept with no entry", "050102030200000000", api.ErrForm},
		{"an accept with another ballot", "0501020302000001" + "060301010000000000" + "00", api.ErrForm},
		{"an image of no bytes", "0b0102000000000000", api.ErrForm},
		{"an image that ends early", "0b01020000000000" + "0401", api.ErrShort},
		{"an image with no length", "0b01020000000000" + "8000", api.ErrForm},
		{"an image that is too long, cut", "0b01020000000000" + "818002", api.ErrLong},
		{"an image that is too long, in another kind", "0c01010000000000" + "818002", api.ErrLong},
		{"an image that is as long as it may be, cut", "0b01020000000000" + "808002", api.ErrShort},
		{"an image in another kind", "09010200000300000100", api.ErrForm},
		{"an image that is too long, in an ask", "0901020000030000" + "818002" + strings.Repeat("00", image+1), api.ErrLong},
	} {
		b, err := hex.DecodeString(x.b)
		if err != nil {
			t.Fatal(x.what, err)
		}
		wantError(t, b, x.want, x.what)
	}
}

// P13.2: what is decoded is new memory, and what is encoded too; neither changes what it is given.
func TestMemory(t *testing.T) {
	for _, m := range valid() {
		given, changed := roomy(m)
		b, _ := Encode(given)
		clear(b[:cap(b)])
		if changed() {
			t.Fatalf("Encode(%+v) changed it, or shares its memory", m)
		}
		whole := slices.Concat(bytesOf(m), []byte("behind"))
		before := slices.Clone(whole)
		got, _ := Decode(whole[:len(whole)-6])
		spoil(got)
		if !bytes.Equal(whole, before) {
			t.Fatalf("Decode of %+v shares the memory of the bytes", m)
		}
		b = bytesOf(m)
		got, _ = Decode(b)
		clear(b)
		if !equal(got, m) {
			t.Fatalf("%+v changes with the bytes that it was read from", m)
		}
	}
}

// P13.2: whatever bytes there are, Decode ends; what it returns is valid in V1, and is encoded as just these bytes.
func TestDecodeOfAll(t *testing.T) {
	r := rand.New(rand.NewSource(1))
	good := 0
	for range 200000 {
		b := bytesOf(someMsg(r))
		for range r.Intn(3) {
			switch i := r.Intn(len(b)); r.Intn(4) {
			case 0:
				b[i] = byte(r.Intn(256))
			case 1:
				b[i] ^= 1 << r.Intn(8)
			case 2:
				b = slices.Delete(b, i, i+1)
			case 3:
				b = slices.Insert(b, i, byte(r.Intn(12)))
			}
			if len(b) == 0 {
				break
			}
		}
		m, err := Decode(b)
		if err != api.OK {
			if !equal(m, api.Msg{}) {
				t.Fatalf("Decode(%x) = %+v, error %d", b, m, err)
			}
			continue
		}
		good++
		if checkedV1(m) != api.OK || !bytes.Equal(bytesOf(m), b) {
			t.Fatalf("Decode(%x) = %+v, error %d of which the encoding is %x", b, m, checkedV1(m), bytesOf(m))
		}
	}
	if good < 50000 {
		t.Errorf("only %d messages were valid", good)
	}
}

// someMsg returns a valid message at random that V1 supports.
func someMsg(r *rand.Rand) api.Msg {
	m := api.Msg{Kind: 1 + r.Intn(11), From: 1 + r.Intn(nodes)}
	m.To = (m.From+r.Intn(nodes-1))%nodes + 1
	some := func(most int) int { return r.Intn(1 << r.Intn(most)) }
	b := ballotOf(1+some(33), 1+r.Intn(nodes))
	for _, field := range strings.Fields(having[m.Kind]) {
		switch field {
		case "Version":
			m.Version = 1
		case "Ballot":
			m.Ballot = b
		case "Index":
			m.Index = 1 + some(33)
		case "Commit":
			m.Commit = some(34) % (indexes + 1)
		case "Entries":
			m.Entries = someEntries(r)
		case "Image":
			m.Image = make([]byte, 1+some(9))
			r.Read(m.Image)
		}
	}
	if m.Kind == api.MsgAccept {
		m.Entries = []api.Entry{of(1+some(33), b, someCmd(r))}
	}
	return m
}

// someEntries returns a valid list at random that V1 supports.
func someEntries(r *rand.Rand) []api.Entry {
	var l []api.Entry
	index := 0
	for range r.Intn(6) {
		index += 1 + r.Intn(1<<r.Intn(28))
		b := ballotOf(1+r.Intn(1<<r.Intn(33)), 1+r.Intn(nodes))
		if r.Intn(4) == 0 {
			b = api.Ballot{}
		}
		l = append(l, of(index, b, someCmd(r)))
	}
	return l
}

// someCmd returns a command at random that V1 supports.
func someCmd(r *rand.Rand) api.Cmd {
	for {
		if c := commands[r.Intn(len(commands))]; c.Kind != api.CmdCas {
			return c
		}
	}
}

// P13.3: messages that V1 supports are recovered from their encodings.
func TestRoundTrip(t *testing.T) {
	r := rand.New(rand.NewSource(3))
	for range 60000 {
		m := someMsg(r)
		given, changed := roomy(m)
		b, err := Encode(given)
		if err != api.OK || !bytes.Equal(b, bytesOf(m)) {
			t.Fatalf("Encode(%+v) = %x, error %d, want %x", m, b, err, bytesOf(m))
		}
		got, err := Decode(b)
		if err != api.OK || !equal(got, m) || !Same(got, m) || Check(got) != api.OK {
			t.Fatalf("%+v becomes %+v, error %d", m, got, err)
		}
		if changed() {
			t.Fatalf("%+v is changed", m)
		}
	}
}

// P13.3: two messages that are not the same have different encodings.
func TestEncodingsDiffer(t *testing.T) {
	seen := map[string]api.Msg{}
	r := rand.New(rand.NewSource(4))
	for range 30000 {
		m := someMsg(r)
		b, _ := Encode(m)
		if other, is := seen[string(b)]; is && !Same(m, other) {
			t.Fatalf("%+v and %+v are both encoded as %x", m, other, b)
		}
		seen[string(b)] = m
	}
}
