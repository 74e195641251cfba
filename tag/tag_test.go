package tag

import (
	"bytes"
	"encoding/binary"
	"encoding/hex"
	"hash/crc32"
	"math"
	"math/rand"
	"slices"
	"strings"
	"testing"

	"changeover/api"
	"changeover/frame"
	"changeover/msgone"
	"changeover/msgtwo"
)

// The limits of the chapters, written out.
const (
	indexes = 1 << 32
	rounds  = 1 << 32
	nodes   = 9
	entries = 256
	image   = 32768
)

// noVersions: numbers that are no version, some with that of a version in their lowest bits.
var noVersions = []int{
	math.MinInt, math.MinInt + 1, math.MinInt + 2, -256, -255, -254, -2, -1, 0, 3, 4, 9, 127, 128, 255, 256, 257, 258,
	1<<16 + 1, 1<<16 + 2, 1<<32 + 1, 1<<32 + 2, 1<<62 + 1, math.MaxInt - 1, math.MaxInt,
}

// Commands of some kinds, all of them valid.
var (
	aNop  = api.Cmd{Kind: api.CmdNop}
	aPut  = api.Cmd{Kind: api.CmdPut, Client: 1, Seq: 2, Key: "k", Val: "v"}
	aCas  = api.Cmd{Kind: api.CmdCas, Client: 1, Seq: 3, Key: "k", Old: "a", Val: "b"}
	anAdd = api.Cmd{Kind: api.CmdAdd, Node: 9}
)

// commands: one of each kind.
var commands = []api.Cmd{
	aNop, aPut, aCas, anAdd, {Kind: api.CmdActivate}, {Kind: api.CmdDrop, Node: 1},
	{Kind: api.CmdGet, Client: 8, Seq: api.MaxSeq, Key: "é:1"},
	{Kind: api.CmdDel, Client: 3, Seq: 4, Key: strings.Repeat("k", 24)},
}

// ballotOf returns a ballot.
func ballotOf(round, node int) api.Ballot {
	return api.Ballot{Round: round, Node: node}
}

// of returns an entry.
func of(index int, b api.Ballot, c api.Cmd) api.Entry {
	return api.Entry{Index: index, Ballot: b, Cmd: c}
}

// full returns a valid list of as many entries as asked for, with one command.
func full(size int, c api.Cmd) []api.Entry {
	var l []api.Entry
	for i := range size {
		l = append(l, of(i+1, ballotOf(i+1, i%nodes+1), c))
	}
	return l
}

// valid returns a message of each kind, and some that V1 does not support.
func valid() []api.Msg {
	b := ballotOf(3, 2)
	some := []api.Entry{of(4, b, aPut), of(6, ballotOf(1, 1), aNop), of(300, api.Ballot{}, anAdd)}
	late := []api.Entry{of(4, b, aPut), of(6, ballotOf(1, 1), aCas)}
	return []api.Msg{
		{Kind: api.MsgHello, From: 1, To: 2, Version: 1},
		{Kind: api.MsgHello, From: 1, To: 2, Version: 2},
		{Kind: api.MsgWelcome, From: 2, To: 1, Version: 1},
		{Kind: api.MsgWelcome, From: 2, To: 1, Version: 2},
		{Kind: api.MsgPrepare, From: 9, To: 8, Ballot: b, Index: 5},
		{Kind: api.MsgPromise, From: 3, To: 9, Ballot: b, Index: 5, Commit: 300, Entries: some},
		{Kind: api.MsgPromise, From: 3, To: 9, Ballot: b, Index: 5, Entries: late},
		{Kind: api.MsgAccept, From: 3, To: 4, Ballot: b, Entries: some[:1]},
		{Kind: api.MsgAccept, From: 3, To: 4, Ballot: b, Entries: []api.Entry{of(200, b, aCas)}},
		{Kind: api.MsgAccepted, From: 4, To: 3, Ballot: b, Index: 7},
		{Kind: api.MsgReject, From: 5, To: 6, Ballot: b},
		{Kind: api.MsgBeat, From: 6, To: 5, Ballot: b, Commit: 8},
		{Kind: api.MsgAsk, From: 1, To: 2, Index: 3},
		{Kind: api.MsgTell, From: 7, To: 1, Commit: 2, Entries: some},
		{Kind: api.MsgTell, From: 7, To: 1, Commit: 2, Entries: late},
		{Kind: api.MsgTell, From: 7, To: 1},
		{Kind: api.MsgImage, From: 8, To: 7, Image: []byte("img")},
	}
}

// wrong returns messages with all kinds of errors, each with the error that it has in both versions.
func wrong() map[api.Errno][]api.Msg {
	b := ballotOf(1, 1)
	return map[api.Errno][]api.Msg{
		api.ErrKind: {
			{}, {Kind: 12, From: 1, To: 2}, {Kind: -1, From: 1, To: 2, Index: 1}, {Kind: math.MaxInt, From: 1, To: 1},
			{Kind: api.MsgTell, From: 1, To: 2, Entries: append(full(2, aPut), of(3, b, api.Cmd{Kind: 99}))},
		},
		api.ErrRange: {
			{Kind: api.MsgHello, From: 1, To: 2}, {Kind: api.MsgHello, From: 1, To: 2, Version: 3}, {Kind: api.MsgWelcome, From: 1, To: 2, Version: -1},
			{Kind: api.MsgHello, From: 1, To: 1, Version: 2}, {Kind: api.MsgAsk, From: 1, To: 1, Index: 3}, {Kind: api.MsgAsk, From: 1, To: 10, Index: 1},
			{Kind: api.MsgAsk, From: 1, To: 2, Index: indexes + 1}, {Kind: api.MsgReject, From: 1, To: 2}, {Kind: api.MsgBeat, From: 1, To: 2, Ballot: b, Commit: -1},
			{Kind: api.MsgTell, From: 1, To: 2, Entries: []api.Entry{of(0, b, aCas)}},
		},
		api.ErrLong: {
			{Kind: api.MsgTell, From: 1, To: 2, Entries: full(entries+1, aCas)}, {Kind: api.MsgImage, From: 1, To: 2, Image: make([]byte, image+1)},
			{Kind: api.MsgImage, From: 1, To: 2, Image: make([]byte, 3*api.MaxBytes)},
		},
		api.ErrText: {
			{Kind: api.MsgTell, From: 1, To: 2, Entries: []api.Entry{of(1, b, api.Cmd{Kind: api.CmdGet, Client: 1, Seq: 1, Key: "/"})}},
		},
		api.ErrOrder: {
			{Kind: api.MsgTell, From: 1, To: 2, Entries: append(full(2, aCas), full(2, aNop)...)},
		},
		api.ErrForm: {
			{Kind: api.MsgHello, From: 1, To: 2, Version: 2, Index: 1}, {Kind: api.MsgAsk, From: 1, To: 2, Index: 1, Version: 2}, {Kind: api.MsgImage, From: 1, To: 2},
			{Kind: api.MsgTell, From: 1, To: 2, Version: 2, Entries: full(2, aCas)}, {Kind: api.MsgAccept, From: 1, To: 2, Ballot: b, Entries: full(2, aCas)},
		},
	}
}

// has reports whether V1 supports m, which is valid, by the definitions.
func has(m api.Msg) bool {
	return m.Version != 2 && !slices.ContainsFunc(m.Entries, func(e api.Entry) bool { return e.Cmd.Kind == api.CmdCas })
}

// encoded returns the encoding of m in a version.
func encoded(v int, m api.Msg) ([]byte, api.Errno) {
	if v == 1 {
		return msgone.Encode(m)
	}
	return msgtwo.Encode(m)
}

// sealed returns the frame of a body, by the definition.
func sealed(body ...byte) []byte {
	b := binary.AppendUvarint(nil, uint64(len(body)))
	b = append(b, body...)
	return binary.LittleEndian.AppendUint32(b, crc32.ChecksumIEEE(body))
}

// letterOf returns the letter of m in a version that supports it, by the definition.
func letterOf(t *testing.T, v int, m api.Msg) []byte {
	t.Helper()
	b, err := encoded(v, m)
	if err != api.OK {
		t.Fatalf("%+v has no encoding in version %d: error %d", m, v, err)
	}
	return sealed(append([]byte{byte(v)}, b...)...)
}

// opened returns what Open is to return, by the definition.
func opened(v int, b []byte) (api.Msg, int, api.Errno) {
	if v != 1 && v != 2 {
		return api.Msg{}, 0, api.ErrVersion
	}
	body, end, err := frame.Next(b, 0)
	if err != api.OK {
		return api.Msg{}, 0, err
	}
	if end != len(b) {
		return api.Msg{}, 0, api.ErrForm
	}
	var m api.Msg
	switch {
	case body[0] == 1:
		m, err = msgone.Decode(body[1:])
	case body[0] == 2 && v == 2:
		m, err = msgtwo.Decode(body[1:])
	default:
		err = api.ErrVersion
	}
	if err != api.OK {
		return api.Msg{}, 0, err
	}
	return m, int(body[0]), api.OK
}

// wantWrap fails the test unless m has this letter in the version, or none with this error, and stays as it is.
func wantWrap(t *testing.T, v int, m api.Msg, want []byte, err api.Errno) {
	t.Helper()
	given, changed := roomy(m)
	if got, e := Wrap(v, given); !bytes.Equal(got, want) || e != err {
		t.Fatalf("Wrap(%d, %+v) = %x, error %d, want %x, error %d", v, m, got, e, want, err)
	}
	if changed() {
		t.Fatalf("Wrap(%d, %+v) changed it", v, m)
	}
}

// wantOpen fails the test unless the letter b is opened to this, and stays as it is.
func wantOpen(t *testing.T, v int, b []byte, want api.Msg, is int, err api.Errno) {
	t.Helper()
	before := slices.Clone(b)
	if got, n, e := Open(v, b); !msgone.Same(got, want) || n != is || e != err {
		t.Fatalf("Open(%d, %x) = %+v, version %d, error %d, want %+v, version %d, error %d", v, b, got, n, e, want, is, err)
	}
	if !bytes.Equal(b, before) {
		t.Fatalf("Open(%d) changed %x to %x", v, before, b)
	}
}

// wantNone fails the test unless the letter b is not opened, with this error.
func wantNone(t *testing.T, v int, b []byte, err api.Errno) {
	t.Helper()
	wantOpen(t, v, b, api.Msg{}, 0, err)
}

// wantTranslate fails the test unless the letter b becomes this one, or none with this error, and stays as it is.
func wantTranslate(t *testing.T, v int, b, want []byte, err api.Errno) {
	t.Helper()
	before := slices.Clone(b)
	if got, e := Translate(v, b); !bytes.Equal(got, want) || e != err {
		t.Fatalf("Translate(%d, %x) = %x, error %d, want %x, error %d", v, b, got, e, want, err)
	}
	if !bytes.Equal(b, before) {
		t.Fatalf("Translate(%d) changed %x to %x", v, before, b)
	}
}

// roomy returns m with its lists as pieces of longer ones, with the function that tells whether anything of all that was changed.
func roomy(m api.Msg) (api.Msg, func() bool) {
	l := slices.Concat(full(2, aPut), m.Entries, full(3, aCas))
	b := slices.Concat([]byte("ahead"), m.Image, []byte("behind"))
	oldList, oldBytes := slices.Clone(l), slices.Clone(b)
	m.Entries, m.Image = l[2:2+len(m.Entries)], b[5:5+len(m.Image)]
	return m, func() bool { return !slices.Equal(l, oldList) || !bytes.Equal(b, oldBytes) }
}

// unhex returns the bytes that a text of hexadecimal digits stands for.
func unhex(t *testing.T, s string) []byte {
	t.Helper()
	b, err := hex.DecodeString(s)
	if err != nil {
		t.Fatal(err)
	}
	return b
}

// samples: letters written out by hand: length, version and encoding, checksum.
var samples = []struct {
	v    int
	m    api.Msg
	want string
}{
	{1, api.Msg{Kind: api.MsgAsk, From: 1, To: 2, Index: 3}, "0a" + "01" + "090102000003000000" + "4a0b6be9"},
	{2, api.Msg{Kind: api.MsgAsk, From: 1, To: 2, Index: 3}, "05" + "02" + "09010203" + "f8b2176b"},
	{1, api.Msg{Kind: api.MsgHello, From: 1, To: 2, Version: 1}, "0a" + "01" + "010102000000000000" + "bc060640"},
	{2, api.Msg{Kind: api.MsgHello, From: 1, To: 2, Version: 1}, "05" + "02" + "01010201" + "3bfbad40"},
	{2, api.Msg{Kind: api.MsgHello, From: 1, To: 2, Version: 2}, "05" + "02" + "01010202" + "81aaa4d9"},
	{2, api.Msg{Kind: api.MsgWelcome, From: 9, To: 1, Version: 2}, "05" + "02" + "02090102" + "14072fee"},
	{1, api.Msg{Kind: api.MsgAccept, From: 1, To: 2, Ballot: ballotOf(3, 2), Entries: []api.Entry{of(6, ballotOf(3, 2), aNop)}}, "13" + "01" + "050102030200000106030201000000000000" + "aff74a08"},
	{2, api.Msg{Kind: api.MsgAccept, From: 1, To: 2, Ballot: ballotOf(3, 2), Entries: []api.Entry{of(6, ballotOf(3, 2), aNop)}}, "08" + "02" + "05010203020601" + "e69bcff4"},
	{2, api.Msg{Kind: api.MsgAccept, From: 1, To: 2, Ballot: ballotOf(3, 2), Entries: []api.Entry{of(6, ballotOf(3, 2), api.Cmd{Kind: api.CmdCas, Client: 1, Seq: 1, Key: "k"})}}, "0e" + "02" + "050102030206050101016b0000" + "c3f7a7b5"},
	{1, api.Msg{Kind: api.MsgBeat, From: 3, To: 1, Ballot: ballotOf(1, 3), Commit: 7}, "0a" + "01" + "080301010300070000" + "f712db16"},
	{2, api.Msg{Kind: api.MsgBeat, From: 3, To: 1, Ballot: ballotOf(1, 3), Commit: 7}, "07" + "02" + "080301010307" + "d8fd37ad"},
	{1, api.Msg{Kind: api.MsgTell, From: 1, To: 2}, "0a" + "01" + "0a0102000000000000" + "619853c2"},
	{2, api.Msg{Kind: api.MsgTell, From: 1, To: 2}, "06" + "02" + "0a01020000" + "02ab820d"},
	{1, api.Msg{Kind: api.MsgImage, From: 1, To: 2, Image: []byte("img")}, "0d" + "01" + "0b0102000000000003696d67" + "a48a3d30"},
	{2, api.Msg{Kind: api.MsgImage, From: 1, To: 2, Image: []byte("img")}, "08" + "02" + "0b010203696d67" + "7bb2aac2"},
}

// P15.1: letters written out by hand, and back.
func TestSamples(t *testing.T) {
	for _, s := range samples {
		b := unhex(t, s.want)
		wantWrap(t, s.v, s.m, b, api.OK)
		wantOpen(t, 2, b, s.m, s.v, api.OK)
		if s.v == 1 {
			wantOpen(t, 1, b, s.m, 1, api.OK)
		} else {
			wantNone(t, 1, b, api.ErrVersion)
		}
		for _, v := range []int{1, 2} {
			wantNone(t, v, append(slices.Clone(b), 0), api.ErrForm)
		}
	}
}

// P15.1: the letter of a message of each kind, in each version; ErrVersion where V1 does not support it.
func TestWrap(t *testing.T) {
	for _, m := range valid() {
		wantWrap(t, 2, m, letterOf(t, 2, m), api.OK)
		if has(m) {
			wantWrap(t, 1, m, letterOf(t, 1, m), api.OK)
		} else {
			wantWrap(t, 1, m, nil, api.ErrVersion)
		}
	}
	wantWrap(t, 1, api.Msg{Kind: api.MsgHello, From: 1, To: 2, Version: 2}, nil, api.ErrVersion)
}

// P15.1: what is no version is ErrVersion, whatever the message is; then comes the error of the message, and that of V1 last.
func TestWrapErrors(t *testing.T) {
	for _, v := range noVersions {
		for _, m := range valid() {
			wantWrap(t, v, m, nil, api.ErrVersion)
		}
		for _, l := range wrong() {
			for _, m := range l {
				wantWrap(t, v, m, nil, api.ErrVersion)
			}
		}
	}
	for err, l := range wrong() {
		for _, m := range l {
			wantWrap(t, 1, m, nil, err)
			wantWrap(t, 2, m, nil, err)
		}
	}
}

// P15.1: the longest messages have letters, too.
func TestLongest(t *testing.T) {
	key, val := strings.Repeat("k", 24), strings.Repeat("v", 48)
	longest := func(c api.Cmd) api.Msg {
		m := api.Msg{Kind: api.MsgPromise, From: 9, To: 8, Ballot: ballotOf(rounds, 9), Index: indexes, Commit: indexes}
		for i := range entries {
			m.Entries = append(m.Entries, of(indexes-entries+1+i, m.Ballot, c))
		}
		return m
	}
	l := []api.Msg{
		longest(api.Cmd{Kind: api.CmdPut, Client: 8, Seq: api.MaxSeq, Key: key, Val: val}),
		longest(api.Cmd{Kind: api.CmdCas, Client: 8, Seq: api.MaxSeq, Key: key, Val: val, Old: val}),
	}
	for _, size := range []int{1, 100, 121, 122, 123, 124, 125, 126, 127, 128, 255, 256, 16370, 16384, image - 1, image} {
		l = append(l, api.Msg{Kind: api.MsgImage, From: 9, To: 1, Image: bytes.Repeat([]byte{byte(size)}, size)})
	}
	for _, m := range l {
		for v := 1; v <= 2; v++ {
			if v == 1 && !has(m) {
				wantWrap(t, 1, m, nil, api.ErrVersion)
				continue
			}
			b := letterOf(t, v, m)
			wantWrap(t, v, m, b, api.OK)
			wantOpen(t, 2, b, m, v, api.OK)
			for to := v; to >= 1 && has(m); to-- {
				wantTranslate(t, to, b, letterOf(t, to, m), api.OK)
			}
		}
	}
}

// P15.1: a reader that is of no version opens nothing, whatever the bytes are.
func TestOpenNoVersion(t *testing.T) {
	for _, v := range noVersions {
		for _, b := range [][]byte{nil, {}, {0}, {0x80}, {1, 1}, {0xff, 0xff, 0x7f}, sealed(0), sealed(1), sealed(9, 9), make([]byte, 20)} {
			wantNone(t, v, b, api.ErrVersion)
		}
		for _, s := range samples {
			wantNone(t, v, unhex(t, s.want), api.ErrVersion)
			wantNone(t, v, unhex(t, s.want+"00"), api.ErrVersion)
		}
	}
}

// P15.1: the error of the frame comes ahead of those of the bytes behind it, of the version and of the message.
func TestOpenFrame(t *testing.T) {
	for _, x := range []struct {
		what, b string
		want    api.Errno
	}{
		{"nothing", "", api.ErrShort},
		{"a length without an end", "80", api.ErrShort},
		{"a length with a zero byte too many", "8100" + "01" + "1bdf05a5", api.ErrForm},
		{"a length of eleven bytes", "8080808080808080808001" + "01", api.ErrForm},
		{"the length 0", "00", api.ErrForm},
		{"the length 0, and bytes left", "0000000000", api.ErrForm},
		{"a body that is too long", "818004", api.ErrLong},
		{"a body that is too long, with a version that does not exist", "818004" + "09", api.ErrLong},
		{"a body as long as it may be, cut", "808004" + "09", api.ErrShort},
		{"no checksum", "0209", api.ErrShort},
		{"half a checksum", "05" + "02" + "09010203" + "f8b2", api.ErrShort},
		{"a wrong checksum", "05" + "02" + "09010203" + "f8b2176c", api.ErrSum},
		{"a checksum in another order", "05" + "02" + "09010203" + "6b17b2f8", api.ErrSum},
		{"a wrong checksum, and a byte left", "05" + "02" + "09010203" + "f8b2176c" + "00", api.ErrSum},
		{"a wrong checksum, of a version that does not exist", "05" + "03" + "09010203" + "f8b2176b", api.ErrSum},
		{"a wrong checksum, of a message that is not valid", "05" + "02" + "09010103" + "f8b2176b", api.ErrSum},
		{"a checksum without the version", "05" + "02" + "09010203" + hex.EncodeToString(binary.LittleEndian.AppendUint32(nil, crc32.ChecksumIEEE([]byte{9, 1, 2, 3}))), api.ErrSum},
	} {
		for _, v := range []int{1, 2} {
			if m, n, err := Open(v, unhex(t, x.b)); err != x.want || n != 0 || !msgone.Same(m, api.Msg{}) {
				t.Errorf("%s: Open(%d, %s) = %+v, version %d, error %d, want error %d", x.what, v, x.b, m, n, err, x.want)
			}
		}
	}
}

// P15.1: a letter that is cut is ErrShort wherever it is cut, and one that is changed ErrSum.
func TestOpenCut(t *testing.T) {
	for _, s := range samples {
		b := unhex(t, s.want)
		for _, v := range []int{1, 2} {
			for size := range b {
				wantNone(t, v, b[:size:size], api.ErrShort)
				wantNone(t, v, b[:size], api.ErrShort)
			}
			for at := 1; at < len(b); at++ {
				other := slices.Clone(b)
				other[at] ^= 1 << (at % 8)
				wantNone(t, v, other, api.ErrSum)
				wantNone(t, v, append(other, 0), api.ErrSum)
			}
		}
	}
}

// P15.1: bytes behind the frame are ErrForm, ahead of the errors of the version and of the message; a frame is one letter, not two.
func TestOpenLeft(t *testing.T) {
	ask := unhex(t, samples[1].want)
	for _, first := range [][]byte{ask, unhex(t, samples[0].want), sealed(0), sealed(3, 9, 1, 2, 3), sealed(1), sealed(2), sealed(2, 9, 1, 1, 3), sealed(1, 12), sealed(255)} {
		for _, more := range [][]byte{{0}, {1}, {0x80}, {0xff}, ask, first} {
			for _, v := range []int{1, 2} {
				wantNone(t, v, slices.Concat(first, more), api.ErrForm)
			}
		}
	}
	if m, n, err := Open(2, slices.Concat(ask, ask)[:len(ask)]); err != api.OK || n != 2 || m.Index != 3 {
		t.Errorf("a letter with memory beyond its end: %+v, version %d, error %d", m, n, err)
	}
}

// P15.1: the first byte is a version, no greater than the reader's, ahead of the error of the message; a body may consist of it alone.
func TestOpenFirst(t *testing.T) {
	one, _ := msgone.Encode(samples[0].m)
	two, _ := msgtwo.Encode(samples[0].m)
	for first := range 256 {
		for _, rest := range [][]byte{nil, one, two, {9, 1, 1, 3}, {12, 1, 2}, {0}, {0x80}, append(slices.Clone(two), 0)} {
			b := sealed(append([]byte{byte(first)}, rest...)...)
			for _, v := range []int{1, 2} {
				m, n, err := opened(v, b)
				if (first < 1 || first > v) != (err == api.ErrVersion) {
					t.Fatalf("the first byte %d, for version %d: error %d", first, v, err)
				}
				wantOpen(t, v, b, m, n, err)
			}
		}
	}
	wantNone(t, 1, sealed(1), api.ErrShort)
	wantNone(t, 2, sealed(1), api.ErrShort)
	wantNone(t, 2, sealed(2), api.ErrShort)
	wantNone(t, 1, sealed(2), api.ErrVersion)
}

// P15.1: the error of the message is that of the version of its letter, whoever reads it.
func TestOpenMessage(t *testing.T) {
	for _, x := range []struct {
		what, b string
		want    api.Errno
	}{
		{"the encoding in V2 in a letter in V1", "01" + "09010203", api.ErrShort},
		{"the encoding in V1 in a letter in V2", "02" + "090102000003000000", api.ErrForm},
		{"a kind that does not exist", "01" + "0c0102000000000000", api.ErrKind},
		{"a kind that does not exist, in V2", "02" + "0c0102", api.ErrForm},
		{"one node", "01" + "090101000003000000", api.ErrRange},
		{"one node, in V2", "02" + "09010103", api.ErrRange},
		{"a byte left", "01" + "09010200000300000000", api.ErrForm},
		{"a byte left, in V2", "02" + "0901020304", api.ErrForm},
		{"a cas", "01" + "0a01020000" + "0000" + "01" + "010000" + "050101016b0000" + "00", api.ErrVersion},
		{"more entries than MaxEntries", "01" + "0a01020000" + "0000" + "8102", api.ErrLong},
		{"more entries than MaxEntries, in V2", "02" + "0a010200" + "8102", api.ErrLong},
		{"two entries with one index, in V2", "02" + "0a010200" + "02" + "01000001" + "01000001", api.ErrOrder},
		{"no such key, in V2", "02" + "0a010200" + "01" + "010000" + "030101012f", api.ErrText},
		{"no such version, in V2", "02" + "01010203", api.ErrRange},
		{"the version twice, in V2", "02" + "02" + "09010203", api.ErrForm},
		{"an image that is too long, in V2", "02" + "0b0102" + "818002" + strings.Repeat("00", image+1), api.ErrLong},
	} {
		body := unhex(t, x.b)
		for v := int(body[0]); v <= 2; v++ {
			if m, n, err := Open(v, sealed(body...)); err != x.want || n != 0 || !msgone.Same(m, api.Msg{}) {
				t.Errorf("%s: Open(%d) = %+v, version %d, error %d, want error %d", x.what, v, m, n, err, x.want)
			}
		}
	}
}

// broken returns a body at random: the version and the encoding of a message, changed in up to two places.
func broken(r *rand.Rand) []byte {
	v := 1 + r.Intn(2)
	b, err := encoded(v, someMsg(r))
	if err != api.OK {
		b = nil
	}
	b = append([]byte{byte(v)}, b...)
	for range r.Intn(3) {
		switch i := r.Intn(len(b)); r.Intn(4) {
		case 0:
			b[i] = byte(r.Intn(256))
		case 1:
			b[i] ^= 1 << r.Intn(8)
		case 2:
			b = slices.Insert(b, i, byte(r.Intn(12)))
		case 3:
			b = append(slices.Delete(b, i, i+1), 1)
		}
	}
	return b
}

// P15.1, P15.2: broken letters are what the definitions say, to every reader, and in every version that they are translated to.
func TestBroken(t *testing.T) {
	r := rand.New(rand.NewSource(15))
	seen := map[api.Errno]int{}
	for range 100000 {
		b := sealed(broken(r)...)
		if r.Intn(16) == 0 {
			b = append(b, byte(r.Intn(3)))
		}
		if r.Intn(16) == 0 {
			b[r.Intn(len(b))] ^= 1 << r.Intn(8)
		}
		for v := 0; v <= 3; v++ {
			m, n, err := opened(v, b)
			wantOpen(t, v, b, m, n, err)
			seen[err]++
			if v < 1 || v > 2 {
				wantTranslate(t, v, b, nil, api.ErrVersion)
				continue
			}
			m, _, err = opened(2, b)
			switch {
			case err != api.OK:
				wantTranslate(t, v, b, nil, err)
			case v == 1 && !has(m):
				wantTranslate(t, v, b, nil, api.ErrVersion)
			default:
				wantTranslate(t, v, b, letterOf(t, v, m), api.OK)
			}
		}
	}
	for _, err := range []api.Errno{api.OK, api.ErrShort, api.ErrLong, api.ErrForm, api.ErrSum, api.ErrKind, api.ErrRange, api.ErrText, api.ErrVersion, api.ErrOrder} {
		if seen[err] < 50 {
			t.Errorf("only %d letters have the error %d", seen[err], err)
		}
	}
}

// P15.2: letters of both versions to both; ErrVersion from Wrap for what V1 does not support.
func TestTranslate(t *testing.T) {
	for _, m := range valid() {
		two := letterOf(t, 2, m)
		wantTranslate(t, 2, two, two, api.OK)
		if !has(m) {
			wantTranslate(t, 1, two, nil, api.ErrVersion)
			continue
		}
		one := letterOf(t, 1, m)
		wantTranslate(t, 1, one, one, api.OK)
		wantTranslate(t, 1, two, one, api.OK)
		wantTranslate(t, 2, one, two, api.OK)
	}
}

// P15.2: what is no version is ErrVersion, whatever the bytes are; then comes the error of Open, which is that of a reader of V2.
func TestTranslateErrors(t *testing.T) {
	hello := letterOf(t, 2, api.Msg{Kind: api.MsgHello, From: 1, To: 2, Version: 2})
	for _, v := range noVersions {
		for _, b := range [][]byte{nil, {}, {0}, {0x80}, sealed(0), sealed(1), hello, hello[:5], append(slices.Clone(hello), 0), unhex(t, samples[0].want)} {
			wantTranslate(t, v, b, nil, api.ErrVersion)
		}
	}
	for _, x := range []struct {
		b    []byte
		want api.Errno
	}{
		{nil, api.ErrShort},
		{[]byte{0}, api.ErrForm},
		{[]byte{0x81, 0x80, 4}, api.ErrLong},
		{hello[:len(hello)-1], api.ErrShort},
		{append(slices.Clone(hello[:len(hello)-1]), 0), api.ErrSum},
		{append(slices.Clone(hello), 0), api.ErrForm},
		{sealed(0, 9, 1, 2, 3), api.ErrVersion},
		{sealed(3, 9, 1, 2, 3), api.ErrVersion},
		{sealed(1, 9, 1, 2, 3), api.ErrShort},
		{sealed(2), api.ErrShort},
		{sealed(2, 12, 1, 2), api.ErrForm},
		{sealed(1, 12, 1, 2, 0, 0, 0, 0, 0, 0), api.ErrKind},
		{sealed(2, 9, 1, 1, 3), api.ErrRange},
		{sealed(2, 1, 1, 1, 2), api.ErrRange},
	} {
		for _, v := range []int{1, 2} {
			wantTranslate(t, v, x.b, nil, x.want)
		}
	}
}

// General rule 3: letters and messages are new memory, and what is given is not changed by changing them.
func TestMemory(t *testing.T) {
	for _, m := range valid() {
		given, changed := roomy(m)
		b, _ := Wrap(2, given)
		clear(b[:cap(b)])
		if changed() {
			t.Fatalf("the letter of %+v shares its memory", m)
		}
		whole := slices.Concat(letterOf(t, 2, m), []byte("behind"))
		letter := whole[:len(whole)-6]
		before := slices.Clone(whole)
		got, _, _ := Open(2, letter)
		clear(got.Image[:cap(got.Image)])
		clear(got.Entries[:cap(got.Entries)])
		for v := 1; v <= 2; v++ {
			b, _ := Translate(v, letter)
			clear(b[:cap(b)])
		}
		if !bytes.Equal(whole, before) {
			t.Fatalf("what was made of the letter of %+v shares its memory", m)
		}
		got, _, _ = Open(2, letter)
		clear(whole)
		if !msgone.Same(got, m) {
			t.Fatalf("%+v changes with the letter that it was read from", m)
		}
	}
}

// someMsg returns a valid message at random.
func someMsg(r *rand.Rand) api.Msg {
	some := func(most int) int { return r.Intn(1 << r.Intn(most)) }
	b := ballotOf(1+some(33), 1+r.Intn(nodes))
	from := 1 + r.Intn(nodes)
	m := api.Msg{Kind: 1 + r.Intn(11), From: from, To: (from+r.Intn(nodes-1))%nodes + 1}
	switch m.Kind {
	case api.MsgHello, api.MsgWelcome:
		m.Version = 1 + r.Intn(2)
	case api.MsgPrepare, api.MsgAccepted:
		m.Ballot, m.Index = b, 1+some(33)
	case api.MsgPromise:
		m.Ballot, m.Index, m.Commit, m.Entries = b, 1+some(33), some(33), someEntries(r)
	case api.MsgAccept:
		m.Ballot, m.Entries = b, []api.Entry{of(1+some(33), b, commands[r.Intn(len(commands))])}
	case api.MsgReject:
		m.Ballot = b
	case api.MsgBeat:
		m.Ballot, m.Commit = b, some(33)
	case api.MsgAsk:
		m.Index = 1 + some(33)
	case api.MsgTell:
		m.Commit, m.Entries = some(33), someEntries(r)
	case api.MsgImage:
		m.Image = make([]byte, 1+some(9))
		r.Read(m.Image)
	}
	return m
}

// someEntries returns a valid list at random.
func someEntries(r *rand.Rand) []api.Entry {
	var l []api.Entry
	index := 0
	for range r.Intn(5) {
		index += 1 + r.Intn(1<<r.Intn(28))
		b := ballotOf(1+r.Intn(1<<r.Intn(33)), 1+r.Intn(nodes))
		if r.Intn(4) == 0 {
			b = api.Ballot{}
		}
		l = append(l, of(index, b, commands[r.Intn(len(commands))]))
	}
	return l
}

// P15.3: a message that a version supports is recovered from its letter by every reader of at least that version, and by no other.
func TestReaders(t *testing.T) {
	r := rand.New(rand.NewSource(153))
	l := valid()
	for range 20000 {
		l = append(l, someMsg(r))
	}
	one, two := 0, 0
	for _, m := range l {
		b, err := Wrap(2, m)
		if err != api.OK {
			t.Fatalf("%+v has no letter in V2: error %d", m, err)
		}
		two++
		wantOpen(t, 2, b, m, 2, api.OK)
		for _, v := range []int{-1, 0, 1, 3, 258} {
			wantNone(t, v, b, api.ErrVersion)
		}
		if !has(m) {
			continue
		}
		b, err = Wrap(1, m)
		if err != api.OK {
			t.Fatalf("%+v has no letter in V1: error %d", m, err)
		}
		one++
		wantOpen(t, 1, b, m, 1, api.OK)
		wantOpen(t, 2, b, m, 1, api.OK)
		for _, v := range []int{-1, 0, 3, 257} {
			wantNone(t, v, b, api.ErrVersion)
		}
	}
	if one < 5000 || two-one < 2000 {
		t.Errorf("V1 supports %d of %d messages", one, two)
	}
}

// P15.3: a letter that is translated to the other version and back is the same letter.
func TestThereAndBack(t *testing.T) {
	r := rand.New(rand.NewSource(154))
	both := 0
	for range 20000 {
		m := someMsg(r)
		for v := 1; v <= 2; v++ {
			if !has(m) {
				continue
			}
			both++
			b := letterOf(t, v, m)
			there, err := Translate(3-v, b)
			if err != api.OK {
				t.Fatalf("the letter of %+v in version %d is not translated: error %d", m, v, err)
			}
			wantOpen(t, 2, there, m, 3-v, api.OK)
			wantTranslate(t, v, there, b, api.OK)
		}
	}
	if both < 10000 {
		t.Errorf("only %d letters were translated", both)
	}
}

// P15.3: a message with a command that V1 does not support has no letter in V1, wherever the command stands.
func TestNoLetterInV1(t *testing.T) {
	b := ballotOf(1, 1)
	for size := 1; size <= 6; size++ {
		for at := range size {
			l := full(size, aPut)
			l[at].Cmd = aCas
			for _, m := range []api.Msg{
				{Kind: api.MsgTell, From: 1, To: 2, Entries: l},
				{Kind: api.MsgPromise, From: 1, To: 2, Ballot: b, Index: 1, Entries: l},
				{Kind: api.MsgAccept, From: 1, To: 2, Ballot: l[0].Ballot, Entries: l[:1]},
			} {
				if m.Kind == api.MsgAccept && at > 0 {
					continue
				}
				two := letterOf(t, 2, m)
				wantWrap(t, 2, m, two, api.OK)
				wantWrap(t, 1, m, nil, api.ErrVersion)
				wantTranslate(t, 1, two, nil, api.ErrVersion)
			}
		}
	}
}

// P15.3: messages that are not the same, and one message in two versions, have different letters.
func TestDifferent(t *testing.T) {
	type read struct {
		v int
		m api.Msg
	}
	seen := map[string]read{}
	r := rand.New(rand.NewSource(155))
	for range 20000 {
		m := someMsg(r)
		for v := 1; v <= 2; v++ {
			b, err := Wrap(v, m)
			if err != api.OK {
				continue
			}
			if other, is := seen[string(b)]; is && (other.v != v || !msgone.Same(m, other.m)) {
				t.Fatalf("%+v in version %d and %+v in version %d have the same letter %x", m, v, other.m, other.v, b)
			}
			seen[string(b)] = read{v, m}
		}
	}
}
