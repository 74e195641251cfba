package msgtwo

import (
	"bytes"
	"encoding/binary"
	"encoding/hex"
	"fmt"
	"math"
	"math/rand"
	"slices"
	"strings"
	"testing"

	"changeover/api"
	"changeover/msgone"
	"changeover/pack"
)

// The limits of the chapters, written out.
const (
	indexes = 1 << 32
	rounds  = 1 << 32
	nodes   = 9
	entries = 256
	image   = 32768
)

// having: the fields that stand behind Kind, From and To in V2, by kinds and in their order, by the definition.
var having = map[int]string{
	api.MsgHello:    "Version",
	api.MsgWelcome:  "Version",
	api.MsgPrepare:  "Round Node Index",
	api.MsgPromise:  "Round Node Index Commit Entries",
	api.MsgAccept:   "Round Node Only",
	api.MsgAccepted: "Round Node Index",
	api.MsgReject:   "Round Node",
	api.MsgBeat:     "Round Node Commit",
	api.MsgAsk:      "Index",
	api.MsgTell:     "Commit Entries",
	api.MsgImage:    "Image",
}

// commanding: the fields of commands in V2, by kinds and in their order, by layer 8.
var commanding = map[int]string{
	api.CmdPut:  "Client Seq Key Val",
	api.CmdGet:  "Client Seq Key",
	api.CmdDel:  "Client Seq Key",
	api.CmdCas:  "Client Seq Key Old Val",
	api.CmdAdd:  "Node",
	api.CmdDrop: "Node",
}

// Commands of some kinds, all of them valid.
var (
	aNop  = api.Cmd{Kind: api.CmdNop}
	aPut  = api.Cmd{Kind: api.CmdPut, Client: 1, Seq: 2, Key: "k", Val: "v"}
	aCas  = api.Cmd{Kind: api.CmdCas, Client: 1, Seq: 3, Key: "k", Old: "a", Val: "b"}
	anAdd = api.Cmd{Kind: api.CmdAdd, Node: 9}
)

// commands: one of each kind.
var commands = []api.Cmd{
	aNop, aPut, aCas, anAdd, {Kind: api.CmdActivate}, {Kind: api.CmdDrop, Node: 1},
	{Kind: api.CmdGet, Client: 8, Seq: api.MaxSeq, Key: "é:1"},
	{Kind: api.CmdDel, Client: 3, Seq: 4, Key: strings.Repeat("k", 24)},
}

// ballotOf returns a ballot.
func ballotOf(round, node int) api.Ballot {
	return api.Ballot{Round: round, Node: node}
}

// of returns an entry.
func of(index int, b api.Ballot, c api.Cmd) api.Entry {
	return api.Entry{Index: index, Ballot: b, Cmd: c}
}

// full returns a valid list of as many entries as asked for, with one command.
func full(size int, c api.Cmd) []api.Entry {
	var l []api.Entry
	for i := range size {
		l = append(l, of(i+1, ballotOf(i+1, i%nodes+1), c))
	}
	return l
}

// valid returns a message of each kind, each field that it has being different from zero, and some that V1 does not support.
func valid() []api.Msg {
	b := ballotOf(3, 2)
	some := []api.Entry{of(4, b, aPut), of(6, ballotOf(1, 1), aNop), of(300, api.Ballot{}, aCas)}
	return []api.Msg{
		{Kind: api.MsgHello, From: 1, To: 2, Version: 1},
		{Kind: api.MsgHello, From: 1, To: 2, Version: 2},
		{Kind: api.MsgWelcome, From: 2, To: 1, Version: 1},
		{Kind: api.MsgWelcome, From: 2, To: 1, Version: 2},
		{Kind: api.MsgPrepare, From: 9, To: 8, Ballot: b, Index: 5},
		{Kind: api.MsgPromise, From: 3, To: 9, Ballot: b, Index: 5, Commit: 300, Entries: some},
		{Kind: api.MsgAccept, From: 3, To: 4, Ballot: b, Entries: some[:1]},
		{Kind: api.MsgAccept, From: 3, To: 4, Ballot: b, Entries: []api.Entry{of(200, b, aCas)}},
		{Kind: api.MsgAccepted, From: 4, To: 3, Ballot: b, Index: 7},
		{Kind: api.MsgReject, From: 5, To: 6, Ballot: b},
		{Kind: api.MsgBeat, From: 6, To: 5, Ballot: b, Commit: 8},
		{Kind: api.MsgAsk, From: 1, To: 2, Index: 3},
		{Kind: api.MsgTell, From: 7, To: 1, Commit: 2, Entries: some},
		{Kind: api.MsgImage, From: 8, To: 7, Image: []byte("img")},
	}
}

// equal reports whether all fields of both are equal, a nil list being like an empty one.
func equal(a, b api.Msg) bool {
	same := slices.Equal(a.Entries, b.Entries) && bytes.Equal(a.Image, b.Image)
	a.Entries, a.Image, b.Entries, b.Image = nil, nil, nil, nil
	return same && fmt.Sprint(a) == fmt.Sprint(b)
}

// bytesOf returns the encoding of m in V2, by the definition; m has one entry at least if it is a MsgAccept.
func bytesOf(m api.Msg) []byte {
	b := numbers(nil, m.Kind, m.From, m.To)
	for _, field := range strings.Fields(having[m.Kind]) {
		switch field {
		case "Version":
			b = numbers(b, m.Version)
		case "Round":
			b = numbers(b, m.Ballot.Round)
		case "Node":
			b = numbers(b, m.Ballot.Node)
		case "Index":
			b = numbers(b, m.Index)
		case "Commit":
			b = numbers(b, m.Commit)
		case "Only":
			b = command(numbers(b, m.Entries[0].Index), m.Entries[0].Cmd)
		case "Entries":
			b = numbers(b, len(m.Entries))
			for _, e := range m.Entries {
				b = command(numbers(b, e.Index, e.Ballot.Round, e.Ballot.Node), e.Cmd)
			}
		case "Image":
			b = append(numbers(b, len(m.Image)), m.Image...)
		}
	}
	return b
}

// numbers appends numbers to b.
func numbers(b []byte, l ...int) []byte {
	for _, n := range l {
		b = binary.AppendUvarint(b, uint64(n))
	}
	return b
}

// command appends the encoding of c in V2 to b, by layer 8.
func command(b []byte, c api.Cmd) []byte {
	text := func(s string) []byte { return append(numbers(b, len(s)), s...) }
	b = numbers(b, c.Kind)
	for _, field := range strings.Fields(commanding[c.Kind]) {
		switch field {
		case "Client":
			b = numbers(b, c.Client)
		case "Seq":
			b = numbers(b, c.Seq)
		case "Node":
			b = numbers(b, c.Node)
		case "Key":
			b = text(c.Key)
		case "Old":
			b = text(c.Old)
		case "Val":
			b = text(c.Val)
		}
	}
	return b
}

// decoded returns what Decode is to return, by the definitions.
func decoded(b []byte) (api.Msg, api.Errno) {
	r := pack.NewReader(b)
	number := func() int { return r.Number(math.MaxInt) }
	m := api.Msg{Kind: number(), From: number(), To: number()}
	if r.Err() != api.OK {
		return api.Msg{}, r.Err()
	}
	if m.Kind < 1 || m.Kind > 11 {
		return api.Msg{}, api.ErrForm
	}
	for _, field := range strings.Fields(having[m.Kind]) {
		switch field {
		case "Version":
			m.Version = number()
		case "Round":
			m.Ballot.Round = number()
		case "Node":
			m.Ballot.Node = number()
		case "Index":
			m.Index = number()
		case "Commit":
			m.Commit = number()
		case "Only":
			m.Entries = []api.Entry{of(number(), m.Ballot, commandOf(r))}
		case "Entries":
			for range r.Count(entries) {
				index, round, node := number(), number(), number()
				m.Entries = append(m.Entries, of(index, ballotOf(round, node), commandOf(r)))
			}
		case "Image":
			m.Image = r.Raw(image)
		}
	}
	err := r.Done()
	if err == api.OK {
		err = msgone.Check(m)
	}
	if err != api.OK {
		return api.Msg{}, err
	}
	return m, api.OK
}

// commandOf returns the next command of the reader in V2, by layer 8.
func commandOf(r *pack.Reader) api.Cmd {
	c := api.Cmd{Kind: r.Number(math.MaxInt)}
	for _, field := range strings.Fields(commanding[c.Kind]) {
		switch field {
		case "Client":
			c.Client = r.Number(math.MaxInt)
		case "Seq":
			c.Seq = r.Number(math.MaxInt)
		case "Node":
			c.Node = r.Number(math.MaxInt)
		case "Key":
			c.Key = r.Text(math.MaxInt)
		case "Old":
			c.Old = r.Text(math.MaxInt)
		case "Val":
			c.Val = r.Text(math.MaxInt)
		}
	}
	return c
}

// wantDecode fails the test unless b is decoded to this message, or to nothing with this error, and stays as it is.
func wantDecode(t *testing.T, what string, b []byte, want api.Msg, err api.Errno) {
	t.Helper()
	before := slices.Clone(b)
	if got, e := Decode(b); !equal(got, want) || e != err {
		t.Fatalf("%s: Decode(%x) = %+v, error %d, want %+v, error %d", what, b, got, e, want, err)
	}
	if !bytes.Equal(b, before) {
		t.Fatalf("%s: Decode changed %x to %x", what, before, b)
	}
}

// roomy returns m with its lists as pieces of longer ones, with the function that tells whether anything of all that was changed.
func roomy(m api.Msg) (api.Msg, func() bool) {
	l := slices.Concat(full(2, aPut), m.Entries, full(3, aCas))
	b := slices.Concat([]byte("ahead"), m.Image, []byte("behind"))
	oldList, oldBytes := slices.Clone(l), slices.Clone(b)
	m.Entries, m.Image = l[2:2+len(m.Entries)], b[5:5+len(m.Image)]
	return m, func() bool { return !slices.Equal(l, oldList) || !bytes.Equal(b, oldBytes) }
}

// P14.1: the examples of the chapter, and encodings written out by hand, and back.
func TestExamples(t *testing.T) {
	b := ballotOf(3, 2)
	for _, x := range []struct {
		m    api.Msg
		want string
	}{
		{api.Msg{Kind: api.MsgAsk, From: 1, To: 2, Index: 3}, "09010203"},
		{api.Msg{Kind: api.MsgHello, From: 1, To: 2, Version: 1}, "01010201"},
		{api.Msg{Kind: api.MsgHello, From: 1, To: 2, Version: 2}, "01010202"},
		{api.Msg{Kind: api.MsgWelcome, From: 9, To: 1, Version: 2}, "02090102"},
		{api.Msg{Kind: api.MsgPrepare, From: 1, To: 2, Ballot: b, Index: 300}, "0301020302ac02"},
		{api.Msg{Kind: api.MsgPromise, From: 1, To: 2, Ballot: b, Index: 5, Commit: 4, Entries: []api.Entry{of(6, ballotOf(1, 9), aPut)}}, "0401020302050401060109020102016b0176"},
		{api.Msg{Kind: api.MsgPromise, From: 1, To: 2, Ballot: b, Index: 5, Entries: []api.Entry{of(6, api.Ballot{}, aNop), of(7, ballotOf(1, 8), aCas)}}, "04010203020500020600000107010805" + "0103016b01610162"},
		{api.Msg{Kind: api.MsgPromise, From: 1, To: 2, Ballot: b, Index: 5}, "0401020302050000"},
		{api.Msg{Kind: api.MsgAccept, From: 1, To: 2, Ballot: b, Entries: []api.Entry{of(6, b, aNop)}}, "05010203020601"},
		{api.Msg{Kind: api.MsgAccept, From: 1, To: 2, Ballot: b, Entries: []api.Entry{of(300, b, anAdd)}}, "0501020302ac020709"},
		{api.Msg{Kind: api.MsgAccept, From: 1, To: 2, Ballot: b, Entries: []api.Entry{of(6, b, api.Cmd{Kind: api.CmdCas, Client: 1, Seq: 1, Key: "k"})}}, "050102030206050101016b0000"},
		{api.Msg{Kind: api.MsgAccepted, From: 1, To: 2, Ballot: b, Index: 7}, "060102030207"},
		{api.Msg{Kind: api.MsgReject, From: 1, To: 2, Ballot: b}, "0701020302"},
		{api.Msg{Kind: api.MsgBeat, From: 1, To: 2, Ballot: ballotOf(rounds, 9), Commit: indexes}, "0801028080808010098080808010"},
		{api.Msg{Kind: api.MsgTell, From: 1, To: 2, Commit: 4, Entries: []api.Entry{of(6, api.Ballot{}, anAdd)}}, "0a010204010600000709"},
		{api.Msg{Kind: api.MsgTell, From: 1, To: 2}, "0a01020000"},
		{api.Msg{Kind: api.MsgImage, From: 1, To: 2, Image: []byte("img")}, "0b010203696d67"},
	} {
		if got, err := Encode(x.m); hex.EncodeToString(got) != x.want || err != api.OK {
			t.Errorf("Encode(%+v) = %x, error %d, want %s", x.m, got, err, x.want)
		}
		b, err := hex.DecodeString(x.want)
		if err != nil {
			t.Fatal(err)
		}
		wantDecode(t, "example", b, x.m, api.OK)
	}
}

// wrong returns messages with all kinds of errors.
func wrong() []api.Msg {
	b := ballotOf(1, 1)
	return []api.Msg{
		{}, {Kind: 12, From: 1, To: 2}, {Kind: -1, From: 1, To: 2, Index: 1}, {Kind: math.MaxInt, From: 1, To: 1},
		{Kind: api.MsgHello, From: 1, To: 2}, {Kind: api.MsgHello, From: 1, To: 2, Version: 3}, {Kind: api.MsgWelcome, From: 1, To: 2, Version: -1},
		{Kind: api.MsgHello, From: 1, To: 2, Version: 2, Index: 1}, {Kind: api.MsgHello, From: 1, To: 1, Version: 2},
		{Kind: api.MsgAsk, From: 1, To: 1, Index: 3}, {Kind: api.MsgAsk, From: 1, To: 2}, {Kind: api.MsgAsk, From: 1, To: 2, Index: indexes + 1},
		{Kind: api.MsgAsk, From: 0, To: 2, Index: 1}, {Kind: api.MsgAsk, From: 1, To: 10, Index: 1}, {Kind: api.MsgAsk, From: 1, To: 2, Index: 1, Version: 1},
		{Kind: api.MsgAsk, From: 1, To: 2, Index: 1, Entries: full(1, aNop)}, {Kind: api.MsgAsk, From: 1, To: 2, Index: 1, Image: []byte{0}},
		{Kind: api.MsgReject, From: 1, To: 2}, {Kind: api.MsgReject, From: 1, To: 2, Ballot: ballotOf(1, 10)}, {Kind: api.MsgReject, From: 1, To: 2, Ballot: b, Commit: 1},
		{Kind: api.MsgBeat, From: 1, To: 2, Ballot: b, Commit: -1}, {Kind: api.MsgBeat, From: 1, To: 2, Ballot: b, Commit: indexes + 1},
		{Kind: api.MsgPrepare, From: 1, To: 2, Ballot: b}, {Kind: api.MsgAccepted, From: 1, To: 2, Index: 1}, {Kind: api.MsgPromise, From: 1, To: 2, Ballot: b},
		{Kind: api.MsgTell, From: 1, To: 2, Entries: full(entries+1, aCas)}, {Kind: api.MsgTell, From: 1, To: 2, Entries: append(full(2, aCas), full(2, aNop)...)},
		{Kind: api.MsgTell, From: 1, To: 2, Entries: append(full(2, aPut), of(3, b, api.Cmd{Kind: 99}))}, {Kind: api.MsgTell, From: 1, To: 2, Version: 2, Entries: full(2, aCas)},
		{Kind: api.MsgTell, From: 1, To: 2, Entries: []api.Entry{of(0, b, aNop)}}, {Kind: api.MsgTell, From: 1, To: 2, Entries: []api.Entry{of(1, b, api.Cmd{Kind: api.CmdGet, Client: 1, Seq: 1, Key: "/"})}},
		{Kind: api.MsgAccept, From: 1, To: 2, Ballot: b}, {Kind: api.MsgAccept, From: 1, To: 2, Ballot: b, Entries: full(2, aCas)}, {Kind: api.MsgAccept, From: 1, To: 2, Ballot: ballotOf(2, 1), Entries: full(1, aCas)},
		{Kind: api.MsgAccept, From: 1, To: 2, Entries: full(1, aNop)}, {Kind: api.MsgAccept, From: 1, To: 2, Entries: []api.Entry{of(1, api.Ballot{}, aNop)}}, {Kind: api.MsgAccept, From: 1, To: 2, Ballot: b, Index: 1, Entries: full(1, aNop)},
		{Kind: api.MsgImage, From: 1, To: 2}, {Kind: api.MsgImage, From: 1, To: 2, Image: []byte{}}, {Kind: api.MsgImage, From: 1, To: 2, Image: make([]byte, image+1)}, {Kind: api.MsgImage, From: 1, To: 2, Commit: 1, Image: []byte("i")},
	}
}

// P14.1: Encode returns nothing but the error of msgone.Check.
func TestEncodeErrors(t *testing.T) {
	seen := map[api.Errno]bool{}
	for _, m := range wrong() {
		given, changed := roomy(m)
		got, err := Encode(given)
		if want := msgone.Check(m); len(got) != 0 || err != want || want == api.OK {
			t.Errorf("Encode(%+v) = %x, error %d, want %d", m, got, err, want)
		}
		if changed() {
			t.Errorf("Encode(%+v) changed it", m)
		}
		seen[err] = true
	}
	for _, err := range []api.Errno{api.ErrKind, api.ErrRange, api.ErrLong, api.ErrText, api.ErrOrder, api.ErrForm} {
		if !seen[err] {
			t.Errorf("no message has the error %d", err)
		}
	}
}

// P14.1: a field that the kind does not have is not overlooked, whichever it is.
func TestEncodeForm(t *testing.T) {
	for _, m := range valid() {
		for field, set := range map[string]func(m *api.Msg){
			"Version": func(m *api.Msg) { m.Version = 1 },
			"Round":   func(m *api.Msg) { m.Ballot = ballotOf(3, 2) },
			"Index":   func(m *api.Msg) { m.Index = 1 },
			"Commit":  func(m *api.Msg) { m.Commit = 1 },
			"Entries": func(m *api.Msg) { m.Entries = full(1, aPut) },
			"Image":   func(m *api.Msg) { m.Image = []byte{0} },
		} {
			x := m
			set(&x)
			if strings.Contains(having[m.Kind], field) || m.Kind == api.MsgAccept && field == "Entries" {
				continue
			}
			if got, err := Encode(x); len(got) != 0 || err != api.ErrForm {
				t.Errorf("%s: Encode(%+v) = %x, error %d, want ErrForm", field, x, got, err)
			}
		}
	}
}

// P14.1: every command, numbers at their limits, an image and a list as long as they may be, and lists that are empty.
func TestEncodeLimits(t *testing.T) {
	most := ballotOf(rounds, nodes)
	l := []api.Msg{
		{Kind: api.MsgPromise, From: 9, To: 1, Ballot: most, Index: indexes, Commit: indexes, Entries: []api.Entry{of(indexes, most, aPut)}},
		{Kind: api.MsgAccept, From: 9, To: 1, Ballot: most, Entries: []api.Entry{of(indexes, most, aCas)}},
		{Kind: api.MsgAccepted, From: 1, To: 9, Ballot: ballotOf(1, 1), Index: 1},
		{Kind: api.MsgTell, From: 1, To: 9, Entries: []api.Entry{}, Image: []byte{}},
	}
	for _, c := range commands {
		l = append(l,
			api.Msg{Kind: api.MsgTell, From: 1, To: 9, Commit: indexes, Entries: full(entries, c)},
			api.Msg{Kind: api.MsgAccept, From: 1, To: 9, Ballot: ballotOf(1, 1), Entries: full(1, c)})
	}
	for _, size := range []int{1, 127, 128, 255, 256, image - 1, image} {
		l = append(l, api.Msg{Kind: api.MsgImage, From: 9, To: 1, Image: bytes.Repeat([]byte{byte(size)}, size)})
	}
	for _, m := range l {
		if got, err := Encode(m); !bytes.Equal(got, bytesOf(m)) || err != api.OK {
			t.Errorf("Encode of kind %d: %x, error %d, want %x", m.Kind, got, err, bytesOf(m))
		}
		wantDecode(t, "limits", bytesOf(m), m, api.OK)
	}
}

// P14.1: what is read is checked behind it: the error of the message is that of msgone.Check, that of the bytes comes first.
func TestDecodeErrors(t *testing.T) {
	for _, m := range wrong() {
		if m.Kind < 1 || m.Kind > 11 || m.Version < 0 || m.Commit < 0 || m.Kind == api.MsgAccept && len(m.Entries) == 0 {
			continue
		}
		// What stands in the encoding of m may be less than m, and then valid.
		want, err := decoded(bytesOf(m))
		wantDecode(t, "not valid", bytesOf(m), want, err)
		if err != api.ErrLong {
			err = api.ErrForm
		}
		wantDecode(t, "not valid, with a byte left", append(bytesOf(m), 0), api.Msg{}, err)
	}
}

// P14.1: an encoding that is cut is ErrShort wherever it is cut; bytes that are left are ErrForm.
func TestDecodeCut(t *testing.T) {
	for _, m := range valid() {
		b := bytesOf(m)
		for size := range b {
			wantDecode(t, "cut", b[:size], api.Msg{}, api.ErrShort)
		}
		for _, more := range [][]byte{{0}, {1}, {0x80}, {0xff}, b} {
			wantDecode(t, "bytes left", slices.Concat(b, more), api.Msg{}, api.ErrForm)
		}
	}
	wantDecode(t, "nothing", nil, api.Msg{}, api.ErrShort)
}

// P14.1: a kind that does not exist is ErrForm, but not before From and To are read.
func TestDecodeKinds(t *testing.T) {
	kinds := []int{1<<32 + 9, 1<<62 + 9, math.MaxInt}
	for kind := range 600 {
		kinds = append(kinds, kind)
	}
	for _, kind := range kinds {
		for _, x := range []struct {
			rest string
			want api.Errno
		}{
			{"", api.ErrShort}, {"01", api.ErrShort}, {"80", api.ErrShort}, {"0180", api.ErrShort}, {"8000", api.ErrForm}, {"018000", api.ErrForm},
			{"0102", api.ErrForm}, {"0101", api.ErrForm}, {"0000", api.ErrForm}, {"010203", api.ErrForm}, {"01020302", api.ErrForm}, {"010280", api.ErrForm},
		} {
			rest, err := hex.DecodeString(x.rest)
			if err != nil {
				t.Fatal(err)
			}
			b := append(numbers(nil, kind), rest...)
			if kind >= 1 && kind <= 11 {
				m, err := decoded(b)
				wantDecode(t, "kind that exists", b, m, err)
				continue
			}
			wantDecode(t, "no kind", b, api.Msg{}, x.want)
		}
	}
}

// P14.1: the error of the reader comes ahead of all others, and is the first one that it meets.
func TestDecodeReader(t *testing.T) {
	for _, x := range []struct {
		what, b string
		want    api.Errno
	}{
		{"a kind that does not exist", "0c0102", api.ErrForm},
		{"the kind 0", "000102", api.ErrForm},
		{"a byte left", "0901020304", api.ErrForm},
		{"one node", "09010103", api.ErrRange},
		{"one node, cut", "090101", api.ErrShort},
		{"one node, and a byte left", "0901010300", api.ErrForm},
		{"the node 0", "09000203", api.ErrRange},
		{"the node 10", "09010a03", api.ErrRange},
		{"a kind with a zero byte too many", "8900010203", api.ErrForm},
		{"a kind of eleven bytes", "8080808080808080808001" + "010203", api.ErrForm},
		{"an index as great as numbers may be", "090102" + "ffffffffffffffff7f", api.ErrRange},
		{"an index greater than numbers may be", "090102" + "ffffffffffffffffff01", api.ErrForm},
		{"an index beyond MaxIndex", "090102" + "8180808010", api.ErrRange},
		{"the index 0", "09010200", api.ErrRange},
		{"the encoding in V1", "090102000003000000", api.ErrForm},
		{"no version", "01010200", api.ErrRange},
		{"a version that does not exist", "02010203", api.ErrRange},
		{"half a ballot", "0701020300", api.ErrRange},
		{"the zero ballot", "0701020000", api.ErrRange},
		{"more entries than MaxEntries", "0a010200" + "8102" + strings.Repeat("00", 9000), api.ErrLong},
		{"more entries than MaxEntries, cut", "0a010200" + "8102", api.ErrLong},
		{"more entries than MaxEntries, in a promise from a node to itself", "04010100000000" + "8102", api.ErrLong},
		{"more entries than bytes", "0a010200" + "02" + "00", api.ErrShort},
		{"no such entry", "0a010200" + "01" + "00000001", api.ErrRange},
		{"no such command", "0a010200" + "01" + "01000009", api.ErrKind},
		{"no such key", "0a010200" + "01" + "010000" + "030101012f", api.ErrText},
		{"two entries with one index", "0a010200" + "02" + "01000001" + "01000001", api.ErrOrder},
		{"two entries with one index, and a byte left", "0a010200" + "02" + "01000001" + "01000001" + "00", api.ErrForm},
		{"a command in V1", "0a010200" + "01" + "010000" + "010000000000", api.ErrForm},
		{"an accept with no command", "0501020302" + "06", api.ErrShort},
		{"an accept with no such command", "0501020302" + "0609", api.ErrKind},
		{"an accept with no such command, and a byte left", "0501020302" + "060901", api.ErrForm},
		{"an accept with the index 0", "0501020302" + "0001", api.ErrRange},
		{"an accept with an index beyond MaxIndex", "0501020302" + "8180808010" + "01", api.ErrRange},
		{"an accept with the zero ballot", "0501020000" + "0601", api.ErrRange},
		{"an accept with the encoding of a list", "0501020302" + "01" + "06030201", api.ErrForm},
		{"an accept with a key that is none", "0501020302" + "06" + "03010100", api.ErrText},
		{"an accept with a long key, cut", "0501020302" + "06" + "030101ffffffffffffffff7f", api.ErrShort},
		{"an image of no bytes", "0b010200", api.ErrForm},
		{"an image that ends early", "0b01020401", api.ErrShort},
		{"an image with no length", "0b01028000", api.ErrForm},
		{"an image that is too long, cut", "0b0102818002", api.ErrLong},
		{"an image that is too long", "0b0102818002" + strings.Repeat("00", image+1), api.ErrLong},
		{"an image that is too long, and a byte left", "0b0102818002" + strings.Repeat("00", image+2), api.ErrLong},
		{"an image that is too long, from a node to itself", "0b0101818002" + strings.Repeat("00", image+1), api.ErrLong},
		{"an image that is as long as it may be, cut", "0b0102808002" + strings.Repeat("00", image-1), api.ErrShort},
		{"an image that is as long as it may be, and a byte left", "0b0102808002" + strings.Repeat("00", image+1), api.ErrForm},
		{"an image from a node to itself", "0b01010100", api.ErrRange},
	} {
		b, err := hex.DecodeString(x.b)
		if err != nil {
			t.Fatal(x.what, err)
		}
		wantDecode(t, x.what, b, api.Msg{}, x.want)
	}
}

// P14.1: all short sequences of bytes, and numbers at all limits at the place of each byte, are what the definitions say.
func TestDecodeOfAll(t *testing.T) {
	for n := range 1 << 16 {
		for _, rest := range [][]byte{nil, {2}, {2, 3}, {2, 3, 2}} {
			b := append([]byte{byte(n >> 8), byte(n)}, rest...)
			m, err := decoded(b)
			wantDecode(t, "two bytes", b, m, err)
		}
	}
	few := []byte{0, 1, 2, 3, 9, 0x80}
	for kind := range byte(13) {
		for n := range 6 * 6 * 6 * 6 * 6 * 6 {
			b := []byte{kind, 1, 2}
			for ; n > 0; n /= 6 {
				b = append(b, few[n%6])
			}
			m, err := decoded(b)
			wantDecode(t, "few bytes", b, m, err)
		}
	}
	for _, m := range valid() {
		whole := bytesOf(m)
		for i := range whole {
			for _, n := range []int{0, 1, 2, 3, 8, 9, 10, 11, 12, 127, 128, 255, 256, 257, image, image + 1, 1 << 32, 1<<32 + 1, math.MaxInt} {
				b := slices.Concat(whole[:i], numbers(nil, n), whole[i+1:])
				m, err := decoded(b)
				wantDecode(t, "another number", b, m, err)
			}
		}
	}
}

// P14.1: broken encodings are what the definitions say; what is decoded is valid, and encoded as just these bytes.
func TestDecodeBroken(t *testing.T) {
	r := rand.New(rand.NewSource(14))
	good := 0
	for range 200000 {
		b := bytesOf(someMsg(r))
		for range r.Intn(3) {
			switch i := r.Intn(len(b)); r.Intn(4) {
			case 0:
				b[i] = byte(r.Intn(256))
			case 1:
				b[i] ^= 1 << r.Intn(8)
			case 2:
				b = slices.Concat(b[:i], b[i+1:])
			case 3:
				b = slices.Insert(b, i, byte(r.Intn(12)))
			}
		}
		want, err := decoded(b)
		wantDecode(t, "broken", b, want, err)
		if err != api.OK {
			continue
		}
		good++
		if back, err := Encode(want); err != api.OK || !bytes.Equal(back, b) {
			t.Fatalf("%x is decoded to %+v, which is encoded as %x, error %d", b, want, back, err)
		}
	}
	if good < 50000 {
		t.Errorf("only %d messages were valid", good)
	}
}

// P14.1: what is encoded is new memory, and what is decoded too.
func TestMemory(t *testing.T) {
	for _, m := range valid() {
		given, changed := roomy(m)
		b, _ := Encode(given)
		clear(b[:cap(b)])
		if changed() {
			t.Fatalf("Encode(%+v) changed it, or shares its memory", m)
		}
		whole := slices.Concat(bytesOf(m), []byte("behind"))
		before := slices.Clone(whole)
		got, _ := Decode(whole[:len(whole)-6])
		clear(got.Image[:cap(got.Image)])
		clear(got.Entries[:cap(got.Entries)])
		if !bytes.Equal(whole, before) {
			t.Fatalf("Decode of %+v changes the bytes, or shares their memory", m)
		}
		got, _ = Decode(whole[:len(whole)-6])
		clear(whole)
		if !equal(got, m) {
			t.Fatalf("%+v changes with the bytes that it was read from", m)
		}
	}
}

// someMsg returns a valid message at random.
func someMsg(r *rand.Rand) api.Msg {
	m := api.Msg{Kind: 1 + r.Intn(11), From: 1 + r.Intn(nodes)}
	m.To = (m.From+r.Intn(nodes-1))%nodes + 1
	some := func(most int) int { return r.Intn(1 << r.Intn(most)) }
	for _, field := range strings.Fields(having[m.Kind]) {
		switch field {
		case "Version":
			m.Version = 1 + r.Intn(2)
		case "Round":
			m.Ballot.Round = 1 + some(33)
		case "Node":
			m.Ballot.Node = 1 + r.Intn(nodes)
		case "Index":
			m.Index = 1 + some(33)
		case "Commit":
			m.Commit = some(34) % (indexes + 1)
		case "Only":
			m.Entries = []api.Entry{of(1+some(33), m.Ballot, commands[r.Intn(len(commands))])}
		case "Entries":
			m.Entries = someEntries(r)
		case "Image":
			m.Image = make([]byte, 1+some(9))
			r.Read(m.Image)
		}
	}
	return m
}

// someEntries returns a valid list at random.
func someEntries(r *rand.Rand) []api.Entry {
	var l []api.Entry
	index := 0
	for range r.Intn(6) {
		index += 1 + r.Intn(1<<r.Intn(28))
		b := ballotOf(1+r.Intn(1<<r.Intn(33)), 1+r.Intn(nodes))
		if r.Intn(4) == 0 {
			b = api.Ballot{}
		}
		l = append(l, of(index, b, commands[r.Intn(len(commands))]))
	}
	return l
}

// P14.2: messages are recovered from their encodings; one that V1 supports is the same in whichever version it was encoded.
func TestRoundTrip(t *testing.T) {
	r := rand.New(rand.NewSource(142))
	l := valid()
	for range 60000 {
		l = append(l, someMsg(r))
	}
	both := 0
	for _, m := range l {
		given, changed := roomy(m)
		b, err := Encode(given)
		if err != api.OK || !bytes.Equal(b, bytesOf(m)) {
			t.Fatalf("Encode(%+v) = %x, error %d, want %x", m, b, err, bytesOf(m))
		}
		got, err := Decode(b)
		if err != api.OK || !equal(got, m) || !msgone.Same(got, m) || msgone.Check(got) != api.OK {
			t.Fatalf("%+v becomes %+v, error %d", m, got, err)
		}
		if changed() {
			t.Fatalf("%+v is changed", m)
		}
		one, err := msgone.Encode(m)
		if err != api.OK {
			continue
		}
		both++
		if old, err := msgone.Decode(one); err != api.OK || !msgone.Same(old, got) {
			t.Fatalf("%+v becomes %+v in V1, error %d, and %+v in V2", m, old, err, got)
		}
	}
	if both < 20000 || both == len(l) {
		t.Errorf("V1 supports %d of %d messages", both, len(l))
	}
}

// P14.2: messages that are not the same have different encodings.
func TestDifferent(t *testing.T) {
	seen := map[string]api.Msg{}
	r := rand.New(rand.NewSource(143))
	for range 30000 {
		m := someMsg(r)
		b, err := Encode(m)
		if err != api.OK {
			t.Fatalf("Encode(%+v): error %d", m, err)
		}
		if other, is := seen[string(b)]; is && !msgone.Same(m, other) {
			t.Fatalf("%+v and %+v are both encoded as %x", m, other, b)
		}
		seen[string(b)] = m
	}
}
