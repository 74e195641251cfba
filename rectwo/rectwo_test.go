package rectwo

import (
	"bytes"
	"encoding/binary"
	"encoding/hex"
	"math"
	"math/rand"
	"slices"
	"strings"
	"testing"

	"changeover/api"
	"changeover/pack"
	"changeover/recone"
)

// The limits of the chapters, written out.
const (
	indexes = 1 << 32
	rounds  = 1 << 32
	image   = 32768
)

// having: the fields that each kind of records has, in the order of the encoding, by the definition.
var having = map[int]string{
	api.RecPromise: "Ballot",
	api.RecAccept:  "Ballot Index Cmd",
	api.RecChosen:  "Index Cmd",
	api.RecImage:   "Index Image",
}

// commanding: the fields that each kind of commands has, in the order of the encoding in V2, by the definition.
var commanding = map[int]string{
	api.CmdPut:  "Client Seq Key Val",
	api.CmdGet:  "Client Seq Key",
	api.CmdDel:  "Client Seq Key",
	api.CmdCas:  "Client Seq Key Old Val",
	api.CmdAdd:  "Node",
	api.CmdDrop: "Node",
}

// Commands of some kinds, all of them valid.
var (
	aNop  = api.Cmd{Kind: api.CmdNop}
	aPut  = api.Cmd{Kind: api.CmdPut, Client: 1, Seq: 2, Key: "k", Val: "v"}
	aCas  = api.Cmd{Kind: api.CmdCas, Client: 1, Seq: 3, Key: "k", Old: "a", Val: "b"}
	anAdd = api.Cmd{Kind: api.CmdAdd, Node: 9}
)

// commands: one of each kind at least.
var commands = []api.Cmd{
	aNop, aPut, aCas, anAdd, {Kind: api.CmdActivate}, {Kind: api.CmdDrop, Node: 1},
	{Kind: api.CmdGet, Client: 8, Seq: api.MaxSeq, Key: "é:1"},
	{Kind: api.CmdDel, Client: 3, Seq: 4, Key: strings.Repeat("k", 24)},
	{Kind: api.CmdPut, Client: 8, Seq: api.MaxSeq, Key: strings.Repeat("k", 24), Val: strings.Repeat("v", 48)},
	{Kind: api.CmdCas, Client: 8, Seq: 1, Key: "k", Old: strings.Repeat("o", 48), Val: strings.Repeat("v", 48)},
	{Kind: api.CmdCas, Client: 1, Seq: 1, Key: "k"},
}

// samples: records with their encodings in both formats, written out by hand; no encoding in F1 is of what V1 does not support.
var samples = []struct {
	x        api.Record
	two, one string
}{
	{api.Record{Kind: api.RecPromise, Ballot: ballotOf(2, 3)}, "110203", "01020300"},
	{api.Record{Kind: api.RecPromise, Ballot: ballotOf(rounds, 9)}, "11" + "8080808010" + "09", "01" + "8080808010" + "0900"},
	{api.Record{Kind: api.RecAccept, Ballot: ballotOf(3, 2), Index: 300, Cmd: aPut}, "120302" + "ac02" + "020102016b0176", "020302" + "ac02" + "020102016b017600"},
	{api.Record{Kind: api.RecAccept, Ballot: ballotOf(200, 1), Index: 1, Cmd: aNop}, "12" + "c801" + "0101" + "01", "02" + "c801" + "0101" + "010000000000"},
	{api.Record{Kind: api.RecAccept, Ballot: ballotOf(1, 1), Index: 4, Cmd: aCas}, "12010104" + "050103016b01610162", ""},
	{api.Record{Kind: api.RecChosen, Index: 4, Cmd: api.Cmd{Kind: api.CmdActivate}}, "1304" + "06", "03000004" + "060000000000"},
	{api.Record{Kind: api.RecChosen, Index: indexes, Cmd: anAdd}, "13" + "8080808010" + "0709", "030000" + "8080808010" + "070000000009"},
	{api.Record{Kind: api.RecChosen, Index: 5, Cmd: api.Cmd{Kind: api.CmdDrop, Node: 1}}, "1305" + "0801", "03000005" + "080000000001"},
	{api.Record{Kind: api.RecChosen, Index: 5, Cmd: api.Cmd{Kind: api.CmdGet, Client: 8, Seq: 1 << 32, Key: "é"}}, "1305" + "0308" + "8080808010" + "02c3a9", "03000005" + "0308" + "8080808010" + "02c3a90000"},
	{api.Record{Kind: api.RecChosen, Index: 5, Cmd: api.Cmd{Kind: api.CmdDel, Client: 1, Seq: 1, Key: "k"}}, "1305" + "040101016b", "03000005" + "040101016b0000"},
	{api.Record{Kind: api.RecChosen, Index: 7, Cmd: api.Cmd{Kind: api.CmdCas, Client: 1, Seq: 1, Key: "k"}}, "1307" + "050101016b0000", ""},
	{api.Record{Kind: api.RecImage, Index: 6, Image: []byte("img")}, "1406" + "03696d67", "04000006" + "03696d67"},
	{api.Record{Kind: api.RecImage, Index: 1, Image: []byte{0}}, "1401" + "0100", "04000001" + "0100"},
}

// wrong: records with all kinds of errors, each with the error that it has.
var wrong = []struct {
	want api.Errno
	x    api.Record
}{
	{api.ErrKind, api.Record{}},
	{api.ErrKind, api.Record{Kind: -1, Index: 1, Cmd: aNop}},
	{api.ErrKind, api.Record{Kind: 5, Ballot: ballotOf(1, 1)}},
	{api.ErrKind, api.Record{Kind: 17, Ballot: ballotOf(1, 1)}},
	{api.ErrKind, api.Record{Kind: -15, Ballot: ballotOf(1, 1)}},
	{api.ErrKind, api.Record{Kind: 1<<32 + 1, Ballot: ballotOf(1, 1)}},
	{api.ErrKind, api.Record{Kind: math.MaxInt, Index: -1, Image: make([]byte, image+1)}},
	{api.ErrKind, api.Record{Kind: math.MinInt}},
	{api.ErrRange, api.Record{Kind: api.RecPromise}},
	{api.ErrRange, api.Record{Kind: api.RecPromise, Ballot: ballotOf(1, 0)}},
	{api.ErrRange, api.Record{Kind: api.RecPromise, Ballot: ballotOf(rounds+1, 1)}},
	{api.ErrRange, api.Record{Kind: api.RecAccept, Index: 1, Cmd: aNop}},
	{api.ErrRange, api.Record{Kind: api.RecAccept, Ballot: ballotOf(1, 10), Index: 1, Cmd: aCas}},
	{api.ErrRange, api.Record{Kind: api.RecAccept, Ballot: ballotOf(1, 1), Cmd: api.Cmd{}}},
	{api.ErrRange, api.Record{Kind: api.RecChosen, Index: -1, Cmd: aNop}},
	{api.ErrRange, api.Record{Kind: api.RecChosen, Index: indexes + 1, Cmd: aNop}},
	{api.ErrRange, api.Record{Kind: api.RecChosen, Index: 1, Cmd: api.Cmd{Kind: api.CmdAdd, Node: 10}}},
	{api.ErrRange, api.Record{Kind: api.RecImage, Image: []byte("i")}},
	{api.ErrRange, api.Record{Kind: api.RecImage, Index: indexes + 1, Image: make([]byte, image+1)}},
	{api.ErrLong, api.Record{Kind: api.RecImage, Index: 1, Image: make([]byte, image+1)}},
	{api.ErrLong, api.Record{Kind: api.RecImage, Index: 1, Ballot: ballotOf(1, 1), Image: make([]byte, 3*api.MaxBytes)}},
	{api.ErrKind, api.Record{Kind: api.RecAccept, Ballot: ballotOf(1, 1), Index: 1}},
	{api.ErrKind, api.Record{Kind: api.RecChosen, Index: 1, Cmd: api.Cmd{Kind: 9}}},
	{api.ErrText, api.Record{Kind: api.RecChosen, Index: 1, Cmd: api.Cmd{Kind: api.CmdGet, Client: 1, Seq: 1, Key: "/"}}},
	{api.ErrText, api.Record{Kind: api.RecAccept, Ballot: ballotOf(1, 1), Index: 1, Cmd: api.Cmd{Kind: api.CmdCas, Client: 1, Seq: 1, Key: "k", Old: "\xff"}}},
	{api.ErrForm, api.Record{Kind: api.RecChosen, Index: 1, Cmd: api.Cmd{Kind: api.CmdNop, Node: 1}}},
	{api.ErrForm, api.Record{Kind: api.RecPromise, Ballot: ballotOf(1, 1), Index: 1}},
	{api.ErrForm, api.Record{Kind: api.RecPromise, Ballot: ballotOf(1, 1), Cmd: aCas}},
	{api.ErrForm, api.Record{Kind: api.RecPromise, Ballot: ballotOf(1, 1), Image: []byte{0}}},
	{api.ErrForm, api.Record{Kind: api.RecAccept, Ballot: ballotOf(1, 1), Index: 1, Cmd: aNop, Image: []byte{0}}},
	{api.ErrForm, api.Record{Kind: api.RecChosen, Ballot: ballotOf(1, 1), Index: 1, Cmd: aNop}},
	{api.ErrForm, api.Record{Kind: api.RecChosen, Index: 1, Cmd: aCas, Image: []byte{0}}},
	{api.ErrForm, api.Record{Kind: api.RecImage, Index: 1}},
	{api.ErrForm, api.Record{Kind: api.RecImage, Index: 1, Image: []byte{}}},
	{api.ErrForm, api.Record{Kind: api.RecImage, Index: 1, Image: []byte{0}, Ballot: ballotOf(1, 1)}},
	{api.ErrForm, api.Record{Kind: api.RecImage, Index: 1, Image: []byte{0}, Cmd: aNop}},
}

// noFormats: numbers that are no formats.
var noFormats = []int{0, -1, -2, 3, 4, 16, 17, 18, 255, 256, 257, 258, 1 << 32, 1<<32 + 1, 1<<32 + 2, 1<<33 + 2, math.MinInt, math.MinInt + 1, math.MinInt + 2, math.MaxInt}

// ballotOf returns a ballot.
func ballotOf(round, node int) api.Ballot {
	return api.Ballot{Round: round, Node: node}
}

// bytesOf returns the encoding of x in F2, by the definition, whatever x is.
func bytesOf(x api.Record) []byte {
	b := binary.AppendUvarint(nil, uint64(x.Kind+16))
	add := func(l ...int) {
		for _, n := range l {
			b = binary.AppendUvarint(b, uint64(n))
		}
	}
	for _, field := range strings.Fields(having[x.Kind]) {
		switch field {
		case "Ballot":
			add(x.Ballot.Round, x.Ballot.Node)
		case "Index":
			add(x.Index)
		case "Cmd":
			b = append(b, commandOf(x.Cmd)...)
		case "Image":
			add(len(x.Image))
			b = append(b, x.Image...)
		}
	}
	return b
}

// commandOf returns the encoding of c in V2, by the definition, whatever c is.
func commandOf(c api.Cmd) []byte {
	b := binary.AppendUvarint(nil, uint64(c.Kind))
	for _, field := range strings.Fields(commanding[c.Kind]) {
		switch field {
		case "Client", "Seq", "Node":
			b = binary.AppendUvarint(b, uint64(map[string]int{"Client": c.Client, "Seq": c.Seq, "Node": c.Node}[field]))
		default:
			s := map[string]string{"Key": c.Key, "Old": c.Old, "Val": c.Val}[field]
			b = append(binary.AppendUvarint(b, uint64(len(s))), s...)
		}
	}
	return b
}

// asRead returns the record in F2 as the reader gives it, and the error of the reader, by the definition.
func asRead(b []byte) (api.Record, api.Errno) {
	r := pack.NewReader(b)
	x := api.Record{Kind: r.Number(math.MaxInt) - 16}
	if r.Err() != api.OK {
		return x, r.Err()
	}
	if having[x.Kind] == "" {
		return x, api.ErrForm
	}
	for _, field := range strings.Fields(having[x.Kind]) {
		switch field {
		case "Ballot":
			x.Ballot.Round = r.Number(math.MaxInt)
			x.Ballot.Node = r.Number(math.MaxInt)
		case "Index":
			x.Index = r.Number(math.MaxInt)
		case "Cmd":
			x.Cmd = commandRead(r)
		case "Image":
			x.Image = r.Raw(image)
		}
	}
	return x, r.Done()
}

// commandRead returns the command in V2 as the reader gives it, by the definition.
func commandRead(r *pack.Reader) api.Cmd {
	c := api.Cmd{Kind: r.Number(math.MaxInt)}
	for _, field := range strings.Fields(commanding[c.Kind]) {
		switch field {
		case "Client":
			c.Client = r.Number(math.MaxInt)
		case "Seq":
			c.Seq = r.Number(math.MaxInt)
		case "Node":
			c.Node = r.Number(math.MaxInt)
		case "Key":
			c.Key = r.Text(math.MaxInt)
		case "Old":
			c.Old = r.Text(math.MaxInt)
		case "Val":
			c.Val = r.Text(math.MaxInt)
		}
	}
	return c
}

// decoded returns what Decode is to return, by the definition.
func decoded(b []byte) (api.Record, api.Errno) {
	x, err := asRead(b)
	if err == api.OK {
		err = recone.Check(x)
	}
	if err != api.OK {
		return api.Record{}, err
	}
	return x, api.OK
}

// equal reports whether all fields of both are equal, by the definition.
func equal(a, b api.Record) bool {
	return a.Kind == b.Kind && a.Ballot == b.Ballot && a.Index == b.Index && a.Cmd == b.Cmd && string(a.Image) == string(b.Image)
}

// brief returns x with no more than the first bytes of its image.
func brief(x api.Record) api.Record {
	x.Image = x.Image[:min(len(x.Image), 20)]
	return x
}

// roomy returns x with its image as a piece of a longer list, with the function that tells whether anything of that was changed.
func roomy(x api.Record) (api.Record, func() bool) {
	b := slices.Concat([]byte("ahead"), x.Image, []byte("behind"))
	before := slices.Clone(b)
	x.Image = b[5 : 5+len(x.Image)]
	return x, func() bool { return !bytes.Equal(b, before) }
}

// unhex returns the bytes that are written in hexadecimal.
func unhex(t *testing.T, s string) []byte {
	t.Helper()
	b, err := hex.DecodeString(s)
	if err != nil {
		t.Fatal(s, err)
	}
	return b
}

// someRecord returns a valid record at random.
func someRecord(r *rand.Rand) api.Record {
	some := func(bits int) int { return 1 + r.Intn(1<<r.Intn(bits)) }
	x := api.Record{Kind: 1 + r.Intn(4)}
	for _, field := range strings.Fields(having[x.Kind]) {
		switch field {
		case "Ballot":
			x.Ballot = ballotOf(some(33), 1+r.Intn(9))
		case "Index":
			x.Index = some(33)
		case "Cmd":
			x.Cmd = commands[r.Intn(len(commands))]
		case "Image":
			x.Image = make([]byte, some(10))
			r.Read(x.Image)
		}
	}
	return x
}

// broken returns b, changed in up to two places.
func broken(r *rand.Rand, b []byte) []byte {
	for range r.Intn(3) {
		switch i := r.Intn(min(len(b), 12)); r.Intn(5) {
		case 0:
			b[i] = byte(r.Intn(256))
		case 1:
			b[i] ^= 1 << r.Intn(8)
		case 2:
			b = slices.Insert(b, i, byte(r.Intn(24)))
		case 3:
			b = append(slices.Delete(b, i, i+1), byte(r.Intn(3)))
		case 4:
			b = b[:1+r.Intn(len(b))]
		}
	}
	return b
}

// wantEncode fails the test unless x has this encoding in F2, or none with this error, and stays as it is.
func wantEncode(t *testing.T, x api.Record, want []byte, err api.Errno) {
	t.Helper()
	given, changed := roomy(x)
	for _, encode := range []func(api.Record) ([]byte, api.Errno){Encode, func(x api.Record) ([]byte, api.Errno) { return Put(2, x) }} {
		if got, e := encode(given); !bytes.Equal(got, want) || e != err {
			t.Fatalf("%+v is encoded as %d bytes, %.99x, error %d, want %d bytes, %.99x, error %d", brief(x), len(got), got, e, len(want), want, err)
		}
		if changed() {
			t.Fatalf("%+v was changed by being encoded", brief(x))
		}
	}
}

// wantDecode fails the test unless b is decoded in F2 to this record, or none with this error, and stays as it is.
func wantDecode(t *testing.T, b []byte, want api.Record, err api.Errno, what string) {
	t.Helper()
	before := slices.Clone(b)
	for _, decode := range []func([]byte) (api.Record, api.Errno){Decode, func(b []byte) (api.Record, api.Errno) { return Get(2, b) }} {
		if got, e := decode(b); !equal(got, want) || e != err {
			t.Fatalf("%s: %.99x is decoded as %+v, error %d, want %+v, error %d", what, b, brief(got), e, brief(want), err)
		}
		if !bytes.Equal(b, before) {
			t.Fatalf("%s: %.99x was changed to %.99x", what, before, b)
		}
	}
}

// wantLike fails the test unless b is decoded to what the definition says.
func wantLike(t *testing.T, b []byte, what string) {
	t.Helper()
	want, err := decoded(b)
	wantDecode(t, b, want, err, what)
}

// P17.1, P17.2: encodings in both formats, written out by hand, and back.
func TestSamples(t *testing.T) {
	for _, s := range samples {
		two := unhex(t, s.two)
		wantEncode(t, s.x, two, api.OK)
		wantDecode(t, two, s.x, api.OK, "a sample")
		if !bytes.Equal(bytesOf(s.x), two) {
			t.Errorf("the definition gives %x for %s", bytesOf(s.x), s.two)
		}
		want := api.OK
		if s.one == "" {
			want = api.ErrVersion
		}
		one := unhex(t, s.one)
		if got, err := Put(1, s.x); !bytes.Equal(got, one) || err != want {
			t.Errorf("Put(1, %+v) = %x, error %d, want %s, error %d", s.x, got, err, s.one, want)
		}
		if want != api.OK {
			continue
		}
		if got, err := Get(1, one); !equal(got, s.x) || err != api.OK {
			t.Errorf("Get(1, %s) = %+v, error %d, want %+v", s.one, got, err, s.x)
		}
		if got, err := Rewrite(one); !bytes.Equal(got, two) || err != api.OK {
			t.Errorf("Rewrite(%s) = %x, error %d, want %s", s.one, got, err, s.two)
		}
	}
}

// P17.1: Encode returns the error of recone.Check, and no other.
func TestEncodeErrors(t *testing.T) {
	for _, w := range wrong {
		wantEncode(t, w.x, nil, w.want)
		if err := recone.Check(w.x); err != w.want {
			t.Errorf("recone.Check(%+v) = %d, want %d", brief(w.x), err, w.want)
		}
	}
}

// P17.1: each field of every kind of records, absent, valid or not, with all others.
func TestEncodeOfAll(t *testing.T) {
	list := append([]api.Cmd{{}, {Kind: 9}, {Kind: api.CmdNop, Key: "k"}, {Kind: api.CmdAdd}, {Kind: api.CmdPut, Client: 1, Seq: 1}}, commands...)
	for kind := -17; kind <= 21; kind++ {
		for _, b := range []api.Ballot{{}, ballotOf(1, 1), ballotOf(rounds, 9), ballotOf(1, 0), ballotOf(0, 1), ballotOf(1, 10), ballotOf(rounds+1, 1)} {
			for _, index := range []int{-1, 0, 1, indexes, indexes + 1} {
				for _, c := range list {
					for _, i := range [][]byte{nil, {}, {0}, make([]byte, image+1)} {
						x := api.Record{Kind: kind, Ballot: b, Index: index, Cmd: c, Image: i}
						var want []byte
						err := recone.Check(x)
						if err == api.OK {
							want = bytesOf(x)
						}
						wantEncode(t, x, want, err)
					}
				}
			}
		}
	}
}

// P17.1: every command, images of all lengths, and numbers at their limits, there and back.
func TestLimits(t *testing.T) {
	var records []api.Record
	for _, c := range commands {
		records = append(records,
			api.Record{Kind: api.RecChosen, Index: indexes, Cmd: c}, api.Record{Kind: api.RecAccept, Ballot: ballotOf(rounds, 9), Index: indexes, Cmd: c})
	}
	for _, n := range []int{1, 2, 16, 17, 127, 128, 129, 255, 256, 16383, 16384, image - 1, image} {
		records = append(records,
			api.Record{Kind: api.RecImage, Index: n, Image: bytes.Repeat([]byte{byte(n)}, n)}, api.Record{Kind: api.RecPromise, Ballot: ballotOf(n, 1), Image: []byte{}})
	}
	for _, x := range records {
		wantEncode(t, x, bytesOf(x), api.OK)
		wantDecode(t, bytesOf(x), x, api.OK, "at its limits")
		wantDecode(t, append(bytesOf(x), 0), api.Record{}, api.ErrForm, "at its limits, with a byte left")
	}
}

// P17.1: a first number that is not a kind plus 16 is ErrForm, whatever stands behind it.
func TestDecodeKinds(t *testing.T) {
	numbers := []uint64{1<<32 + 17, 1<<32 + 1, 1<<62 + 18, math.MaxInt, math.MaxInt - 15}
	for n := range uint64(700) {
		numbers = append(numbers, n)
	}
	for _, n := range numbers {
		first := binary.AppendUvarint(nil, n)
		for _, rest := range []string{"", "00", "01", "0101", "010101", "80", "8000", "0180", "018000", "ffffff", "0101018000", "0101" + "01", "010101" + "01", "01" + "01", "01" + "0161", "01" + "8000", "01" + "050101016b0000"} {
			b := slices.Concat(first, unhex(t, rest))
			wantLike(t, b, "a first number")
			if n < 17 || n > 20 {
				wantDecode(t, b, api.Record{}, api.ErrForm, "a first number that is not a kind plus 16")
			}
		}
	}
}

// P17.1: the error of the reader for the first number comes first, and that for the others ahead of recone.Check.
func TestDecodeErrors(t *testing.T) {
	long := strings.Repeat("00", image+1)
	for _, x := range []struct {
		what, b string
		want    api.Errno
	}{
		{"nothing", "", api.ErrShort},
		{"a first number that ends early", "80", api.ErrShort},
		{"a first number that ends early, though it would be too great", "ffff", api.ErrShort},
		{"a first number with a zero byte too many", "9100" + "0203", api.ErrForm},
		{"a first number of eleven bytes", "9180808080808080808001" + "0203", api.ErrForm},
		{"the example of the chapter", "15", api.ErrForm},
		{"a kind that does not exist, with half a number behind it", "1580", api.ErrForm},
		{"the kind 0 plus 16", "10", api.ErrForm},
		{"a promise of format 1", "01020300", api.ErrForm},
		{"a promise with no ballot", "11", api.ErrShort},
		{"a promise with half a ballot", "1102", api.ErrShort},
		{"a promise with a round that ends early", "1180", api.ErrShort},
		{"a promise with a round with a zero byte too many", "118000" + "03", api.ErrForm},
		{"a promise with a node with a zero byte too many", "1102" + "8300", api.ErrForm},
		{"a promise with the zero ballot", "110000", api.ErrRange},
		{"a promise with the zero ballot, and a byte left", "11000000", api.ErrForm},
		{"a promise of nobody", "110200", api.ErrRange},
		{"a promise of no round", "110002", api.ErrRange},
		{"a promise of node 10", "11020a", api.ErrRange},
		{"a promise of round MaxRound + 1", "11" + "8180808010" + "01", api.ErrRange},
		{"a promise of the greatest round there is", "11" + "ffffffffffffffff7f" + "01", api.ErrRange},
		{"a promise of a round beyond all numbers", "11" + "ffffffffffffffffff01" + "01", api.ErrForm},
		{"a promise with an index", "11020300", api.ErrForm},
		{"an accept with no command", "12010101", api.ErrShort},
		{"an accept with no index", "120101", api.ErrShort},
		{"an accept with the index 0", "12010100" + "01", api.ErrRange},
		{"an accept with the index 0, cut", "12010100", api.ErrShort},
		{"an accept with the index 0 and no such command", "12010100" + "09", api.ErrRange},
		{"an accept beyond MaxIndex", "120101" + "8180808010" + "01", api.ErrRange},
		{"an accept with the zero ballot", "12000001" + "01", api.ErrRange},
		{"an accept with the zero ballot, and a byte left", "12000001" + "0100", api.ErrForm},
		{"an accept with the command 0", "12010101" + "00", api.ErrKind},
		{"an accept with a command that does not exist", "12010101" + "09", api.ErrKind},
		{"an accept with a command that does not exist, and a byte left", "12010101" + "0900", api.ErrForm},
		{"an accept with a nop in V1", "12010101" + "010000000000", api.ErrForm},
		{"an accept with an add of node 0", "12010101" + "0700", api.ErrRange},
		{"an accept with an add of node 10", "12010101" + "070a", api.ErrRange},
		{"an accept with an add of nobody", "12010101" + "07", api.ErrShort},
		{"an accept with a get of client 9", "12010101" + "030901016b", api.ErrRange},
		{"an accept with a get of no key", "12010101" + "03010100", api.ErrText},
		{"an accept with a get of no such key", "12010101" + "030101012f", api.ErrText},
		{"an accept with a key that is too long", "12010101" + "03010119" + strings.Repeat("6b", 25), api.ErrText},
		{"an accept with a key that ends early", "12010101" + "0301010a6b", api.ErrShort},
		{"an accept with a key of many bytes, cut", "12010101" + "030101" + "ffffffffffffffff7f" + "6b", api.ErrShort},
		{"an accept with a cas without its last string", "12010101" + "050101016b00", api.ErrShort},
		{"an accept with a cas of a node", "12010101" + "050101016b000001", api.ErrForm},
		{"an accept with an old value that is none", "12010101" + "050101016b01ff00", api.ErrText},
		{"an accept with an image", "12010101" + "01" + "0161", api.ErrForm},
		{"a choice with no index", "13", api.ErrShort},
		{"a choice with the index 0", "1300" + "01", api.ErrRange},
		{"a choice with the index 0 and no such command", "1300" + "09", api.ErrRange},
		{"a choice with no command", "1301", api.ErrShort},
		{"a choice with an empty ballot", "13000001" + "01", api.ErrForm},
		{"a choice with a command that does not exist", "1301" + "09", api.ErrKind},
		{"a choice with a cas, and a byte left", "1301" + "050101016b000000", api.ErrForm},
		{"an image with no index", "14", api.ErrShort},
		{"an image with no length", "1401", api.ErrShort},
		{"an image of no bytes", "140100", api.ErrForm},
		{"an image of no bytes at no index", "140000", api.ErrRange},
		{"an image at no index", "14000161", api.ErrRange},
		{"an image beyond MaxIndex", "14" + "8180808010" + "0161", api.ErrRange},
		{"an image that ends early", "14010461", api.ErrShort},
		{"an image at no index that ends early", "14000461", api.ErrShort},
		{"an image with a length with a zero byte too many", "1401" + "8100" + "61", api.ErrForm},
		{"an image with bytes left", "14010161" + "61", api.ErrForm},
		{"an image at no index with bytes left", "14000161" + "61", api.ErrForm},
		{"an image that is as long as it may be, cut", "1401" + "808002" + long[4:], api.ErrShort},
		{"an image that is as long as it may be, with a byte left", "1401" + "808002" + long, api.ErrForm},
		{"an image that is as long as it may be at no index", "1400" + "808002" + long[2:], api.ErrRange},
		{"an image that is too long", "1401" + "818002" + long, api.ErrLong},
	} {
		b := unhex(t, x.b)
		wantDecode(t, b, api.Record{}, x.want, x.what)
		if _, err := decoded(b); err != x.want {
			t.Errorf("%s: the definition gives error %d, want %d", x.what, err, x.want)
		}
	}
}

// P17.1: an encoding that is cut is ErrShort wherever it is cut; bytes that are left are ErrForm.
func TestDecodeCut(t *testing.T) {
	for _, s := range samples {
		b := unhex(t, s.two)
		for size := range b {
			wantDecode(t, b[:size:size], api.Record{}, api.ErrShort, "cut")
			wantDecode(t, b[:size], api.Record{}, api.ErrShort, "cut, with memory beyond its end")
		}
		for _, more := range [][]byte{{0}, {1}, {0x80}, {0xff}, b} {
			wantDecode(t, slices.Concat(b, more), api.Record{}, api.ErrForm, "bytes left")
		}
		wantDecode(t, append(slices.Clone(b), 7)[:len(b)], s.x, api.OK, "with memory beyond its end")
	}
	wantDecode(t, nil, api.Record{}, api.ErrShort, "nothing")
	wantDecode(t, []byte{}, api.Record{}, api.ErrShort, "nothing")
}

// P17.1: a few bytes of all values are what the definition says.
func TestFewBytes(t *testing.T) {
	values := []byte{0, 1, 2, 6, 9, 16, 17, 18, 19, 20, 21, 0x80}
	for size := range 6 {
		total := 1
		for range size {
			total *= len(values)
		}
		for i := range total {
			b := make([]byte, size)
			for at := range b {
				b[at] = values[i%len(values)]
				i /= len(values)
			}
			wantLike(t, b, "a few bytes")
		}
	}
}

// P17.1: whatever bytes there are, Decode returns what the definition says; what it returns is encoded as just these bytes.
func TestBroken(t *testing.T) {
	r := rand.New(rand.NewSource(17))
	seen := map[api.Errno]int{}
	for range 200000 {
		b := broken(r, bytesOf(someRecord(r)))
		want, err := decoded(b)
		wantDecode(t, b, want, err, "broken")
		if err == api.OK {
			wantEncode(t, want, b, api.OK)
		}
		seen[err]++
	}
	for _, err := range []api.Errno{api.OK, api.ErrShort, api.ErrForm, api.ErrKind, api.ErrRange, api.ErrText} {
		if seen[err] < 500 {
			t.Errorf("only %d encodings have the error %d", seen[err], err)
		}
	}
}

// P17.2: Put and Get have no format but 1 and 2, which is told ahead of all other errors.
func TestNoFormats(t *testing.T) {
	for _, format := range noFormats {
		for _, s := range samples {
			if b, err := Put(format, s.x); len(b) != 0 || err != api.ErrVersion {
				t.Errorf("Put(%d, %+v) = %x, error %d", format, s.x, b, err)
			}
			for _, b := range []string{s.one, s.two, "", "15", "05010101", "80"} {
				if x, err := Get(format, unhex(t, b)); !equal(x, api.Record{}) || err != api.ErrVersion {
					t.Errorf("Get(%d, %s) = %+v, error %d", format, b, x, err)
				}
			}
		}
		for _, w := range wrong {
			if b, err := Put(format, w.x); len(b) != 0 || err != api.ErrVersion {
				t.Errorf("Put(%d, %+v) = %x, error %d", format, brief(w.x), b, err)
			}
		}
	}
}

// P17.2: Put, Get and Rewrite tell the errors of recone for format 1.
func TestFormatOne(t *testing.T) {
	for _, w := range wrong {
		if b, err := Put(1, w.x); len(b) != 0 || err != w.want {
			t.Errorf("Put(1, %+v) = %x, error %d, want %d", brief(w.x), b, err, w.want)
		}
	}
	for _, x := range []struct {
		b    string
		want api.Errno
	}{
		{"", api.ErrShort}, {"80", api.ErrShort}, {"010203", api.ErrShort}, {"05010101", api.ErrForm}, {"8100020300", api.ErrForm},
		{"0102030000", api.ErrForm}, {"01000000", api.ErrRange}, {"01020301", api.ErrForm}, {"03000001" + "090000000000", api.ErrKind},
		{"03000001" + "030101012f0000", api.ErrText}, {"03000001" + "050101016b0000", api.ErrVersion}, {"03010101" + "010000000000", api.ErrForm},
		{"0400000100", api.ErrForm}, {"04000001" + "818002" + strings.Repeat("00", image+1), api.ErrLong},
		{"110203", api.ErrShort}, {"11020300", api.ErrForm}, {"1406" + "03696d67", api.ErrForm},
	} {
		b := unhex(t, x.b)
		before := slices.Clone(b)
		if got, err := Get(1, b); !equal(got, api.Record{}) || err != x.want {
			t.Errorf("Get(1, %.99s) = %+v, error %d, want %d", x.b, brief(got), err, x.want)
		}
		if got, err := Rewrite(b); len(got) != 0 || err != x.want {
			t.Errorf("Rewrite(%.99s) = %x, error %d, want %d", x.b, got, err, x.want)
		}
		if !bytes.Equal(b, before) {
			t.Errorf("%.99s was changed", x.b)
		}
	}
}

// P17.2: whatever bytes there are, Get and Rewrite return what recone.Decode returns of them; Put returns what recone.Encode returns.
func TestBrokenOne(t *testing.T) {
	r := rand.New(rand.NewSource(172))
	seen := map[api.Errno]int{}
	for range 100000 {
		x := someRecord(r)
		b, err := recone.Encode(x)
		if got, e := Put(1, x); !bytes.Equal(got, b) || e != err {
			t.Fatalf("Put(1, %+v) = %x, error %d, want %x, error %d", x, got, e, b, err)
		}
		if err != api.OK {
			b = bytesOf(x)
		}
		b = broken(r, b)
		want, err := recone.Decode(b)
		if got, e := Get(1, b); !equal(got, want) || e != err {
			t.Fatalf("Get(1, %x) = %+v, error %d, want %+v, error %d", b, got, e, want, err)
		}
		var two []byte
		if err == api.OK {
			two = bytesOf(want)
		}
		if got, e := Rewrite(b); !bytes.Equal(got, two) || e != err {
			t.Fatalf("Rewrite(%x) = %x, error %d, want %x, error %d", b, got, e, two, err)
		}
		seen[err]++
	}
	for _, err := range []api.Errno{api.OK, api.ErrShort, api.ErrForm, api.ErrKind, api.ErrRange} {
		if seen[err] < 200 {
			t.Errorf("only %d encodings have the error %d", seen[err], err)
		}
	}
}

// P17.3: records are recovered from their encodings in each format that has them.
func TestRoundTrip(t *testing.T) {
	r := rand.New(rand.NewSource(173))
	seen := map[string]api.Record{}
	late := 0
	for range 50000 {
		x := someRecord(r)
		for format := 1; format <= 2; format++ {
			b, err := Put(format, x)
			if format == 1 && x.Cmd.Kind == api.CmdCas {
				late++
				if len(b) != 0 || err != api.ErrVersion {
					t.Fatalf("Put(1, %+v) = %x, error %d", x, b, err)
				}
				continue
			}
			back, e := Get(format, b)
			if err != api.OK || e != api.OK || !equal(back, x) || !recone.Same(back, x) {
				t.Fatalf("%+v is encoded in format %d as %x, error %d, and decoded as %+v, error %d", x, format, b, err, back, e)
			}
			if other, is := seen[string(b)]; is && !equal(other, x) {
				t.Fatalf("%+v and %+v are both encoded as %x", x, other, b)
			}
			seen[string(b)] = x
		}
	}
	if late < 1000 {
		t.Errorf("only %d records have no encoding in format 1", late)
	}
}

// P17.3: no bytes are the encoding of a record in both formats.
func TestOneFormat(t *testing.T) {
	r := rand.New(rand.NewSource(174))
	held := [3]int{}
	for range 100000 {
		x := someRecord(r)
		b, err := recone.Encode(x)
		if err != api.OK || r.Intn(2) == 0 {
			b = bytesOf(x)
		}
		b = broken(r, b)
		_, one := Get(1, b)
		_, two := Get(2, b)
		if one == api.OK && two == api.OK {
			t.Fatalf("%x is the encoding of a record in both formats", b)
		}
		if one == api.OK {
			held[1]++
		}
		if two == api.OK {
			held[2]++
		}
	}
	if held[1] < 10000 || held[2] < 10000 {
		t.Errorf("only %d were encodings in format 1, and %d in format 2", held[1], held[2])
	}
	for first := range 256 {
		for _, s := range samples {
			for _, b := range [][]byte{unhex(t, s.one), unhex(t, s.two)} {
				if len(b) == 0 {
					continue
				}
				b[0] = byte(first)
				_, one := Get(1, b)
				_, two := Get(2, b)
				if one == api.OK && (first < 1 || first > 4) || two == api.OK && (first < 17 || first > 20) {
					t.Fatalf("%x: errors %d and %d", b, one, two)
				}
			}
		}
	}
}

// P17.3: rewriting yields the same record, and no second time.
func TestRewriteSame(t *testing.T) {
	r := rand.New(rand.NewSource(175))
	good := 0
	for range 50000 {
		x := someRecord(r)
		one, err := Put(1, x)
		if err != api.OK {
			continue
		}
		good++
		two, err := Rewrite(one)
		back, e := Get(2, two)
		if err != api.OK || e != api.OK || !equal(back, x) {
			t.Fatalf("%x of %+v is rewritten as %x, error %d, which is %+v, error %d", one, x, two, err, back, e)
		}
		if again, err := Rewrite(two); len(again) != 0 || err == api.OK {
			t.Fatalf("%x is rewritten as %x", two, again)
		}
	}
	if good < 10000 {
		t.Errorf("only %d records were rewritten", good)
	}
}

// General rule 3: what is encoded, decoded or rewritten is new memory, and changes neither with what it was made of nor that.
func TestMemory(t *testing.T) {
	for _, s := range samples {
		formats := map[int]string{2: s.two}
		if s.one != "" {
			formats[1] = s.one
		}
		for format, text := range formats {
			given, changed := roomy(s.x)
			b, _ := Put(format, given)
			clear(b[:cap(b)])
			if changed() {
				t.Fatalf("the encoding of %+v shares its memory", s.x)
			}
			b, _ = Put(format, given)
			clear(given.Image)
			if !bytes.Equal(b, unhex(t, text)) {
				t.Fatalf("the encoding of %+v changes with it", s.x)
			}
			whole := append(unhex(t, text), "behind"...)
			before := slices.Clone(whole)
			b = whole[:len(whole)-6]
			got, _ := Get(format, b)
			clear(got.Image[:cap(got.Image)])
			two, _ := Rewrite(b)
			clear(two[:cap(two)])
			if !bytes.Equal(whole, before) {
				t.Fatalf("what was made of %s shares its memory", text)
			}
			got, _ = Get(format, b)
			two, err := Rewrite(b)
			clear(whole)
			if !equal(got, s.x) || err == api.OK && !bytes.Equal(two, unhex(t, s.two)) {
				t.Fatalf("what was made of %s changes with it", text)
			}
		}
	}
}
