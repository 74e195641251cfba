package recone

import (
	"bytes"
	"encoding/binary"
	"encoding/hex"
	"math"
	"math/rand"
	"slices"
	"strings"
	"testing"

	"changeover/api"
	"changeover/cmd"
	"changeover/pack"
)

// The limits of the chapter, written out.
const (
	indexes = 1 << 32
	rounds  = 1 << 32
	nodes   = 9
	image   = 32768
)

// having: the fields that each kind has, by the definition.
var having = map[int]string{
	api.RecPromise: "Ballot",
	api.RecAccept:  "Ballot Index Cmd",
	api.RecChosen:  "Index Cmd",
	api.RecImage:   "Index Image",
}

// Commands of some kinds, all of them valid.
var (
	aNop  = api.Cmd{Kind: api.CmdNop}
	aPut  = api.Cmd{Kind: api.CmdPut, Client: 1, Seq: 2, Key: "k", Val: "v"}
	aCas  = api.Cmd{Kind: api.CmdCas, Client: 1, Seq: 3, Key: "k", Old: "a", Val: "b"}
	anAdd = api.Cmd{Kind: api.CmdAdd, Node: 9}
)

// commands: one of each kind.
var commands = []api.Cmd{
	aNop, aPut, aCas, anAdd, {Kind: api.CmdActivate}, {Kind: api.CmdDrop, Node: 1},
	{Kind: api.CmdGet, Client: 8, Seq: api.MaxSeq, Key: "é:1"},
	{Kind: api.CmdDel, Client: 3, Seq: 4, Key: strings.Repeat("k", 24)},
}

// noCommands: commands that are not valid, each with the error that it has.
var noCommands = map[api.Errno][]api.Cmd{
	api.ErrKind: {{}, {Kind: 9}, {Kind: -1}, {Kind: 1<<32 + 1}, {Kind: 99, Client: -1, Key: "/"}},
	api.ErrRange: {
		{Kind: api.CmdGet, Client: 9, Seq: 1, Key: "/"}, {Kind: api.CmdPut, Client: 1, Key: "k"}, {Kind: api.CmdCas, Seq: 1, Key: "k"},
		{Kind: api.CmdAdd}, {Kind: api.CmdDrop, Node: 10, Val: "v"}, {Kind: api.CmdDel, Client: 1, Seq: api.MaxSeq + 1, Key: "k"},
	},
	api.ErrText: {
		{Kind: api.CmdGet, Client: 1, Seq: 1}, {Kind: api.CmdGet, Client: 1, Seq: 1, Key: "/", Node: 1}, {Kind: api.CmdDel, Client: 1, Seq: 1, Key: strings.Repeat("k", 25)},
		{Kind: api.CmdPut, Client: 1, Seq: 1, Key: "k", Val: strings.Repeat("v", 49)}, {Kind: api.CmdCas, Client: 1, Seq: 1, Key: "k", Old: "\xff"},
	},
	api.ErrForm: {
		{Kind: api.CmdNop, Node: 1}, {Kind: api.CmdActivate, Client: 1}, {Kind: api.CmdAdd, Node: 1, Key: "k"},
		{Kind: api.CmdGet, Client: 1, Seq: 1, Key: "k", Val: "v"}, {Kind: api.CmdPut, Client: 1, Seq: 1, Key: "k", Old: "o"},
	},
}

// numbersAround: numbers at the limits, beyond them, and at those of Go's types.
var numbersAround = []int{
	math.MinInt, math.MinInt + 1, -1 << 32, -9, -1, 0, 1, 2, 3, 8, 9, 10, 11, 255, 256, 257, 258, math.MaxInt32,
	math.MaxUint32, 1 << 32, 1<<32 + 1, 1<<32 + 2, 1<<33 + 1, math.MaxInt - 1, math.MaxInt,
}

// ballotOf returns a ballot.
func ballotOf(round, node int) api.Ballot {
	return api.Ballot{Round: round, Node: node}
}

// isIn reports whether a number is in a range.
func isIn(n, least, most int) bool {
	return least <= n && n <= most
}

// valid returns a record of each kind, each field that it has being different from zero, and one that V1 does not support for each kind that has a command.
func valid() []api.Record {
	b := ballotOf(3, 2)
	return []api.Record{
		{Kind: api.RecPromise, Ballot: b},
		{Kind: api.RecAccept, Ballot: b, Index: 4, Cmd: aPut},
		{Kind: api.RecAccept, Ballot: b, Index: 4, Cmd: aCas},
		{Kind: api.RecChosen, Index: 300, Cmd: anAdd},
		{Kind: api.RecChosen, Index: 300, Cmd: aCas},
		{Kind: api.RecImage, Index: 6, Image: []byte("img")},
	}
}

// wrong returns records with all kinds of errors, each with the error that it has.
func wrong() map[api.Errno][]api.Record {
	b, n := ballotOf(1, 1), aNop
	l := map[api.Errno][]api.Record{
		api.ErrKind: {
			{}, {Kind: 5, Ballot: b}, {Kind: -1, Index: 1, Cmd: n}, {Kind: 1<<32 + 1, Ballot: b}, {Kind: math.MaxInt, Index: -1, Image: make([]byte, image+1)},
		},
		api.ErrRange: {
			{Kind: api.RecPromise}, {Kind: api.RecPromise, Ballot: ballotOf(1, 0)}, {Kind: api.RecPromise, Ballot: ballotOf(0, 1), Index: 1},
			{Kind: api.RecAccept, Index: 1, Cmd: n}, {Kind: api.RecAccept, Ballot: b, Cmd: n}, {Kind: api.RecAccept, Ballot: ballotOf(1, 10), Index: 1, Cmd: aCas},
			{Kind: api.RecChosen, Cmd: n}, {Kind: api.RecChosen, Index: -1, Cmd: n}, {Kind: api.RecChosen, Index: indexes + 1, Cmd: api.Cmd{}},
			{Kind: api.RecImage, Image: []byte("i")}, {Kind: api.RecImage, Index: indexes + 1, Image: make([]byte, image+1)}, {Kind: api.RecImage},
		},
		api.ErrLong: {
			{Kind: api.RecImage, Index: 1, Image: make([]byte, image+1)}, {Kind: api.RecImage, Index: 1, Image: make([]byte, 3*api.MaxBytes)},
			{Kind: api.RecImage, Ballot: b, Index: 1, Cmd: n, Image: make([]byte, image+1)},
		},
		api.ErrForm: {
			{Kind: api.RecPromise, Ballot: b, Index: 1}, {Kind: api.RecPromise, Ballot: b, Cmd: n}, {Kind: api.RecPromise, Ballot: b, Image: []byte{0}},
			{Kind: api.RecPromise, Ballot: b, Image: make([]byte, image+1)}, {Kind: api.RecPromise, Ballot: b, Cmd: aCas}, {Kind: api.RecPromise, Ballot: b, Index: -1},
			{Kind: api.RecAccept, Ballot: b, Index: 1, Cmd: n, Image: []byte{0}}, {Kind: api.RecAccept, Ballot: b, Index: 1, Cmd: aCas, Image: []byte{0}},
			{Kind: api.RecChosen, Ballot: b, Index: 1, Cmd: n}, {Kind: api.RecChosen, Ballot: b, Index: 1, Cmd: aCas}, {Kind: api.RecChosen, Index: 1, Cmd: n, Image: []byte{0}},
			{Kind: api.RecChosen, Ballot: ballotOf(-1, 99), Index: 1, Cmd: n}, {Kind: api.RecChosen, Ballot: ballotOf(0, 1), Index: 1, Cmd: n},
			{Kind: api.RecImage, Index: 1}, {Kind: api.RecImage, Index: 1, Image: []byte{}}, {Kind: api.RecImage, Index: 1, Image: []byte{0}, Cmd: n},
			{Kind: api.RecImage, Index: 1, Image: []byte{0}, Cmd: aCas}, {Kind: api.RecImage, Index: 1, Image: []byte{0}, Cmd: api.Cmd{Kind: -1}},
			{Kind: api.RecImage, Index: 1, Image: []byte{0}, Ballot: b}, {Kind: api.RecImage, Index: 1, Image: []byte{0}, Ballot: ballotOf(1, 0)},
		},
	}
	for err, noOnes := range noCommands {
		for _, c := range noOnes {
			l[err] = append(l[err], api.Record{Kind: api.RecAccept, Ballot: b, Index: 1, Cmd: c}, api.Record{Kind: api.RecChosen, Index: 1, Cmd: c})
		}
	}
	return l
}

// has reports whether the kind of x has the field, by the definition.
func has(x api.Record, field string) bool {
	return slices.Contains(strings.Fields(having[x.Kind]), field)
}

// isRange reports whether a number, or a ballot, of the fields that the kind has is not valid, by the definition.
func isRange(x api.Record) bool {
	if has(x, "Ballot") && (!isIn(x.Ballot.Round, 1, rounds) || !isIn(x.Ballot.Node, 1, nodes)) {
		return true
	}
	return has(x, "Index") && !isIn(x.Index, 1, indexes)
}

// isForm reports whether x has more, or less, than its kind, by the definition.
func isForm(x api.Record) bool {
	for field, zero := range map[string]bool{
		"Ballot": x.Ballot.Round == 0 && x.Ballot.Node == 0,
		"Index":  x.Index == 0,
		"Cmd":    x.Cmd == api.Cmd{},
		"Image":  len(x.Image) == 0,
	} {
		if !zero && !has(x, field) {
			return true
		}
	}
	return has(x, "Image") && len(x.Image) == 0
}

// checked returns the error of x, by the definitions.
func checked(x api.Record) api.Errno {
	switch {
	case having[x.Kind] == "":
		return api.ErrKind
	case isRange(x):
		return api.ErrRange
	case has(x, "Image") && len(x.Image) > image:
		return api.ErrLong
	case has(x, "Cmd") && cmd.Check(x.Cmd) != api.OK:
		return cmd.Check(x.Cmd)
	case isForm(x):
		return api.ErrForm
	}
	return api.OK
}

// checkedF1 returns the error of x in F1, by the definitions.
func checkedF1(x api.Record) api.Errno {
	if err := checked(x); err != api.OK {
		return err
	}
	if x.Cmd.Kind == api.CmdCas {
		return api.ErrVersion
	}
	return api.OK
}

// bytesOf returns the encoding of x in F1, by the definition, whatever x is.
func bytesOf(x api.Record) []byte {
	var b []byte
	add := func(n int) { b = binary.AppendUvarint(b, uint64(n)) }
	for _, n := range []int{x.Kind, x.Ballot.Round, x.Ballot.Node, x.Index} {
		add(n)
	}
	if has(x, "Cmd") {
		add(x.Cmd.Kind)
		add(x.Cmd.Client)
		add(x.Cmd.Seq)
		for _, s := range []string{x.Cmd.Key, x.Cmd.Val} {
			add(len(s))
			b = append(b, s...)
		}
		add(x.Cmd.Node)
	}
	if has(x, "Image") {
		add(len(x.Image))
		b = append(b, x.Image...)
	}
	return b
}

// asRead returns the record in F1 as the reader gives it, and the error of the reader, by the definition.
func asRead(b []byte) (api.Record, api.Errno) {
	r := pack.NewReader(b)
	number := func() int { return r.Number(math.MaxInt) }
	x := api.Record{Kind: number(), Ballot: ballotOf(number(), number()), Index: number()}
	switch {
	case r.Err() != api.OK:
		return x, r.Err()
	case having[x.Kind] == "":
		return x, api.ErrForm
	case has(x, "Cmd"):
		x.Cmd.Kind, x.Cmd.Client, x.Cmd.Seq = number(), number(), number()
		x.Cmd.Key, x.Cmd.Val = r.Text(math.MaxInt), r.Text(math.MaxInt)
		x.Cmd.Node = number()
	case has(x, "Image"):
		x.Image = r.Raw(image)
	}
	return x, r.Done()
}

// decoded returns what Decode is to return, by the definition.
func decoded(b []byte) (api.Record, api.Errno) {
	x, err := asRead(b)
	if err == api.OK {
		err = checkedF1(x)
	}
	if err != api.OK {
		return api.Record{}, err
	}
	return x, api.OK
}

// equal reports whether all fields of both are equal, by the definition.
func equal(a, b api.Record) bool {
	return a.Kind == b.Kind && a.Ballot.Round == b.Ballot.Round && a.Ballot.Node == b.Ballot.Node && a.Index == b.Index &&
		a.Cmd == b.Cmd && string(a.Image) == string(b.Image)
}

// roomy returns x with its image as a piece of a longer list, with the function that tells whether anything of that was changed.
func roomy(x api.Record) (api.Record, func() bool) {
	b := slices.Concat([]byte("ahead"), x.Image, []byte("behind"))
	before := slices.Clone(b)
	x.Image = b[5 : 5+len(x.Image)]
	return x, func() bool { return !bytes.Equal(b, before) }
}

// unhex returns the bytes that are written in hexadecimal.
func unhex(t *testing.T, s string) []byte {
	t.Helper()
	b, err := hex.DecodeString(s)
	if err != nil {
		t.Fatal(s, err)
	}
	return b
}

// wantCheck fails the test unless x has this error, and stays as it is.
func wantCheck(t *testing.T, x api.Record, want api.Errno) {
	t.Helper()
	given, changed := roomy(x)
	if got := Check(given); got != want {
		t.Fatalf("Check(%+v) = %d, want %d", brief(x), got, want)
	}
	if changed() {
		t.Fatalf("Check(%+v) changed it", brief(x))
	}
}

// wantEncode fails the test unless x has this encoding, or none with this error, and stays as it is.
func wantEncode(t *testing.T, x api.Record, want []byte, err api.Errno) {
	t.Helper()
	given, changed := roomy(x)
	if got, e := Encode(given); !bytes.Equal(got, want) || e != err {
		t.Fatalf("Encode(%+v) = %d bytes, %.99x, error %d, want %d bytes, %.99x, error %d", brief(x), len(got), got, e, len(want), want, err)
	}
	if changed() {
		t.Fatalf("Encode(%+v) changed it", brief(x))
	}
}

// wantDecode fails the test unless b is decoded to this record, or none with this error, and stays as it is.
func wantDecode(t *testing.T, b []byte, want api.Record, err api.Errno, what string) {
	t.Helper()
	before := slices.Clone(b)
	if got, e := Decode(b); !equal(got, want) || e != err {
		t.Fatalf("%s: Decode(%.99x) = %+v, error %d, want %+v, error %d", what, b, brief(got), e, brief(want), err)
	}
	if !bytes.Equal(b, before) {
		t.Fatalf("%s: Decode changed %.99x to %.99x", what, before, b)
	}
}

// brief returns x with no more than the first bytes of its image.
func brief(x api.Record) api.Record {
	x.Image = x.Image[:min(len(x.Image), 20)]
	return x
}

// P16.1: the examples of the chapter, and what the definitions say of each kind.
func TestCheckExamples(t *testing.T) {
	wantCheck(t, api.Record{Kind: api.RecPromise}, api.ErrRange)
	wantCheck(t, api.Record{Kind: api.RecImage, Index: 1}, api.ErrForm)
	for _, x := range valid() {
		wantCheck(t, x, api.OK)
	}
	for _, x := range []api.Record{
		{Kind: api.RecPromise, Ballot: ballotOf(1, 1)},
		{Kind: api.RecPromise, Ballot: ballotOf(rounds, nodes), Image: []byte{}},
		{Kind: api.RecAccept, Ballot: ballotOf(rounds, nodes), Index: indexes, Cmd: aCas},
		{Kind: api.RecAccept, Ballot: ballotOf(1, 1), Index: 1, Cmd: aNop, Image: []byte{}},
		{Kind: api.RecChosen, Index: indexes, Cmd: aCas},
		{Kind: api.RecChosen, Index: 1, Cmd: aNop},
		{Kind: api.RecImage, Index: indexes, Image: make([]byte, image)},
		{Kind: api.RecImage, Index: 1, Image: []byte{0}},
	} {
		wantCheck(t, x, api.OK)
	}
	for err, l := range wrong() {
		for _, x := range l {
			wantCheck(t, x, err)
		}
	}
}

// P16.1: kinds that exist, and those that do not, whatever else there is.
func TestCheckKinds(t *testing.T) {
	kinds := slices.Clone(numbersAround)
	for kind := -300; kind <= 600; kind++ {
		kinds = append(kinds, kind)
	}
	for kind := range 6 {
		kinds = append(kinds, 1<<32+kind, 1<<62+kind, math.MinInt+kind)
	}
	for _, kind := range kinds {
		for _, x := range append(valid(), api.Record{}, api.Record{Index: -1, Image: make([]byte, image+1)}) {
			x.Kind = kind
			wantCheck(t, x, checked(x))
			if kind < 1 || kind > 4 {
				wantCheck(t, x, api.ErrKind)
			}
		}
	}
}

// P16.1: each number at its limits and beyond them, in every kind, whether the kind has it or not.
func TestCheckNumbers(t *testing.T) {
	for _, x := range valid() {
		for _, n := range append(numbersAround, 4, 5, 6, 7) {
			for _, set := range []func(x *api.Record){
				func(x *api.Record) { x.Index = n },
				func(x *api.Record) { x.Ballot.Round = n },
				func(x *api.Record) { x.Ballot.Node = n },
				func(x *api.Record) { x.Ballot = ballotOf(n, 0) },
				func(x *api.Record) { x.Ballot = ballotOf(0, n) },
				func(x *api.Record) { x.Ballot = ballotOf(n, n) },
				func(x *api.Record) { x.Ballot, x.Index = api.Ballot{}, n },
				func(x *api.Record) { x.Ballot, x.Index = ballotOf(1, n), 0 },
				func(x *api.Record) { x.Cmd.Node = n },
				func(x *api.Record) { x.Cmd = api.Cmd{Kind: n} },
			} {
				other := x
				set(&other)
				wantCheck(t, other, checked(other))
			}
		}
	}
}

// P16.1: what a kind has, and nothing else, each field being absent, valid or not valid, all of them with all others.
func TestCheckOfAll(t *testing.T) {
	ballots := []api.Ballot{{}, ballotOf(1, 1), ballotOf(rounds, 9), ballotOf(1, 0), ballotOf(0, 1), ballotOf(1, 10), ballotOf(rounds+1, 1)}
	list := append([]api.Cmd{{}}, commands...)
	for _, l := range noCommands {
		list = append(list, l...)
	}
	images := [][]byte{nil, {}, {0}, make([]byte, image), make([]byte, image+1)}
	for kind := -1; kind <= 6; kind++ {
		for _, b := range ballots {
			for _, index := range []int{-1, 0, 1, indexes, indexes + 1} {
				for _, c := range list {
					for _, i := range images {
						x := api.Record{Kind: kind, Ballot: b, Index: index, Cmd: c, Image: i}
						if got, want := Check(x), checked(x); got != want {
							t.Fatalf("Check(%+v) = %d, want %d", brief(x), got, want)
						}
					}
				}
			}
		}
	}
}

// P16.1: of several errors the first one is told: ErrKind, ErrRange, ErrLong or that of the command, ErrForm.
func TestCheckOrder(t *testing.T) {
	x := api.Record{Kind: 5, Ballot: ballotOf(1, 0), Index: indexes + 1, Cmd: api.Cmd{Kind: 9, Client: 1}, Image: make([]byte, image+1)}
	for _, step := range []struct {
		want api.Errno
		mend func()
	}{
		{api.ErrKind, func() { x.Kind = api.RecAccept }},
		{api.ErrRange, func() { x.Index = 1 }},
		{api.ErrRange, func() { x.Ballot.Node = 1 }},
		{api.ErrKind, func() { x.Cmd.Kind = api.CmdGet }},
		{api.ErrRange, func() { x.Cmd.Seq = 1 }},
		{api.ErrText, func() { x.Cmd.Key = "k" }},
		{api.ErrForm, func() { x.Image = nil }},
		{api.OK, func() { x.Kind = api.RecChosen }},
		{api.ErrForm, func() { x.Index = 0 }},
		{api.ErrRange, func() { x.Kind, x.Image = api.RecImage, make([]byte, image+1) }},
		{api.ErrRange, func() { x.Index = 1 }},
		{api.ErrLong, func() { x.Image = x.Image[:image] }},
		{api.ErrForm, func() { x.Ballot = api.Ballot{} }},
		{api.ErrForm, func() { x.Cmd = api.Cmd{} }},
		{api.OK, func() { x.Image = nil }},
		{api.ErrForm, func() { x.Kind = api.RecPromise }},
		{api.ErrRange, func() { x.Ballot = ballotOf(1, 1) }},
		{api.ErrForm, func() { x.Index = 0 }},
		{api.OK, func() {}},
	} {
		wantCheck(t, x, step.want)
		step.mend()
	}
}

// P16.1: records are the same if each field is, a nil list being like an empty one, valid or not.
func TestSame(t *testing.T) {
	wild := api.Record{Kind: 99, Ballot: ballotOf(-1, 99), Index: -1, Cmd: api.Cmd{Kind: -1, Client: -1, Seq: -1, Key: "/", Val: "\xff", Old: "\xff", Node: -1}, Image: make([]byte, image+1)}
	for _, x := range append(valid(), api.Record{}, wild) {
		same, changed := roomy(x)
		if !Same(x, x) || !Same(x, same) || !Same(same, x) || changed() {
			t.Fatalf("%+v is not the same as itself", brief(x))
		}
		for i, change := range []func(x *api.Record){
			func(x *api.Record) { x.Kind++ },
			func(x *api.Record) { x.Ballot.Round++ },
			func(x *api.Record) { x.Ballot.Node++ },
			func(x *api.Record) { x.Index++ },
			func(x *api.Record) { x.Cmd.Kind++ },
			func(x *api.Record) { x.Cmd.Client++ },
			func(x *api.Record) { x.Cmd.Seq++ },
			func(x *api.Record) { x.Cmd.Key += "x" },
			func(x *api.Record) { x.Cmd.Val += "x" },
			func(x *api.Record) { x.Cmd.Old += "x" },
			func(x *api.Record) { x.Cmd.Node++ },
			func(x *api.Record) { x.Image = append([]byte{7}, x.Image...) },
			func(x *api.Record) { x.Image = append(slices.Clone(x.Image), 0) },
			func(x *api.Record) { x.Kind, x.Index = x.Kind+1, x.Index-1 },
			func(x *api.Record) { x.Ballot = ballotOf(x.Ballot.Round+1, x.Ballot.Node-1) },
			func(x *api.Record) { x.Cmd.Key, x.Cmd.Val = x.Cmd.Val+"x", x.Cmd.Key },
		} {
			other := x
			change(&other)
			if Same(x, other) || Same(other, x) {
				t.Fatalf("%+v is the same after change %d", brief(x), i)
			}
		}
	}
	bare, empty := api.Record{Kind: 1}, api.Record{Kind: 1, Image: []byte{}}
	if !Same(bare, empty) || !Same(empty, bare) || !Same(empty, empty) {
		t.Error("a nil list is not the same as an empty one")
	}
	for at := range 3 {
		a, b := api.Record{Image: []byte("img")}, api.Record{Image: []byte("img")}
		b.Image[at]++
		if Same(a, b) || Same(b, a) {
			t.Errorf("byte %d of an image does not count", at)
		}
	}
}

// samples: records with their encodings, which are written out by hand.
var samples = []struct {
	x    api.Record
	want string
}{
	{api.Record{Kind: api.RecPromise, Ballot: api.Ballot{Round: 2, Node: 3}}, "01020300"},
	{api.Record{Kind: api.RecPromise, Ballot: api.Ballot{Round: rounds, Node: 9}}, "01" + "8080808010" + "09" + "00"},
	{api.Record{Kind: api.RecAccept, Ballot: api.Ballot{Round: 3, Node: 2}, Index: 300, Cmd: aPut}, "020302" + "ac02" + "020102016b017600"},
	{api.Record{Kind: api.RecAccept, Ballot: api.Ballot{Round: 200, Node: 1}, Index: 1, Cmd: aNop}, "02" + "c801" + "0101" + "010000000000"},
	{api.Record{Kind: api.RecChosen, Index: 4, Cmd: api.Cmd{Kind: api.CmdActivate}}, "03000004" + "060000000000"},
	{api.Record{Kind: api.RecChosen, Index: indexes, Cmd: anAdd}, "030000" + "8080808010" + "070000000009"},
	{api.Record{Kind: api.RecChosen, Index: 5, Cmd: api.Cmd{Kind: api.CmdDrop, Node: 1}}, "03000005" + "080000000001"},
	{api.Record{Kind: api.RecChosen, Index: 5, Cmd: api.Cmd{Kind: api.CmdGet, Client: 8, Seq: 1 << 32, Key: "é"}}, "03000005" + "0308" + "8080808010" + "02c3a9" + "0000"},
	{api.Record{Kind: api.RecChosen, Index: 5, Cmd: api.Cmd{Kind: api.CmdDel, Client: 1, Seq: 1, Key: "k"}}, "03000005" + "040101" + "016b" + "0000"},
	{api.Record{Kind: api.RecImage, Index: 6, Image: []byte("img")}, "04000006" + "03696d67"},
	{api.Record{Kind: api.RecImage, Index: 1, Image: []byte{0}}, "04000001" + "0100"},
}

// P16.2: encodings written out by hand, and back.
func TestSamples(t *testing.T) {
	for _, s := range samples {
		b := unhex(t, s.want)
		wantEncode(t, s.x, b, api.OK)
		wantDecode(t, b, s.x, api.OK, "a sample")
		if !bytes.Equal(bytesOf(s.x), b) {
			t.Errorf("the definition gives %x for %s", bytesOf(s.x), s.want)
		}
	}
}

// P16.2: Encode returns nothing but the error of Check, or ErrVersion behind it.
func TestEncodeErrors(t *testing.T) {
	for err, l := range wrong() {
		for _, x := range l {
			wantEncode(t, x, nil, err)
		}
	}
	for _, x := range []api.Record{
		{Kind: api.RecChosen, Index: 1, Cmd: aCas},
		{Kind: api.RecAccept, Ballot: ballotOf(1, 1), Index: 1, Cmd: aCas},
		{Kind: api.RecAccept, Ballot: ballotOf(rounds, nodes), Index: indexes, Cmd: api.Cmd{Kind: api.CmdCas, Client: 8, Seq: api.MaxSeq, Key: "k"}},
	} {
		wantCheck(t, x, api.OK)
		wantEncode(t, x, nil, api.ErrVersion)
	}
}

// P16.2: every command but a cas is encoded, and images of all lengths.
func TestEncodeLimits(t *testing.T) {
	var records []api.Record
	for _, c := range append(commands, api.Cmd{Kind: api.CmdPut, Client: 8, Seq: api.MaxSeq, Key: strings.Repeat("k", 24), Val: strings.Repeat("v", 48)}) {
		records = append(records,
			api.Record{Kind: api.RecChosen, Index: indexes, Cmd: c}, api.Record{Kind: api.RecAccept, Ballot: ballotOf(rounds, nodes), Index: indexes, Cmd: c})
	}
	for _, size := range []int{1, 2, 127, 128, 129, 255, 256, 16383, 16384, image - 1, image} {
		records = append(records, api.Record{Kind: api.RecImage, Index: size, Image: bytes.Repeat([]byte{byte(size)}, size)})
	}
	for _, x := range records {
		if x.Cmd.Kind == api.CmdCas {
			wantEncode(t, x, nil, api.ErrVersion)
			continue
		}
		wantEncode(t, x, bytesOf(x), api.OK)
		wantDecode(t, bytesOf(x), x, api.OK, "at its limits")
	}
}

// P16.2: what Decode reads is checked, behind the reader; ErrVersion comes last.
func TestDecodeErrors(t *testing.T) {
	for _, l := range wrong() {
		for _, x := range l {
			if slices.Min([]int{x.Kind, x.Ballot.Round, x.Ballot.Node, x.Index, x.Cmd.Kind, x.Cmd.Client, x.Cmd.Node}) < 0 {
				continue
			}
			b := bytesOf(x)
			want, err := decoded(b)
			wantDecode(t, b, want, err, "not valid")
			// Only what the encoding does not hold may have been wrong.
			if held, e := asRead(b); e == api.OK && equal(held, x) && (err == api.OK || err != checked(x)) {
				t.Fatalf("Decode of %+v: error %d, want %d", brief(x), err, checked(x))
			}
			want, err = decoded(append(b, 0))
			wantDecode(t, append(b, 0), want, err, "not valid, with a byte left")
		}
	}
	for _, x := range valid() {
		want := x
		err := api.OK
		if x.Cmd.Kind == api.CmdCas {
			want, err = api.Record{}, api.ErrVersion
		}
		wantDecode(t, bytesOf(x), want, err, "valid")
		wantDecode(t, append(bytesOf(x), 0), api.Record{}, api.ErrForm, "valid, with a byte left")
	}
}

// P16.2: an encoding that is cut is ErrShort wherever it is cut; bytes that are left are ErrForm.
func TestDecodeCut(t *testing.T) {
	for _, s := range samples {
		b := unhex(t, s.want)
		for size := range b {
			wantDecode(t, b[:size:size], api.Record{}, api.ErrShort, "cut")
			wantDecode(t, b[:size], api.Record{}, api.ErrShort, "cut, with memory beyond its end")
		}
		for _, more := range [][]byte{{0}, {1}, {0x80}, {0xff}, b} {
			wantDecode(t, slices.Concat(b, more), api.Record{}, api.ErrForm, "bytes left")
		}
		wantDecode(t, append(slices.Clone(b), 7)[:len(b)], s.x, api.OK, "with memory beyond its end")
	}
	wantDecode(t, nil, api.Record{}, api.ErrShort, "nothing")
	wantDecode(t, []byte{}, api.Record{}, api.ErrShort, "nothing")
}

// P16.2: a kind that does not exist is ErrForm as soon as the index has been read, and ErrShort or the reader's ErrForm ahead of that.
func TestDecodeKinds(t *testing.T) {
	kinds := []uint64{1<<32 + 1, 1<<62 + 2, math.MaxInt}
	for kind := range uint64(700) {
		kinds = append(kinds, kind)
	}
	for _, kind := range kinds {
		first := binary.AppendUvarint(nil, kind)
		for _, rest := range []string{
			"", "01", "0101", "010101", "000000", "010100", "00000000", "00000001", "0101018000", "010101" + "ffffff", "000001" + "0161", "0101" + "8000" + "010000000000",
			"010101" + "010000000000", "000001" + "010000000000", "010101" + "050101016b0000", "000001" + "050101016b0000", "80", "8000", "01" + "8000", "0101" + "8000", "0101" + "8080808010",
		} {
			b := slices.Concat(first, unhex(t, rest))
			want, err := decoded(b)
			wantDecode(t, b, want, err, "a kind")
			if kind >= 1 && kind <= 4 {
				continue
			}
			if len(rest) < 6 && !strings.Contains(rest, "80") {
				wantDecode(t, b, api.Record{}, api.ErrShort, "a kind that does not exist, cut")
			} else if rest != "80" {
				wantDecode(t, b, api.Record{}, api.ErrForm, "a kind that does not exist")
			}
		}
	}
}

// P16.2: the error of the reader comes ahead of all others, and is the first one that it meets.
func TestDecodeReader(t *testing.T) {
	nop := "010000000000"
	cas := "050101016b0000"
	for _, x := range []struct {
		what, b string
		want    api.Errno
	}{
		{"a kind that does not exist, cut", "050101", api.ErrShort},
		{"a kind that does not exist", "05010101", api.ErrForm},
		{"a kind that does not exist, with numbers that are not valid", "05000a00", api.ErrForm},
		{"a kind that does not exist, and bytes left", "0501010100", api.ErrForm},
		{"the kind 0", "00010100", api.ErrForm},
		{"a kind of format 2", "11020300", api.ErrForm},
		{"a promise of format 2", "110203", api.ErrShort},
		{"a kind with a zero byte too many", "8100" + "020300", api.ErrForm},
		{"a kind with a zero byte too many, cut", "8100", api.ErrForm},
		{"a kind of eleven bytes", "8080808080808080808001" + "020300", api.ErrForm},
		{"a kind as great as numbers may be", "ffffffffffffffff7f" + "020300", api.ErrForm},
		{"an index with a zero byte too many", "0102038000", api.ErrForm},
		{"an index with a zero byte too many, in a kind that does not exist", "0902038000", api.ErrForm},
		{"a promise with the zero ballot", "01000000", api.ErrRange},
		{"a promise with half a ballot", "01020000", api.ErrRange},
		{"a promise with the other half", "01000200", api.ErrRange},
		{"a promise of node 10", "01020a00", api.ErrRange},
		{"a promise of round MaxRound + 1", "01" + "8180808010" + "0100", api.ErrRange},
		{"a promise of the greatest round there is", "01" + "ffffffffffffffff7f" + "0100", api.ErrRange},
		{"a promise with an index", "01020301", api.ErrForm},
		{"a promise with an index, and half a ballot", "01020001", api.ErrRange},
		{"a promise with an index beyond MaxIndex", "010203" + "8180808010", api.ErrForm},
		{"a promise with a command", "01020300" + nop, api.ErrForm},
		{"a promise of half a ballot with a command", "01020000" + nop, api.ErrForm},
		{"an accept with the zero ballot", "02000001" + nop, api.ErrRange},
		{"an accept with the zero ballot, and a byte left", "02000001" + nop + "00", api.ErrForm},
		{"an accept with no index", "02010100" + nop, api.ErrRange},
		{"an accept with no index, cut", "02010100" + nop[2:], api.ErrShort},
		{"an accept beyond MaxIndex", "020101" + "8180808010" + nop, api.ErrRange},
		{"an accept with no command", "02010101", api.ErrShort},
		{"an accept with a nop in V2", "02010101" + "01", api.ErrShort},
		{"an accept with a command that does not exist", "02010101" + "090000000000", api.ErrKind},
		{"an accept with the command 0", "02010101" + "000000000000", api.ErrKind},
		{"an accept with an add of node 0", "02010101" + "070000000000", api.ErrRange},
		{"an accept with an add of node 10", "02010101" + "07000000000a", api.ErrRange},
		{"an accept with a nop of a client", "02010101" + "010100000000", api.ErrForm},
		{"an accept with no such key", "02010101" + "030101012f0000", api.ErrText},
		{"an accept with no key", "02010101" + "030101000000", api.ErrText},
		{"an accept with a key that is too long", "02010101" + "03010119" + strings.Repeat("6b", 25) + "0000", api.ErrText},
		{"an accept with a key that ends early", "02010101" + "0301010a6b0000", api.ErrShort},
		{"an accept with a key of many bytes, cut", "02010101" + "030101" + "ffffffffffffffff7f" + "6b0000", api.ErrShort},
		{"an accept with a cas", "02010101" + cas, api.ErrVersion},
		{"an accept with a cas, cut", "02010101" + cas[:12], api.ErrShort},
		{"an accept with a cas, and a byte left", "02010101" + cas + "00", api.ErrForm},
		{"an accept with a cas, and half a ballot", "02010001" + cas, api.ErrRange},
		{"an accept with a cas of no client", "02010101" + "050001016b0000", api.ErrRange},
		{"an accept with a cas of a node", "02010101" + "050101016b0001", api.ErrForm},
		{"an accept with an image", "02010101" + nop + "0161", api.ErrForm},
		{"a choice with a ballot", "03010101" + nop, api.ErrForm},
		{"a choice with half a ballot", "03000101" + nop, api.ErrForm},
		{"a choice with a ballot, and a cas", "03010101" + cas, api.ErrForm},
		{"a choice with a ballot, and a command that is not valid", "03010101" + "090000000000", api.ErrKind},
		{"a choice with no index", "03000000" + nop, api.ErrRange},
		{"a choice with no index, and a command that is not valid", "03000000" + "090000000000", api.ErrRange},
		{"a choice with no index, and a cas", "03000000" + cas, api.ErrRange},
		{"a choice with a cas", "03000001" + cas, api.ErrVersion},
		{"a choice with no command", "03000001", api.ErrShort},
		{"a choice with no index and no command", "03000000", api.ErrShort},
		{"an image of no bytes", "0400000100", api.ErrForm},
		{"an image with no length", "04000001", api.ErrShort},
		{"an image of no bytes at no index", "0400000000", api.ErrRange},
		{"an image at no index", "040000000161", api.ErrRange},
		{"an image beyond MaxIndex", "040000" + "8180808010" + "0161", api.ErrRange},
		{"an image with a ballot", "040101010161", api.ErrForm},
		{"an image with a ballot at no index", "040101000161", api.ErrRange},
		{"an image that ends early", "040000010461", api.ErrShort},
		{"an image at no index that ends early", "040000000461", api.ErrShort},
		{"an image with a length with a zero byte too many", "040000018100" + "61", api.ErrForm},
		{"an image with bytes left", "040000010161" + "61", api.ErrForm},
		{"an image with a command", "040000010161" + nop, api.ErrForm},
		{"an image that is as long as it may be, cut", "04000001" + "808002", api.ErrShort},
		{"an image that is as long as it may be, with a byte left", "04000001" + "808002" + strings.Repeat("00", image+1), api.ErrForm},
		{"an image that is too long", "04000001" + "818002" + strings.Repeat("00", image+1), api.ErrLong},
		{"an image that is too long, with a ballot", "04010101" + "818002" + strings.Repeat("00", image+1), api.ErrLong},
	} {
		b := unhex(t, x.b)
		wantDecode(t, b, api.Record{}, x.want, x.what)
		if _, err := decoded(b); err != x.want {
			t.Errorf("%s: the definition gives error %d, want %d", x.what, err, x.want)
		}
	}
}

// someRecord returns a valid record at random.
func someRecord(r *rand.Rand) api.Record {
	some := func(most int) int { return 1 + r.Intn(1<<r.Intn(most)) }
	x := api.Record{Kind: 1 + r.Intn(4)}
	if has(x, "Ballot") {
		x.Ballot = ballotOf(some(33), 1+r.Intn(nodes))
	}
	if has(x, "Index") {
		x.Index = some(33)
	}
	if has(x, "Cmd") {
		x.Cmd = commands[r.Intn(len(commands))]
	}
	if has(x, "Image") {
		x.Image = make([]byte, some(10))
		r.Read(x.Image)
	}
	return x
}

// broken returns the encoding of a record at random, changed in up to two places.
func broken(r *rand.Rand) []byte {
	b := bytesOf(someRecord(r))
	for range r.Intn(3) {
		switch i := r.Intn(min(len(b), 12)); r.Intn(5) {
		case 0:
			b[i] = byte(r.Intn(256))
		case 1:
			b[i] ^= 1 << r.Intn(8)
		case 2:
			b = slices.Insert(b, i, byte(r.Intn(12)))
		case 3:
			b = append(slices.Delete(b, i, i+1), byte(r.Intn(3)))
		case 4:
			b = b[:1+r.Intn(len(b))]
		}
	}
	return b
}

// P16.2: whatever bytes there are, Decode returns what the definitions say; what it returns is encoded as just these bytes.
func TestBroken(t *testing.T) {
	r := rand.New(rand.NewSource(16))
	seen := map[api.Errno]int{}
	for range 300000 {
		b := broken(r)
		want, err := decoded(b)
		wantDecode(t, b, want, err, "broken")
		if err == api.OK {
			wantEncode(t, want, b, api.OK)
		}
		seen[err]++
	}
	for _, err := range []api.Errno{api.OK, api.ErrShort, api.ErrForm, api.ErrKind, api.ErrRange, api.ErrText, api.ErrVersion} {
		if seen[err] < 500 {
			t.Errorf("only %d encodings have the error %d", seen[err], err)
		}
	}
}

// P16.2: a few bytes of all values are what the definitions say.
func TestFewBytes(t *testing.T) {
	values := []byte{0, 1, 2, 3, 4, 5, 9, 10, 17, 0x7f, 0x80, 0xff}
	for size := range 6 {
		total := 1
		for range size {
			total *= len(values)
		}
		for i := range total {
			b := make([]byte, size)
			for at := range b {
				b[at] = values[i%len(values)]
				i /= len(values)
			}
			want, err := decoded(b)
			wantDecode(t, b, want, err, "a few bytes")
		}
	}
}

// General rule 3: what is decoded is new memory, and what is encoded too; neither changes with what it was made of.
func TestMemory(t *testing.T) {
	for _, s := range samples {
		given, changed := roomy(s.x)
		b, _ := Encode(given)
		clear(b[:cap(b)])
		if changed() {
			t.Fatalf("the encoding of %+v shares its memory", s.x)
		}
		b, _ = Encode(given)
		clear(given.Image)
		if !bytes.Equal(b, unhex(t, s.want)) {
			t.Fatalf("the encoding of %+v changes with it", s.x)
		}
		whole := slices.Concat(bytesOf(s.x), []byte("behind"))
		before := slices.Clone(whole)
		got, _ := Decode(whole[:len(whole)-6])
		clear(got.Image[:cap(got.Image)])
		if !bytes.Equal(whole, before) {
			t.Fatalf("%+v shares the memory of the bytes that it was read from", s.x)
		}
		got, _ = Decode(whole[:len(whole)-6])
		clear(whole)
		if !equal(got, s.x) {
			t.Fatalf("%+v changes with the bytes that it was read from", s.x)
		}
	}
}

// P16.3: records that V1 supports are recovered from their encodings, and all others have none.
func TestRoundTrip(t *testing.T) {
	r := rand.New(rand.NewSource(163))
	l := valid()
	for range 50000 {
		l = append(l, someRecord(r))
	}
	good, late := 0, 0
	for _, x := range l {
		b, err := Encode(x)
		if x.Cmd.Kind == api.CmdCas {
			late++
			if len(b) != 0 || err != api.ErrVersion {
				t.Fatalf("Encode(%+v) = %x, error %d", x, b, err)
			}
			continue
		}
		good++
		back, e := Decode(b)
		if err != api.OK || e != api.OK || !equal(back, x) || !Same(back, x) || !bytes.Equal(b, bytesOf(x)) {
			t.Fatalf("%+v is encoded as %x, error %d, and decoded as %+v, error %d", x, b, err, back, e)
		}
	}
	if good < 10000 || late < 1000 {
		t.Errorf("only %d records have an encoding, and %d have none", good, late)
	}
}
