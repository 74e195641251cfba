package entry

import (
	"bytes"
	"encoding/binary"
	"encoding/hex"
	"math"
	"math/rand"
	"slices"
	"strings"
	"testing"

	"changeover/api"
	"changeover/cmd"
	"changeover/pack"
)

// The limits of the chapter, written out.
const (
	indexes = 1 << 32
	rounds  = 1 << 32
	nodes   = 9
	entries = 256
)

// Commands of each kind, all of them valid.
var (
	nop      = api.Cmd{Kind: api.CmdNop}
	put      = api.Cmd{Kind: api.CmdPut, Client: 1, Seq: 2, Key: "k", Val: "v"}
	get300   = api.Cmd{Kind: api.CmdGet, Client: 8, Seq: 300, Key: "é:1"}
	del      = api.Cmd{Kind: api.CmdDel, Client: 3, Seq: api.MaxSeq, Key: strings.Repeat("k", 24)}
	cas      = api.Cmd{Kind: api.CmdCas, Client: 1, Seq: 3, Key: "k", Old: "a", Val: "b"}
	activate = api.Cmd{Kind: api.CmdActivate}
	add      = api.Cmd{Kind: api.CmdAdd, Node: 9}
	drop     = api.Cmd{Kind: api.CmdDrop, Node: 1}
)

// commands: one of each kind.
var commands = []api.Cmd{nop, put, get300, del, cas, activate, add, drop}

// versions: both, and numbers that are none.
var versions = []int{math.MinInt, -2, -1, 0, 1, 2, 3, 257, 258, 1<<32 + 1, 1<<32 + 2, math.MaxInt}

// of returns an entry.
func of(index, round, node int, c api.Cmd) api.Entry {
	return api.Entry{Index: index, Ballot: api.Ballot{Round: round, Node: node}, Cmd: c}
}

// at returns a list with a nop at each of the indexes, all of them with different ballots.
func at(l ...int) []api.Entry {
	out := []api.Entry{}
	for i, index := range l {
		out = append(out, of(index, i+1, i%nodes+1, nop))
	}
	return out
}

// isRange reports whether an index or a ballot is not valid, by the definitions.
func isRange(e api.Entry) bool {
	b := e.Ballot
	owned := b.Round >= 1 && b.Round <= rounds && b.Node >= 1 && b.Node <= nodes
	return e.Index < 1 || e.Index > indexes || !owned && (b.Round != 0 || b.Node != 0)
}

// checked returns the error of l, by the definitions: for the first entry that has one.
func checked(l []api.Entry) api.Errno {
	for i, e := range l {
		switch {
		case isRange(e):
			return api.ErrRange
		case cmd.Check(e.Cmd) != api.OK:
			return cmd.Check(e.Cmd)
		case i > 0 && l[i-1].Index >= e.Index:
			return api.ErrOrder
		}
	}
	return api.OK
}

// bytesOf returns the encoding of l in version v, by the definition.
func bytesOf(v int, l []api.Entry) []byte {
	number := func(b []byte, n int) []byte { return binary.AppendUvarint(b, uint64(max(n, 0))) }
	b := number(nil, len(l))
	for _, e := range l {
		for _, n := range []int{e.Index, e.Ballot.Round, e.Ballot.Node} {
			b = number(b, n)
		}
		var w pack.Writer
		cmd.Put(&w, v, e.Cmd)
		b = append(b, w.Bytes()...)
	}
	return b
}

// written returns what Put writes to a new writer.
func written(v int, l []api.Entry) []byte {
	var w pack.Writer
	Put(&w, v, l)
	return w.Bytes()
}

// roomy returns l as a piece of a longer list, with the function that tells whether anything of all that was changed.
func roomy(l []api.Entry) ([]api.Entry, func() bool) {
	whole := slices.Concat(at(-7, -8), l, at(-5, -6, -9))
	before := slices.Clone(whole)
	return whole[2 : 2+len(l)], func() bool { return !slices.Equal(whole, before) }
}

// spoil changes all of l, up to its capacity.
func spoil(l []api.Entry) {
	l = l[:cap(l)]
	for i := range l {
		l[i] = of(-5, -5, -5, api.Cmd{Kind: -5})
	}
}

// someCmd returns a command at random that the version supports.
func someCmd(r *rand.Rand, v int) api.Cmd {
	for {
		c := commands[r.Intn(len(commands))]
		if v == 2 || c.Kind != api.CmdCas {
			return c
		}
	}
}

// someList returns a valid list at random, with commands that the version supports.
func someList(r *rand.Rand, v int) []api.Entry {
	var l []api.Entry
	index := 0
	for range r.Intn(12) {
		index += 1 + r.Intn(1<<r.Intn(28))
		e := of(index, 1+r.Intn(rounds), 1+r.Intn(nodes), someCmd(r, v))
		if r.Intn(4) == 0 {
			e.Ballot = api.Ballot{}
		}
		l = append(l, e)
	}
	return l
}

// full returns a valid list of as many entries as asked for, of all kinds that the version supports.
func full(v, size int) []api.Entry {
	r := rand.New(rand.NewSource(int64(size)))
	var l []api.Entry
	for i := range size {
		l = append(l, of(i+1, i+1, i%nodes+1, someCmd(r, v)))
	}
	return l
}

// P12.1: the examples of the chapter.
func TestCheckExamples(t *testing.T) {
	for _, x := range []struct {
		l    []api.Entry
		want api.Errno
	}{
		{[]api.Entry{of(5, 0, 0, nop), of(2, 0, 0, nop)}, api.ErrOrder},
		{[]api.Entry{of(0, 0, 0, nop)}, api.ErrRange},
		{[]api.Entry{{Index: 1}}, api.ErrKind},
		{nil, api.OK},
		{[]api.Entry{}, api.OK},
		{[]api.Entry{of(2, 0, 0, nop), of(5, 0, 0, nop)}, api.OK},
	} {
		if got := Check(x.l); got != x.want {
			t.Errorf("Check(%+v) = %d, want %d", x.l, got, x.want)
		}
	}
}

// P12.1: indexes and ballots at their limits and beyond them, alone and behind a valid entry; commands of each kind.
func TestCheckFields(t *testing.T) {
	numbers := []int{
		math.MinInt, math.MinInt + 1, -1 << 32, -9, -1, 0, 1, 2, 3, 8, 9, 10, 255, 256, 257, math.MaxInt32,
		math.MaxUint32, 1 << 32, 1<<32 + 1, 1<<32 + 2, 1<<33 + 1, math.MaxInt - 1, math.MaxInt,
	}
	for _, n := range numbers {
		for _, m := range numbers {
			for _, e := range []api.Entry{of(n, m, 1, put), of(n, 1, m, put), of(2, n, m, put), of(n, 0, m, nop), of(n, m, 0, nop)} {
				for _, l := range [][]api.Entry{{e}, {of(1, 1, 1, nop), e}, {e, of(indexes, 1, 1, nop)}} {
					if got, want := Check(l), checked(l); got != want {
						t.Fatalf("Check(%+v) = %d, want %d", l, got, want)
					}
				}
			}
		}
	}
	for _, c := range commands {
		for _, e := range []api.Entry{of(1, 0, 0, c), of(indexes, rounds, nodes, c)} {
			if got := Check([]api.Entry{e}); got != api.OK {
				t.Errorf("Check(%+v) = %d", e, got)
			}
		}
	}
}

// P12.1: the error of cmd.Check is the one that is returned, whichever it is, and whether or not a version supports the kind.
func TestCheckCommands(t *testing.T) {
	for _, x := range []struct {
		c    api.Cmd
		want api.Errno
	}{
		{api.Cmd{}, api.ErrKind},
		{api.Cmd{Kind: 9}, api.ErrKind},
		{api.Cmd{Kind: -1}, api.ErrKind},
		{api.Cmd{Kind: api.CmdAdd, Node: 10}, api.ErrRange},
		{api.Cmd{Kind: api.CmdPut, Client: 9, Seq: 1, Key: "k"}, api.ErrRange},
		{api.Cmd{Kind: api.CmdPut, Client: 1, Seq: 1, Key: ""}, api.ErrText},
		{api.Cmd{Kind: api.CmdCas, Client: 1, Seq: 1, Key: "k", Old: "\n"}, api.ErrText},
		{api.Cmd{Kind: api.CmdNop, Node: 1}, api.ErrForm},
		{api.Cmd{Kind: api.CmdGet, Client: 1, Seq: 1, Key: "k", Val: "v"}, api.ErrForm},
		{cas, api.OK},
	} {
		for _, l := range [][]api.Entry{{of(3, 1, 1, x.c)}, {of(2, 4, 9, put), of(3, 0, 0, x.c), of(4, 1, 1, drop)}} {
			if got := Check(l); got != x.want {
				t.Errorf("Check(%+v) = %d, want %d", l, got, x.want)
			}
		}
	}
}

// P12.1: in one entry ErrRange comes first, then the error of its command, then ErrOrder; an entry comes ahead of those behind it.
func TestCheckOrder(t *testing.T) {
	bad := api.Cmd{Kind: 9}
	form := api.Cmd{Kind: api.CmdNop, Client: 1}
	for _, x := range []struct {
		l    []api.Entry
		want api.Errno
	}{
		{[]api.Entry{of(0, 1, 1, bad)}, api.ErrRange},
		{[]api.Entry{of(1, 1, 0, bad)}, api.ErrRange},
		{[]api.Entry{of(5, 1, 1, nop), of(0, 1, 1, bad)}, api.ErrRange},
		{[]api.Entry{of(5, 1, 1, nop), of(5, 0, 1, bad)}, api.ErrRange},
		{[]api.Entry{of(5, 1, 1, nop), of(5, 1, 1, bad)}, api.ErrKind},
		{[]api.Entry{of(5, 1, 1, nop), of(4, 1, 1, form)}, api.ErrForm},
		{[]api.Entry{of(5, 1, 1, nop), of(5, 2, 2, nop)}, api.ErrOrder},
		{[]api.Entry{of(5, 1, 1, nop), of(4, 1, 1, nop), of(0, 1, 1, bad)}, api.ErrOrder},
		{[]api.Entry{of(5, 1, 1, bad), of(0, 1, 1, nop)}, api.ErrKind},
		{[]api.Entry{of(5, 1, 1, form), of(4, 1, 1, nop)}, api.ErrForm},
		{[]api.Entry{of(5, 10, 10, nop), of(4, 1, 1, bad)}, api.ErrRange},
		{[]api.Entry{of(1, 1, 1, nop), of(3, 1, 1, nop), of(2, 1, 1, nop)}, api.ErrOrder},
		{[]api.Entry{of(2, 1, 1, nop), of(1, 1, 1, nop), of(3, 1, 1, nop)}, api.ErrOrder},
		{[]api.Entry{of(1, 1, 1, nop), of(2, 1, 1, nop), of(2, 1, 1, nop)}, api.ErrOrder},
		{[]api.Entry{of(2, 9, 9, nop), of(3, 1, 1, nop)}, api.OK},
	} {
		if got := Check(x.l); got != x.want {
			t.Errorf("Check(%+v) = %d, want %d", x.l, got, x.want)
		}
	}
}

// P12.1: every list of up to four entries out of a few; a list may have more than MaxEntries.
func TestCheckOfAll(t *testing.T) {
	few := []api.Entry{
		of(1, 1, 1, nop), of(2, 0, 0, cas), of(3, rounds, 9, put), of(indexes, 2, 2, add), of(0, 1, 1, nop), of(indexes+1, 1, 1, nop),
		of(2, 0, 1, nop), of(3, 1, 0, api.Cmd{}), of(2, 1, 1, api.Cmd{}), of(3, 1, 1, api.Cmd{Kind: api.CmdDrop, Node: 1, Key: "k"}),
	}
	var walk func(l []api.Entry)
	walk = func(l []api.Entry) {
		if got, want := Check(l), checked(l); got != want {
			t.Fatalf("Check(%+v) = %d, want %d", l, got, want)
		}
		for _, e := range few {
			if len(l) < 4 {
				walk(append(slices.Clone(l), e))
			}
		}
	}
	walk(nil)
	for _, size := range []int{entries, entries + 1, 4 * entries} {
		l := full(2, size)
		if got := Check(l); got != api.OK {
			t.Errorf("Check of %d entries = %d", size, got)
		}
		l[size-1].Index = size - 1
		if got := Check(l); got != api.ErrOrder {
			t.Errorf("Check of %d entries, the last one out of order, = %d", size, got)
		}
	}
}

// P12.1: a version supports a list if it supports every kind in it; the example of the chapter.
func TestHas(t *testing.T) {
	if Has(1, []api.Entry{of(1, 0, 0, cas)}) || !Has(2, []api.Entry{of(1, 0, 0, cas)}) {
		t.Error("a cas is V2's alone")
	}
	for _, v := range versions {
		for kind := -3; kind <= 300; kind++ {
			is := v == 2 && kind >= 1 && kind <= 8 || v == 1 && kind >= 1 && kind <= 8 && kind != 5
			odd := of(-1, 0, 77, api.Cmd{Kind: kind, Client: 99, Key: "/"})
			for _, l := range [][]api.Entry{{odd}, {of(1, 0, 0, nop), odd}, {odd, of(1, 0, 0, nop)}, {of(1, 0, 0, put), odd, of(2, 0, 0, drop)}} {
				if got := Has(v, l); got != is {
					t.Fatalf("Has(%d, %+v) = %v, want %v", v, l, got, is)
				}
			}
		}
		if !Has(v, nil) || !Has(v, []api.Entry{}) {
			t.Errorf("version %d lacks a kind of no commands", v)
		}
		if got, want := Has(v, full(2, entries)), v == 2; got != want {
			t.Errorf("Has(%d) of all kinds = %v", v, got)
		}
		if got, want := Has(v, full(1, entries)), v == 1 || v == 2; got != want {
			t.Errorf("Has(%d) of all kinds but cas = %v", v, got)
		}
	}
}

// P12.1: encodings written out by hand, in both versions, and back.
func TestPutGet(t *testing.T) {
	for _, x := range []struct {
		l      []api.Entry
		v1, v2 string
	}{
		{nil, "00", "00"},
		{[]api.Entry{of(1, 0, 0, nop)}, "01" + "010000" + "010000000000", "01" + "010000" + "01"},
		{[]api.Entry{of(300, 2, 9, put)}, "01" + "ac020209" + "020102016b017600", "01" + "ac020209" + "020102016b0176"},
		{[]api.Entry{of(2, 0, 0, activate), of(5, 3, 1, add)}, "02" + "020000" + "060000000000" + "050301" + "070000000009", "02" + "020000" + "06" + "050301" + "0709"},
		{[]api.Entry{of(indexes, rounds, 9, drop)}, "01" + "8080808010808080801009" + "080000000001", "01" + "8080808010808080801009" + "0801"},
	} {
		for v, want := range map[int]string{1: x.v1, 2: x.v2} {
			b := written(v, x.l)
			if hex.EncodeToString(b) != want {
				t.Errorf("Put(%d, %+v) writes %x, want %s", v, x.l, b, want)
			}
			r := pack.NewReader(b)
			if got := Get(r, v); !slices.Equal(got, x.l) || r.Done() != api.OK {
				t.Errorf("Get(%d) of %s = %+v, error %d, want %+v", v, want, got, r.Done(), x.l)
			}
		}
	}
	b := written(2, []api.Entry{of(4, 1, 2, cas)})
	if want := "01" + "040102" + "050103016b01610162"; hex.EncodeToString(b) != want {
		t.Errorf("a cas is written as %x, want %s", b, want)
	}
}

// odd returns lists that are not valid.
func odd() [][]api.Entry {
	wild := api.Cmd{Kind: 300, Client: 300, Seq: math.MaxInt, Key: "a/b\n", Old: "\xff", Val: strings.Repeat("v", 5000), Node: 77}
	return [][]api.Entry{
		{{}},
		{of(5, 1, 1, nop), of(5, 1, 1, put), of(2, 1, 1, del)},
		{of(0, 0, 7, api.Cmd{}), of(math.MaxInt, math.MaxInt, math.MaxInt, wild)},
		{of(1<<33, 0, 300, api.Cmd{Kind: api.CmdCas, Old: "\n"}), {}},
		{of(7, 1, 1, api.Cmd{Kind: api.CmdPut, Client: 9, Key: strings.Repeat("k", 300)})},
	}
}

// P12.1: Put writes whatever it is given, behind what was written before; a cas in V1, more than MaxEntries and negative numbers too.
func TestPut(t *testing.T) {
	lists := append(odd(),
		nil, []api.Entry{of(1, 1, 1, cas)}, full(2, entries), full(2, entries+1), full(2, 1000),
		[]api.Entry{of(-1, -2, -3, api.Cmd{Kind: -4, Client: -5})}, []api.Entry{of(math.MinInt, math.MinInt, math.MinInt, nop)})
	for _, l := range lists {
		for v := 1; v <= 2; v++ {
			given, changed := roomy(l)
			var w pack.Writer
			w.Text("ahead")
			Put(&w, v, given)
			w.Flag(true)
			want := slices.Concat([]byte("\x05ahead"), bytesOf(v, l), []byte{1})
			if got := w.Bytes(); !bytes.Equal(got, want) {
				t.Fatalf("Put(%d, %+v) writes %x, want %x", v, l, got, want)
			}
			if changed() {
				t.Fatalf("Put(%d, %+v) changed the list", v, l)
			}
		}
	}
}

// P12.1: there is no encoding in what is no version, and nothing is written to, or read from, nil.
func TestPutGetNone(t *testing.T) {
	l := []api.Entry{of(1, 1, 1, nop), of(2, 2, 2, put)}
	for _, v := range versions {
		Put(nil, v, l)
		Put(nil, v, nil)
		if got := Get(nil, v); len(got) != 0 {
			t.Errorf("Get(nil, %d) = %+v", v, got)
		}
		if v == 1 || v == 2 {
			continue
		}
		if got := written(v, l); len(got) != 0 {
			t.Errorf("Put(%d) writes %x", v, got)
		}
		r := pack.NewReader(bytesOf(2, l))
		if got := Get(r, v); len(got) != 0 || r.Err() != api.OK {
			t.Errorf("Get(%d) = %+v, error %d", v, got, r.Err())
		}
		if got := Get(r, 2); !slices.Equal(got, l) || r.Done() != api.OK {
			t.Errorf("Get(2) after Get(%d) = %+v, error %d", v, got, r.Done())
		}
	}
}

// only returns l with those fields alone that stand in its encoding.
func only(v int, l []api.Entry) []api.Entry {
	l = slices.Clone(l)
	for i := range l {
		var w pack.Writer
		cmd.Put(&w, v, l[i].Cmd)
		l[i].Cmd = cmd.Get(pack.NewReader(w.Bytes()), v)
	}
	return l
}

// P12.1: Get reads what was written, one list after the other, valid or not, and goes not a byte further.
func TestGet(t *testing.T) {
	for v := 1; v <= 2; v++ {
		var w pack.Writer
		lists := append(odd(), nil, full(v, 1), full(v, 127), full(v, 128), full(v, entries), nil, []api.Entry{of(1, 1, 1, cas)})
		for _, l := range lists {
			Put(&w, v, l)
			w.Text("behind")
		}
		r := pack.NewReader(w.Bytes())
		for _, l := range lists {
			if got := Get(r, v); !slices.Equal(got, only(v, l)) || r.Err() != api.OK {
				t.Fatalf("Get(%d) = %+v, error %d, want %+v", v, got, r.Err(), only(v, l))
			}
			if got := r.Text(6); got != "behind" {
				t.Fatalf("after %+v: %q, error %d", l, got, r.Err())
			}
		}
		if err := r.Done(); err != api.OK {
			t.Fatalf("Done() = %d", err)
		}
	}
}

// wantNone fails the test unless Get reads no list from the reader, which then has this error, and reads nothing any more.
func wantNone(t *testing.T, v int, r *pack.Reader, want api.Errno, what string) {
	t.Helper()
	for range 2 {
		if got := Get(r, v); len(got) != 0 || r.Err() != want {
			t.Fatalf("Get(%d) of %s = %+v, error %d, want error %d", v, what, got, r.Err(), want)
		}
	}
	if got := r.Flag(); got || r.Err() != want {
		t.Fatalf("after Get(%d) of %s: %v, error %d, want error %d", v, what, got, r.Err(), want)
	}
}

// P12.1: a list has at most MaxEntries; that it has more comes ahead of its being cut.
func TestGetMost(t *testing.T) {
	for v := 1; v <= 2; v++ {
		for _, size := range []int{entries + 1, entries + 2, 300, 1000} {
			wantNone(t, v, pack.NewReader(bytesOf(v, full(v, size))), api.ErrLong, "too many")
		}
		for _, n := range []uint64{entries + 1, 1 << 31, 1<<32 + 1, math.MaxInt} {
			b := binary.AppendUvarint(nil, n)
			wantNone(t, v, pack.NewReader(b), api.ErrLong, "a great number alone")
			wantNone(t, v, pack.NewReader(append(b, 0x80, 0)), api.ErrLong, "a great number")
		}
		wantNone(t, v, pack.NewReader(binary.AppendUvarint(nil, entries)), api.ErrShort, "the greatest number alone")
	}
}

// P12.1: no part of a list is read from what ends too early, wherever it does; fewer bytes than entries are too few at once.
func TestGetCut(t *testing.T) {
	for v := 1; v <= 2; v++ {
		for _, l := range append(odd(), full(v, 1), full(v, 5), full(v, entries)) {
			b := bytesOf(v, l)
			for size := 0; size < len(b); size += 1 + size/400 {
				wantNone(t, v, pack.NewReader(b[:size]), api.ErrShort, hex.EncodeToString(b[:min(size, 40)]))
			}
		}
		// Each of these has a number that is none behind the count, which is not reached any more.
		wantNone(t, v, pack.NewReader([]byte{3, 0x80, 0}), api.ErrShort, "3 entries in 2 bytes")
		wantNone(t, v, pack.NewReader([]byte{2, 0x80, 0}), api.ErrForm, "2 entries in 2 bytes")
	}
}

// P12.1: what is no number, in whichever place, and an error that the reader had before.
func TestGetErrors(t *testing.T) {
	// A nop at index 5: its number of entries, its index, round, node and kind, and what else a nop has in V1.
	for place := range 5 {
		parts := [][]byte{{1}, {5}, {1}, {1}, {1}, {0, 0, 0, 0, 0}}
		parts[place] = []byte{0x81, 0}
		wantNone(t, 1, pack.NewReader(slices.Concat(parts...)), api.ErrForm, "a number that is too long")
		wantNone(t, 2, pack.NewReader(slices.Concat(parts[:5]...)), api.ErrForm, "a number that is too long")
	}
	for v := 1; v <= 2; v++ {
		r := pack.NewReader(append([]byte{9}, bytesOf(v, full(v, 2))...))
		if r.Number(8); r.Err() != api.ErrLong {
			t.Fatal("a number of more than 8")
		}
		wantNone(t, v, r, api.ErrLong, "a reader with an error")
	}
	// The second of two entries is broken: the first one alone is no list.
	wantNone(t, 2, pack.NewReader([]byte{2, 1, 1, 1, 1, 2, 1, 0x80, 0, 1}), api.ErrForm, "a list that breaks off")
}

// P12.1: of any bytes, what is read as a list is encoded as these bytes again, and beside an error there is no list.
func TestGetBroken(t *testing.T) {
	r := rand.New(rand.NewSource(12))
	lists := 0
	for i := range 60000 {
		v := 1 + i%2
		b := bytesOf(v, someList(r, v))
		for range r.Intn(4) {
			b[r.Intn(len(b))] = byte(r.Intn(1 << (1 + r.Intn(8))))
		}
		b = append(b, 1)
		before := slices.Clone(b)
		from := pack.NewReader(b)
		l := Get(from, v)
		if from.Err() != api.OK {
			if len(l) != 0 {
				t.Fatalf("Get(%d) of %x = %+v beside error %d", v, b, l, from.Err())
			}
			continue
		}
		lists++
		again := bytesOf(v, l)
		if len(l) > entries || len(again) > len(b) || !bytes.Equal(again, b[:len(again)]) {
			t.Fatalf("Get(%d) of %x = %+v, which is %x", v, b, l, again)
		}
		if len(again) < len(b) && from.Done() != api.ErrForm {
			t.Fatalf("Get(%d) of %x reads on behind %x", v, b, again)
		}
		if !bytes.Equal(b, before) {
			t.Fatalf("Get(%d) changed %x to %x", v, before, b)
		}
	}
	if lists < 10000 || lists > 50000 {
		t.Errorf("%d of 60000 are lists", lists)
	}
}

// ascending: lists with strictly ascending indexes, also such as are no indexes of a valid entry.
func ascending() [][]api.Entry {
	lists := [][]api.Entry{
		nil, at(math.MinInt, -1, 0, 1, math.MaxInt), at(math.MinInt), at(math.MaxInt), at(-3, -2), at(indexes-1, indexes, indexes+1),
		full(2, entries), full(2, entries+1), {of(2, 1, 1, put), of(3, 0, 0, cas), of(9, 77, 77, api.Cmd{Kind: 9})},
	}
	for bits := range 1 << 7 {
		var l []int
		for index := range 7 {
			if bits&(1<<index) != 0 {
				l = append(l, index*2)
			}
		}
		lists = append(lists, at(l...))
	}
	return lists
}

// wanted: at, between and beyond the indexes of those lists.
func wanted() []int {
	l := []int{math.MinInt, math.MinInt + 1, -1 << 32, math.MaxUint32, indexes, indexes + 1, indexes + 2, 1<<33 + 1, math.MaxInt - 1, math.MaxInt}
	for index := -4; index <= 20; index++ {
		l = append(l, index)
	}
	return append(l, entries-1, entries, entries+1, entries+2)
}

// where returns those of l whose index is as asked for.
func where(l []api.Entry, is func(index int) bool) []api.Entry {
	var out []api.Entry
	for _, e := range l {
		if is(e.Index) {
			out = append(out, e)
		}
	}
	return out
}

// P12.2: the examples of the chapter.
func TestCutExamples(t *testing.T) {
	l := at(2, 5)
	if got := From(l, 3); !slices.Equal(got, l[1:]) {
		t.Errorf("From 3: %+v", got)
	}
	if got := Until(l, 2); !slices.Equal(got, l[:1]) {
		t.Errorf("Until 2: %+v", got)
	}
}

// P12.2: Find returns the entry with the index, whole, or nothing.
func TestFind(t *testing.T) {
	for _, l := range ascending() {
		for _, index := range wanted() {
			given, changed := roomy(l)
			got, is := Find(given, index)
			want := where(l, func(i int) bool { return i == index })
			if is != (len(want) == 1) || !is && got != (api.Entry{}) || is && got != want[0] {
				t.Fatalf("Find(%+v, %d) = %+v, %v, want %+v", l, index, got, is, want)
			}
			if changed() {
				t.Fatalf("Find(%+v, %d) changed the list", l, index)
			}
		}
	}
}

// P12.2: From and Until return the entries on one side, those with the index with them, in new memory.
func TestFromUntil(t *testing.T) {
	for _, l := range ascending() {
		for _, index := range wanted() {
			given, changed := roomy(l)
			from, until := From(given, index), Until(given, index)
			if want := where(l, func(i int) bool { return i >= index }); !slices.Equal(from, want) {
				t.Fatalf("From(%+v, %d) = %+v, want %+v", l, index, from, want)
			}
			if want := where(l, func(i int) bool { return i <= index }); !slices.Equal(until, want) {
				t.Fatalf("Until(%+v, %d) = %+v, want %+v", l, index, until, want)
			}
			spoil(from)
			spoil(until)
			if changed() {
				t.Fatalf("From or Until of %+v, %d shares the list's memory", l, index)
			}
		}
	}
}

// P12.2: With puts the entry at its place, or in place of the one with its index, in new memory, whatever the entry is.
func TestWith(t *testing.T) {
	for _, l := range ascending() {
		for _, index := range wanted() {
			for _, e := range []api.Entry{of(index, 8, 8, put), of(index, 0, 0, api.Cmd{}), of(index, -1, 10, api.Cmd{Kind: -1, Key: "/"})} {
				given, changed := roomy(l)
				got := With(given, e)
				smaller := where(l, func(i int) bool { return i < index })
				greater := where(l, func(i int) bool { return i > index })
				if want := slices.Concat(smaller, []api.Entry{e}, greater); !slices.Equal(got, want) {
					t.Fatalf("With(%+v, %+v) = %+v, want %+v", l, e, got, want)
				}
				spoil(got)
				if changed() {
					t.Fatalf("With(%+v, %+v) shares the list's memory", l, e)
				}
			}
		}
	}
}

// P12.2: of no order nothing is promised but that every call ends, and leaves the list as it is.
func TestNoOrder(t *testing.T) {
	r := rand.New(rand.NewSource(7))
	for range 3000 {
		var numbers []int
		for range r.Intn(9) {
			numbers = append(numbers, r.Intn(7)-1)
		}
		given, changed := roomy(at(numbers...))
		for _, index := range wanted() {
			Find(given, index)
			spoil(With(given, of(index, 1, 1, nop)))
			spoil(From(given, index))
			spoil(Until(given, index))
			Check(given)
			Has(2, given)
		}
		if changed() {
			t.Fatalf("%+v is changed", numbers)
		}
	}
}

// P12.3: valid lists are recovered from their encodings, in each version that supports their kinds; they are valid, and supported, as before.
func TestRoundTrip(t *testing.T) {
	r := rand.New(rand.NewSource(3))
	for i := range 20000 {
		v := 1 + i%2
		l := someList(r, v)
		if Check(l) != api.OK || !Has(v, l) {
			t.Fatalf("%+v is not a list of version %d", l, v)
		}
		given, changed := roomy(l)
		from := pack.NewReader(written(v, given))
		got := Get(from, v)
		if !slices.Equal(got, l) || from.Done() != api.OK {
			t.Fatalf("in version %d, %+v becomes %+v, error %d", v, l, got, from.Done())
		}
		if changed() {
			t.Fatalf("%+v is changed", l)
		}
	}
	for v := 1; v <= 2; v++ {
		l := full(v, entries)
		if got := Get(pack.NewReader(written(v, l)), v); !slices.Equal(got, l) {
			t.Errorf("in version %d, MaxEntries become %d", v, len(got))
		}
	}
}

// P12.3: what was inserted is found, whole, and all other entries stay; a valid list with a valid entry is valid.
func TestInsertedIsFound(t *testing.T) {
	r := rand.New(rand.NewSource(4))
	for range 2000 {
		var l []api.Entry
		kept := map[int]api.Entry{}
		for range r.Intn(30) {
			e := of(1+r.Intn(20), 1+r.Intn(rounds), 1+r.Intn(nodes), commands[r.Intn(len(commands))])
			l = With(l, e)
			kept[e.Index] = e
			if got, is := Find(l, e.Index); !is || got != e {
				t.Fatalf("%+v is not found in %+v", e, l)
			}
			if len(l) != len(kept) || Check(l) != api.OK {
				t.Fatalf("%+v instead of %+v, error %d", l, kept, Check(l))
			}
			for index := range 22 {
				if got, is := Find(l, index); got != kept[index] || is != (kept[index] != api.Entry{}) {
					t.Fatalf("Find(%+v, %d) = %+v, %v, want %+v", l, index, got, is, kept[index])
				}
			}
		}
	}
}

// P12.3: what stands up to an index, and what stands behind it, are the list together.
func TestCutInTwo(t *testing.T) {
	r := rand.New(rand.NewSource(5))
	for range 3000 {
		l := someList(r, 2)
		index := r.Intn(1 << r.Intn(30))
		if got := slices.Concat(Until(l, index), From(l, index+1)); !slices.Equal(got, l) {
			t.Fatalf("%+v, cut at %d, becomes %+v", l, index, got)
		}
	}
}
