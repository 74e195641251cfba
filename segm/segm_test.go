package segm

import (
	"bytes"
	"encoding/binary"
	"encoding/hex"
	"hash/crc32"
	"math"
	"math/rand"
	"slices"
	"strings"
	"testing"

	"changeover/api"
	"changeover/hard"
	"changeover/rectwo"
)

// The limits of the chapters, written out.
const (
	indexes = 1 << 32
	rounds  = 1 << 32
	nodes   = 9
	body    = 65536
	longest = 32768
)

// Commands of some kinds, all of them valid; V1 does not support cas alone.
var (
	nop      = api.Cmd{Kind: api.CmdNop}
	put      = api.Cmd{Kind: api.CmdPut, Client: 1, Seq: 2, Key: "k", Val: "v"}
	cas      = api.Cmd{Kind: api.CmdCas, Client: 1, Seq: 3, Key: "k", Old: "a", Val: "b"}
	activate = api.Cmd{Kind: api.CmdActivate}
	add      = api.Cmd{Kind: api.CmdAdd, Node: 9}
)

// noFormats: numbers that are no format.
var noFormats = []int{math.MinInt, -1 << 32, -2, -1, 0, 3, 4, 17, 18, 255, 256, 257, 258, 1 << 32, 1<<32 + 1, 1<<32 + 2, math.MaxInt}

// ballotOf returns a ballot.
func ballotOf(round, node int) api.Ballot {
	return api.Ballot{Round: round, Node: node}
}

// promise, accept, chosen and image return records.
func promise(round, node int) api.Record {
	return api.Record{Kind: api.RecPromise, Ballot: ballotOf(round, node)}
}

func accept(round, node, index int, c api.Cmd) api.Record {
	return api.Record{Kind: api.RecAccept, Ballot: ballotOf(round, node), Index: index, Cmd: c}
}

func chosen(index int, c api.Cmd) api.Record {
	return api.Record{Kind: api.RecChosen, Index: index, Cmd: c}
}

func image(index int, text string) api.Record {
	return api.Record{Kind: api.RecImage, Index: index, Image: []byte(text)}
}

// records returns a list.
func records(l ...api.Record) []api.Record {
	return l
}

// full returns a state that has everything; with a cas if it is to be late.
func full(late bool) api.Hard {
	last := put
	if late {
		last = cas
	}
	return api.Hard{
		Promised: ballotOf(3, 1), Base: 4, Image: []byte("img"),
		Accepted: []api.Entry{{Index: 5, Ballot: ballotOf(2, 2), Cmd: put}, {Index: 7, Ballot: ballotOf(3, 1), Cmd: nop}, {Index: 9, Ballot: ballotOf(1, 3), Cmd: last}},
		Chosen:   []api.Entry{{Index: 5, Cmd: put}, {Index: 8, Cmd: activate}},
	}
}

// fullRecords returns the records of that state, by the definition of layer 19.
func fullRecords(late bool) []api.Record {
	last := put
	if late {
		last = cas
	}
	return records(image(4, "img"), promise(3, 1), accept(2, 2, 5, put), accept(3, 1, 7, nop), accept(1, 3, 9, last), chosen(5, put), chosen(8, activate))
}

// unhex returns the bytes of hexadecimal digits.
func unhex(t *testing.T, s string) []byte {
	t.Helper()
	b, err := hex.DecodeString(s)
	if err != nil {
		t.Fatal(err)
	}
	return b
}

// uints returns the encodings of numbers, by the definition of layer 1.
func uints(l ...uint64) []byte {
	var b []byte
	for _, n := range l {
		b = binary.AppendUvarint(b, n)
	}
	return b
}

// framed returns the frame of b, by the definition of layer 3.
func framed(b []byte) []byte {
	return binary.LittleEndian.AppendUint32(append(uints(uint64(len(b))), b...), crc32.ChecksumIEEE(b))
}

// encoded returns the encoding of a record that has one.
func encoded(format int, x api.Record) []byte {
	b, err := rectwo.Put(format, x)
	if err != api.OK {
		panic("no encoding")
	}
	return b
}

// fileOf returns the file with these records in its head and behind it, by the definition.
func fileOf(format int, head, more []api.Record) []byte {
	b := framed(uints(uint64(format), uint64(len(head))))
	for _, x := range slices.Concat(head, more) {
		b = append(b, framed(encoded(format, x))...)
	}
	return b
}

// takeFrame returns the body of the frame that b begins with, and what is behind it, by the definition; false if there is none.
func takeFrame(b []byte) ([]byte, []byte, bool) {
	n, size := binary.Uvarint(b)
	if size < 1 || !bytes.Equal(uints(n), b[:size]) || n < 1 || n > body {
		return nil, nil, false
	}
	b = b[size:]
	if uint64(len(b)) < n+4 || binary.LittleEndian.Uint32(b[n:]) != crc32.ChecksumIEEE(b[:n]) {
		return nil, nil, false
	}
	return b[:n], b[n+4:], true
}

// content returns what Read returns, by the definitions.
func content(b []byte) (Content, api.Errno) {
	start, rest, is := takeFrame(b)
	if !is || start[0] != 1 && start[0] != 2 {
		return Content{}, api.ErrTorn
	}
	n, size := binary.Uvarint(start[1:])
	if size < 1 || n > math.MaxInt64 || !bytes.Equal(uints(n), start[1:]) {
		return Content{}, api.ErrTorn
	}
	c := Content{Format: int(start[0])}
	for {
		f, behind, is := takeFrame(rest)
		if !is {
			break
		}
		x, err := rectwo.Get(c.Format, f)
		if err != api.OK {
			break
		}
		c.Hard, rest = hard.Apply(c.Hard, x), behind
		c.Records++
	}
	if uint64(c.Records) < n {
		return Content{}, api.ErrTorn
	}
	c.Bytes = len(b) - len(rest)
	return c, api.OK
}

// equalEntries reports whether two lists have the same entries.
func equalEntries(a, b []api.Entry) bool {
	return len(a) == len(b) && slices.Equal(a, b)
}

// equalHard reports whether two states have equal contents.
func equalHard(a, b api.Hard) bool {
	return a.Promised == b.Promised && a.Base == b.Base && string(a.Image) == string(b.Image) && equalEntries(a.Accepted, b.Accepted) && equalEntries(a.Chosen, b.Chosen)
}

// equal reports whether two contents are equal.
func equal(a, b Content) bool {
	return a.Format == b.Format && a.Records == b.Records && a.Bytes == b.Bytes && equalHard(a.Hard, b.Hard)
}

// brief returns c with a short piece of its image, to be told.
func brief(c Content) Content {
	c.Hard.Image = c.Hard.Image[:min(len(c.Hard.Image), 9)]
	return c
}

// short returns b, or a piece of it, to be told.
func short(b []byte) []byte {
	return b[:min(len(b), 99)]
}

// roomy returns h with each of its lists as a piece of a longer one, with the function that tells whether anything of these was changed.
func roomy(h api.Hard) (api.Hard, func() bool) {
	ahead, behind := api.Entry{Index: 1, Ballot: ballotOf(9, 9), Cmd: nop}, api.Entry{Index: 1 << 40, Cmd: nop}
	img := slices.Concat([]byte("ahead"), h.Image, []byte("behind"))
	one := slices.Concat([]api.Entry{ahead}, h.Accepted, []api.Entry{behind, behind})
	two := slices.Concat([]api.Entry{ahead}, h.Chosen, []api.Entry{behind, behind})
	imgBefore, oneBefore, twoBefore := slices.Clone(img), slices.Clone(one), slices.Clone(two)
	h.Image, h.Accepted, h.Chosen = img[5:5+len(h.Image)], one[1:1+len(h.Accepted)], two[1:1+len(h.Chosen)]
	return h, func() bool {
		return !slices.Equal(img, imgBefore) || !slices.Equal(one, oneBefore) || !slices.Equal(two, twoBefore)
	}
}

// wantHead fails the test unless Head returns this, and leaves the state as it is.
func wantHead(t *testing.T, format int, h api.Hard, want []byte, err api.Errno, what string) {
	t.Helper()
	given, changed := roomy(h)
	got, e := Head(format, given)
	if !bytes.Equal(got, want) || e != err {
		t.Fatalf("%s: Head in format %d = %x, error %d, want %x, error %d", what, format, short(got), e, short(want), err)
	}
	clear(got[:cap(got)])
	if changed() {
		t.Fatalf("%s: Head in format %d changed the state, or shares its memory", what, format)
	}
}

// wantAdd fails the test unless Add returns this, and leaves the record as it is.
func wantAdd(t *testing.T, format int, x api.Record, want []byte, err api.Errno, what string) {
	t.Helper()
	img := slices.Concat([]byte("ahead"), x.Image, []byte("behind"))
	before := slices.Clone(img)
	x.Image = img[5 : 5+len(x.Image)]
	got, e := Add(format, x)
	if !bytes.Equal(got, want) || e != err {
		t.Fatalf("%s: Add in format %d = %x, error %d, want %x, error %d", what, format, short(got), e, short(want), err)
	}
	clear(got[:cap(got)])
	if !bytes.Equal(img, before) {
		t.Fatalf("%s: Add in format %d changed the record, or shares its memory", what, format)
	}
}

// wantRead fails the test unless Read returns this, and leaves the bytes as they are, which are followed by others.
func wantRead(t *testing.T, b []byte, want Content, err api.Errno, what string) {
	t.Helper()
	whole := slices.Concat(b, framed(encoded(1, promise(9, 9))), framed(encoded(2, promise(9, 9))))
	before := slices.Clone(whole)
	got, e := Read(whole[:len(b)])
	if !equal(got, want) || e != err {
		t.Fatalf("%s: Read(%x) = %+v, error %d, want %+v, error %d", what, short(b), brief(got), e, brief(want), err)
	}
	clear(got.Hard.Image[:cap(got.Hard.Image)])
	if !bytes.Equal(whole, before) {
		t.Fatalf("%s: Read(%x) changed the bytes, or shares their memory", what, short(b))
	}
}

// wantTorn fails the test unless Read returns ErrTorn, as the definitions say.
func wantTorn(t *testing.T, b []byte, what string) {
	t.Helper()
	wantRead(t, b, Content{}, api.ErrTorn, what)
	if _, err := content(b); err != api.ErrTorn {
		t.Fatalf("%s: the definition gives error %d", what, err)
	}
}

// wantWhole fails the test unless Read returns a file with these records alone, that end at this position.
func wantWhole(t *testing.T, b []byte, format int, l []api.Record, end int, what string) {
	t.Helper()
	want := Content{Format: format, Hard: hard.Of(l), Records: len(l), Bytes: end}
	wantRead(t, b, want, api.OK, what)
	if c, err := content(b); err != api.OK || !equal(c, want) {
		t.Fatalf("%s: the definition gives %+v, error %d", what, c, err)
	}
}

// P20.1: files written out by hand, the example of the chapter first.
func TestHeadExamples(t *testing.T) {
	for _, c := range []struct {
		what   string
		format int
		h      api.Hard
		want   string
	}{
		{"the empty state", 1, api.Hard{}, "020100be23c258"},
		{"the empty state", 2, api.Hard{}, "0202007d70ef73"},
		{"empty lists", 1, api.Hard{Image: []byte{}, Accepted: []api.Entry{}, Chosen: []api.Entry{}}, "020100be23c258"},
		{"a promise", 1, api.Hard{Promised: ballotOf(2, 3)}, "0201012813c52f" + "0401020300d43f51b1"},
		{"a promise", 2, api.Hard{Promised: ballotOf(2, 3)}, "020201eb40e804" + "031102036d239a49"},
		{"a choice", 1, api.Hard{Chosen: []api.Entry{{Index: 1, Cmd: nop}}}, "0201012813c52f" + "0a03000001010000000000640b9665"},
		{"a choice", 2, api.Hard{Chosen: []api.Entry{{Index: 1, Cmd: nop}}}, "020201eb40e804" + "03130101ecc53d8f"},
	} {
		wantHead(t, c.format, c.h, unhex(t, c.want), api.OK, c.what)
	}
}

// P20.1: the head has a frame for each record of the state, in their order, in the format; the first frame tells how many.
func TestHeadStates(t *testing.T) {
	for _, late := range []bool{false, true} {
		for format := 1; format <= 2; format++ {
			if late && format == 1 {
				continue
			}
			l := fullRecords(late)
			wantHead(t, format, full(late), fileOf(format, l, nil), api.OK, "a whole state")
			h := full(late)
			h.Base, h.Image = 0, nil
			wantHead(t, format, h, fileOf(format, l[1:], nil), api.OK, "no image")
			h.Promised, h.Accepted = api.Ballot{}, nil
			wantHead(t, format, h, fileOf(format, l[5:], nil), api.OK, "choices alone")
			h = full(late)
			h.Accepted = nil
			wantHead(t, format, h, fileOf(format, slices.Concat(l[:2], l[5:]), nil), api.OK, "no accepts")
			h.Chosen = nil
			wantHead(t, format, h, fileOf(format, l[:2], nil), api.OK, "an image and a promise")
			h.Promised = api.Ballot{}
			wantHead(t, format, h, fileOf(format, l[:1], nil), api.OK, "an image alone")
		}
	}
}

// P20.1: at the limits of states: the greatest numbers, the longest image, and so many records that their number has two bytes, or three.
func TestHeadLimits(t *testing.T) {
	long := strings.Repeat("\xff", longest)
	for format := 1; format <= 2; format++ {
		h := api.Hard{
			Promised: ballotOf(rounds, nodes), Base: indexes - 1, Image: []byte(long),
			Accepted: []api.Entry{{Index: indexes, Ballot: ballotOf(rounds, nodes), Cmd: add}}, Chosen: []api.Entry{{Index: indexes, Cmd: add}},
		}
		l := records(image(indexes-1, long), promise(rounds, nodes), accept(rounds, nodes, indexes, add), chosen(indexes, add))
		b := fileOf(format, l, nil)
		wantHead(t, format, h, b, api.OK, "the greatest numbers")
		wantWhole(t, b, format, l, len(b), "the greatest numbers")
		for _, size := range []int{127, 128, 256, 300, 500} {
			var h api.Hard
			var l []api.Record
			for i := range size {
				h.Chosen = append(h.Chosen, api.Entry{Index: 1 + 3*i, Cmd: put})
				l = append(l, chosen(1+3*i, put))
			}
			b := fileOf(format, l, nil)
			wantHead(t, format, h, b, api.OK, "many choices")
			wantWhole(t, b, format, l, len(b), "many choices")
			wantTorn(t, b[:len(b)-1], "many choices, cut")
		}
	}
}

// spoilers change a valid state to one that is not.
func spoilers() []func(h *api.Hard) {
	return []func(h *api.Hard){
		func(h *api.Hard) { h.Promised.Node = 0 },
		func(h *api.Hard) { h.Promised.Round = rounds + 1 },
		func(h *api.Hard) { h.Promised = api.Ballot{} },
		func(h *api.Hard) { h.Promised = ballotOf(2, 1) },
		func(h *api.Hard) { h.Base = 0 },
		func(h *api.Hard) { h.Base = -4 },
		func(h *api.Hard) { h.Base = 5 },
		func(h *api.Hard) { h.Base = indexes + 1 },
		func(h *api.Hard) { h.Image = nil },
		func(h *api.Hard) { h.Image = make([]byte, longest+1) },
		func(h *api.Hard) { h.Accepted[0].Index = 4 },
		func(h *api.Hard) { h.Accepted[1].Index = 9 },
		func(h *api.Hard) { h.Accepted[1].Ballot = api.Ballot{} },
		func(h *api.Hard) { h.Accepted[1].Ballot = ballotOf(3, 2) },
		func(h *api.Hard) { h.Accepted[1].Cmd = api.Cmd{} },
		func(h *api.Hard) { h.Chosen[0].Index = 4 },
		func(h *api.Hard) { h.Chosen[1].Index = 5 },
		func(h *api.Hard) { h.Chosen[1].Index = indexes + 1 },
		func(h *api.Hard) { h.Chosen[0].Ballot = ballotOf(1, 1) },
		func(h *api.Hard) { h.Chosen[0].Cmd.Key = "/" },
	}
}

// P20.1: ErrVersion for a format that does not exist comes ahead of ErrForm for a state that is not valid, and that ahead of ErrVersion for a command that V1 does not support.
func TestHeadErrors(t *testing.T) {
	for _, late := range []bool{false, true} {
		for _, format := range noFormats {
			wantHead(t, format, full(late), nil, api.ErrVersion, "no format")
			wantHead(t, format, api.Hard{}, nil, api.ErrVersion, "no format")
		}
		for _, spoil := range spoilers() {
			h := full(late)
			spoil(&h)
			for format := 1; format <= 2; format++ {
				wantHead(t, format, h, nil, api.ErrForm, "a state that is not valid")
			}
			for _, format := range noFormats {
				wantHead(t, format, h, nil, api.ErrVersion, "no format, and a state that is not valid")
			}
		}
	}
	wantHead(t, 1, full(true), nil, api.ErrVersion, "an accept of a cas")
	h := api.Hard{Chosen: []api.Entry{{Index: 1, Cmd: put}, {Index: 2, Cmd: cas}, {Index: 3, Cmd: nop}}}
	wantHead(t, 1, h, nil, api.ErrVersion, "a choice of a cas")
	wantHead(t, 2, h, fileOf(2, records(chosen(1, put), chosen(2, cas), chosen(3, nop)), nil), api.OK, "a choice of a cas")
}

// P20.1: a record's frame, written out by hand, and by the definitions for records of all kinds, at all limits.
func TestAdd(t *testing.T) {
	wantAdd(t, 1, promise(2, 3), unhex(t, "0401020300d43f51b1"), api.OK, "a promise")
	wantAdd(t, 2, promise(2, 3), unhex(t, "031102036d239a49"), api.OK, "a promise")
	wantAdd(t, 1, chosen(1, nop), unhex(t, "0a03000001010000000000640b9665"), api.OK, "a choice")
	wantAdd(t, 2, chosen(1, nop), unhex(t, "03130101ecc53d8f"), api.OK, "a choice")
	l := records(promise(rounds, nodes), accept(1, 2, 1, put), accept(rounds, nodes, indexes, activate), chosen(1, add), chosen(indexes, put),
		image(1, "\x00"), image(7, strings.Repeat("i", 127)), image(indexes, strings.Repeat("\xff", longest)))
	for format := 1; format <= 2; format++ {
		for _, x := range append(l, fullRecords(false)...) {
			wantAdd(t, format, x, framed(encoded(format, x)), api.OK, "a record")
		}
	}
	for _, x := range records(accept(3, 1, 9, cas), chosen(9, cas)) {
		wantAdd(t, 2, x, framed(encoded(2, x)), api.OK, "a cas")
		wantAdd(t, 1, x, nil, api.ErrVersion, "a cas")
	}
}

// wrong returns records that are not valid, by their errors of layer 16.
func wrong() map[api.Errno][]api.Record {
	odd := func(x api.Record, change func(x *api.Record)) api.Record {
		change(&x)
		return x
	}
	return map[api.Errno][]api.Record{
		api.ErrKind:  {{}, {Kind: -1}, {Kind: 5, Ballot: ballotOf(1, 1)}, {Kind: 17, Ballot: ballotOf(1, 1)}, {Kind: math.MaxInt}, accept(1, 1, 1, api.Cmd{}), chosen(1, api.Cmd{Kind: 9})},
		api.ErrRange: {promise(0, 0), promise(1, 0), promise(1, 10), promise(rounds+1, 1), accept(0, 0, 1, nop), accept(1, 1, 0, nop), chosen(indexes+1, nop), image(0, "i"), image(-1, "")},
		api.ErrLong:  {image(1, strings.Repeat("i", longest+1)), image(1, strings.Repeat("i", body+1))},
		api.ErrText:  {accept(1, 1, 1, api.Cmd{Kind: api.CmdGet, Client: 1, Seq: 1, Key: "/"}), chosen(1, api.Cmd{Kind: api.CmdPut, Client: 1, Seq: 1, Key: "k", Val: "\xff"})},
		api.ErrForm: {
			image(1, ""), chosen(1, api.Cmd{Kind: api.CmdNop, Node: 1}), odd(promise(1, 1), func(x *api.Record) { x.Index = 1 }),
			odd(chosen(1, cas), func(x *api.Record) { x.Ballot = ballotOf(1, 1) }), odd(image(1, "i"), func(x *api.Record) { x.Cmd = nop }),
		},
	}
}

// P20.1: ErrVersion for a format that does not exist comes ahead of the errors of a record.
func TestAddErrors(t *testing.T) {
	for want, l := range wrong() {
		for _, x := range l {
			for format := 1; format <= 2; format++ {
				wantAdd(t, format, x, nil, want, "a record that is not valid")
			}
			for _, format := range noFormats {
				wantAdd(t, format, x, nil, api.ErrVersion, "no format, and a record that is not valid")
			}
		}
	}
	for _, format := range noFormats {
		for _, x := range fullRecords(true) {
			wantAdd(t, format, x, nil, api.ErrVersion, "no format")
		}
	}
}

// P20.2: a head with one record, followed by a frame that is whole, or not, or nothing; the example of the chapter.
func TestReadExamples(t *testing.T) {
	for format := 1; format <= 2; format++ {
		one, two := promise(2, 1), chosen(1, nop)
		b := fileOf(format, records(one), nil)
		all := fileOf(format, records(one), records(two))
		wantWhole(t, b, format, records(one), len(b), "a head")
		wantWhole(t, all, format, records(one, two), len(all), "a head and a record")
		for size := len(b); size < len(all); size++ {
			wantWhole(t, all[:size], format, records(one), len(b), "a head and a piece of a frame")
		}
		for size := range len(b) {
			wantTorn(t, all[:size], "a piece of a head")
		}
		none := fileOf(format, nil, nil)
		wantRead(t, none, Content{Format: format, Bytes: len(none)}, api.OK, "the head of the empty state")
		wantWhole(t, fileOf(format, nil, records(two, one)), format, records(two, one), len(all), "records behind an empty head")
	}
	c, err := Read(unhex(t, "020201eb40e804"+"031102036d239a49"+"03130101ecc53d8f"))
	if want := (api.Hard{Promised: ballotOf(2, 3), Chosen: []api.Entry{{Index: 1, Cmd: nop}}}); err != api.OK || c.Format != 2 || c.Records != 2 || c.Bytes != 23 || !equalHard(c.Hard, want) {
		t.Errorf("%+v, error %d", c, err)
	}
	c, err = Read(unhex(t, "020100be23c258"+"0401020300d43f51b1"+"03130101ecc53d8f"))
	if want := (api.Hard{Promised: ballotOf(2, 3)}); err != api.OK || c.Format != 1 || c.Records != 1 || c.Bytes != 16 || !equalHard(c.Hard, want) {
		t.Errorf("%+v, error %d", c, err)
	}
}

// P20.2: a first frame that is not two such numbers, whatever follows it.
func TestReadFirstFrame(t *testing.T) {
	for _, behind := range [][]byte{nil, framed(encoded(1, promise(2, 1))), framed(encoded(2, promise(2, 1))), fileOf(1, nil, nil), fileOf(2, nil, nil)} {
		for _, b := range [][]byte{
			{0}, {1}, {2}, {1, 0}, {2, 0}, {0, 1, 0}, {0x80}, {0x80, 0}, {0xff, 0xff, 0xff, 0xff, 0xff, 0xff, 0xff, 0xff, 0xff, 1},
			{2, 1, 0}, {2, 1, 0, 0, 0, 0, 0}, {2, 1, 0, 0xbe, 0x23, 0xc2, 0x59}, {2, 1, 1, 0xbe, 0x23, 0xc2, 0x58}, {0x82, 0, 1, 0, 0xbe, 0x23, 0xc2, 0x58},
			{0, 2, 1, 0, 0xbe, 0x23, 0xc2, 0x58},
		} {
			wantTorn(t, slices.Concat(b, behind), "no frame first")
		}
		for _, s := range []string{
			"00", "01", "02", "0000", "0001", "0300", "0301", "1100", "1200", "8000", "818000", "8101", "8200", "810200", "ff00",
			"0180", "018000", "018100", "0280", "028200", "01ffffffffffffffffff01", "0280808080808080808001", "02ffffffffffffffffff",
			"010000", "010001", "010100", "010101", "020000", "020101", "010002", "01008000", "0200ff", "020061", "01020300", "110203", "81808080800100",
		} {
			wantTorn(t, slices.Concat(framed(unhex(t, s)), behind), "a first frame of other bytes")
		}
		for _, n := range noFormats {
			if n > 0 {
				wantTorn(t, slices.Concat(framed(uints(uint64(n), 0)), behind), "no format")
				wantTorn(t, slices.Concat(framed(uints(uint64(n), 1)), behind), "no format")
			}
		}
		wantTorn(t, slices.Concat(framed(append(uints(1, 0), make([]byte, body-2)...)), behind), "a first frame of many bytes")
	}
	wantTorn(t, nil, "nothing")
	wantTorn(t, []byte{}, "nothing")
}

// P20.2: the number of frames of the head is held against those that there are, however great it is.
func TestReadHeadNumber(t *testing.T) {
	for format := 1; format <= 2; format++ {
		l := fullRecords(format == 2)
		for n := range uint64(20) {
			b := append(framed(uints(uint64(format), n)), fileOf(format, l, nil)[7:]...)
			if n <= uint64(len(l)) {
				wantWhole(t, b, format, l, len(b), "as many records, or more")
			} else {
				wantTorn(t, b, "too few records")
			}
		}
		for _, n := range []uint64{127, 128, 1 << 16, 1 << 31, 1 << 32, 1<<32 + 1, math.MaxInt64 - 1, math.MaxInt64, math.MaxInt64 + 1, math.MaxUint64 - 1, math.MaxUint64} {
			b := append(framed(uints(uint64(format), n)), fileOf(format, l, nil)[7:]...)
			wantTorn(t, b, "far too few records")
			wantTorn(t, framed(uints(uint64(format), n)), "no records")
		}
	}
}

// breaks returns bytes that are not the frame of a record in the format: each as what it begins with is broken, or is not a record there.
func breaks(format int) map[string][]byte {
	good := framed(encoded(format, promise(9, 9)))
	changed := func(at int, by byte) []byte {
		b := slices.Clone(good)
		b[at] ^= by
		return b
	}
	size := len(good)
	m := map[string][]byte{
		"a frame of no bytes": {0}, "a frame of no bytes with its checksum": {0, 0, 0, 0, 0}, "half a length": {0x84}, "a length with a zero byte too many": slices.Concat([]byte{good[0] | 0x80, 0}, good[1:]),
		"a length of ten bytes":                     bytes.Repeat([]byte{0x81}, 10),
		"a length that is too great":                slices.Concat(uints(body+1), make([]byte, body+1), []byte{0, 0, 0, 0}),
		"a length of one byte less":                 changed(0, good[0]^(good[0]-1)),
		"a length of one byte more":                 changed(0, good[0]^(good[0]+1)),
		"a checksum of another first byte":          changed(size-4, 1),
		"a checksum of another last byte":           changed(size-1, 0x80),
		"a body of another first byte":              changed(1, 1),
		"a body of another last byte":               changed(size-5, 1),
		"a frame without its last byte":             good[:size-1],
		"a frame without its checksum":              good[:size-4],
		"a frame of a zero byte":                    framed([]byte{0}),
		"a frame of a kind that does not exist":     framed([]byte{5, 1, 1, 0}),
		"a frame of a kind that does not exist two": framed([]byte{21, 1, 1}),
		"a frame of the zero ballot":                framed([]byte{byte(1 + 16*(format-1)), 0, 0, 0}[:5-format]),
		"a frame of a record and a zero byte":       framed(append(encoded(format, promise(9, 9)), 0)),
		"a frame of two records":                    framed(append(encoded(format, promise(9, 9)), encoded(format, promise(9, 9))...)),
		"a frame of a piece of a record":            framed(encoded(format, promise(9, 9))[:2]),
		"a frame of a record in the other format":   framed(encoded(3-format, promise(9, 9))),
		"a frame of a choice in the other format":   framed(encoded(3-format, chosen(9, nop))),
		"a first frame":                             framed([]byte{byte(format), 0}),
		"a whole file":                              fileOf(format, records(promise(9, 9)), nil),
		"a frame of many zero bytes":                framed(make([]byte, body)),
	}
	if format == 1 {
		m["a frame of a cas as if there were one"] = framed([]byte{3, 0, 0, 9, 5, 1, 1, 1, 'k', 0, 0})
	}
	return m
}

// P20.2: a head in which a frame is not complete, or not a record in the format, is torn; behind the head, reading ends there, though good frames follow.
func TestReadBreaks(t *testing.T) {
	for format := 1; format <= 2; format++ {
		l := fullRecords(format == 2)
		for what, bad := range breaks(format) {
			for head := range len(l) + 1 {
				for at := range len(l) + 1 {
					before := append(framed(uints(uint64(format), uint64(head))), fileOf(format, l[:at], nil)[7:]...)
					behind := fileOf(format, l[at:], nil)[7:]
					for _, b := range [][]byte{slices.Concat(before, bad, behind), slices.Concat(before, bad)} {
						if at < head {
							wantTorn(t, b, what)
						} else {
							wantWhole(t, b, format, l[:at], len(before), what)
						}
					}
				}
			}
		}
	}
}

// P20.2: records count as they stand, in the head too, whether they change the state or not; one that is there twice counts twice.
func TestReadRecords(t *testing.T) {
	l := records(chosen(3, put), promise(3, 1), promise(2, 9), promise(3, 1), accept(4, 1, 2, nop), accept(1, 1, 2, put), chosen(3, nop), image(2, "two"), image(1, "one"), accept(1, 1, 2, put), chosen(1, add), accept(5, 5, 3, put))
	for format := 1; format <= 2; format++ {
		for head := range len(l) + 1 {
			for size := head; size <= len(l); size++ {
				b := fileOf(format, l[:head], l[head:size])
				wantWhole(t, b, format, l[:size], len(b), "records in no order")
			}
		}
		b := fileOf(format, l[:4], l[4:])
		want := api.Hard{Promised: ballotOf(5, 5), Base: 2, Image: []byte("two"), Accepted: []api.Entry{{Index: 3, Ballot: ballotOf(5, 5), Cmd: put}}, Chosen: []api.Entry{{Index: 3, Cmd: put}}}
		wantRead(t, b, Content{Format: format, Hard: want, Records: 12, Bytes: len(b)}, api.OK, "records in no order")
	}
}

// someRecord returns a valid record at random, which the format has.
func someRecord(r *rand.Rand, format int) api.Record {
	index := 1 + r.Intn(1<<r.Intn(6))
	round, node := 1+r.Intn(1<<r.Intn(9)), 1+r.Intn(nodes)
	c := []api.Cmd{nop, put, activate, add, cas}[r.Intn(3+format)]
	switch r.Intn(7) {
	case 0, 1:
		return promise(round, node)
	case 2, 3:
		return accept(round, node, index, c)
	case 4, 5:
		return chosen(index, c)
	}
	return image(1+r.Intn(index), strings.Repeat(string(rune('a'+r.Intn(26))), 1+r.Intn(1<<r.Intn(9))))
}

// someRecords returns valid records at random, which the format has.
func someRecords(r *rand.Rand, format int) []api.Record {
	l := make([]api.Record, r.Intn(12))
	for i := range l {
		l[i] = someRecord(r, format)
	}
	return l
}

// broken returns b, seldom as it is, mostly with some of its bytes changed, taken away or doubled, in up to two places.
func broken(r *rand.Rand, b []byte) []byte {
	b = slices.Clone(b)
	for range r.Intn(3) {
		if len(b) == 0 {
			break
		}
		at := r.Intn(len(b))
		if r.Intn(3) == 0 {
			at = min(at, r.Intn(16))
		}
		to := min(len(b), at+1+r.Intn(6))
		switch r.Intn(6) {
		case 0:
			b[at] ^= 1 << r.Intn(8)
		case 1:
			b = b[:at]
		case 2:
			b = slices.Delete(b, at, to)
		case 3:
			b = slices.Insert(b, at, b[at:to]...)
		case 4:
			clear(b[at:to])
		case 5:
			b = append(b, framed(b[at:to])...)
		}
	}
	return b
}

// P20.1 and P20.2: Head of any state is what the definition says, and with the frames of Add behind it, it is read as the state with these records.
func TestRoundTrip(t *testing.T) {
	r := rand.New(rand.NewSource(20))
	entriesSeen, imagesSeen := 0, 0
	for range 3000 {
		format := 1 + r.Intn(2)
		h := hard.Of(someRecords(r, format))
		head, more := hard.Records(h), someRecords(r, format)
		wantHead(t, format, h, fileOf(format, head, nil), api.OK, "some state")
		b, _ := Head(format, h)
		for i, x := range more {
			wantWhole(t, b, format, slices.Concat(head, more[:i]), len(b), "some state and records")
			wantAdd(t, format, x, framed(encoded(format, x)), api.OK, "some record")
			f, _ := Add(format, x)
			b = append(b, f...)
			h = hard.Apply(h, x)
		}
		wantRead(t, b, Content{Format: format, Hard: h, Records: len(head) + len(more), Bytes: len(b)}, api.OK, "some state and records")
		entriesSeen += len(h.Accepted) + len(h.Chosen)
		imagesSeen += min(h.Base, 1)
	}
	if entriesSeen < 3000 || imagesSeen < 1000 {
		t.Errorf("only %d entries and %d images resulted", entriesSeen, imagesSeen)
	}
}

// P20.2: whatever bytes there are, Read returns what the definitions say.
func TestBroken(t *testing.T) {
	r := rand.New(rand.NewSource(202))
	torn, less, whole := 0, 0, 0
	for range 40000 {
		format := 1 + r.Intn(2)
		b := broken(r, fileOf(format, someRecords(r, format), someRecords(r, format)))
		want, err := content(b)
		wantRead(t, b, want, err, "broken")
		switch {
		case err != api.OK:
			torn++
		case want.Bytes < len(b):
			less++
		default:
			whole++
		}
	}
	if torn < 5000 || less < 5000 || whole < 5000 {
		t.Errorf("only %d files were torn, %d were read in part, and %d were read whole", torn, less, whole)
	}
}

// P20.2: short first frames whose checksum is right, of format numbers and others, are what the definitions say.
func TestReadFewBytes(t *testing.T) {
	for format := 1; format <= 2; format++ {
		behind := fileOf(format, fullRecords(false), nil)[7:]
		for n := range 1 << 16 {
			b := []byte{byte(n), byte(n >> 8), byte(n % 7)}
			if b[0] > 3 && b[1] > 3 {
				continue
			}
			for size := 1; size <= len(b); size++ {
				f := slices.Concat(framed(b[:size]), behind)
				got, err := Read(f)
				if want, e := content(f); !equal(got, want) || err != e {
					t.Fatalf("Read(%x) = %+v, error %d, want %+v, error %d", f, got, err, want, e)
				}
			}
		}
	}
}

// P20.3: a file that is truncated anywhere is read as that after some of its records, those of the head at least; if its head is truncated, nothing is read.
func TestTruncated(t *testing.T) {
	r := rand.New(rand.NewSource(203))
	for range 400 {
		format := 1 + r.Intn(2)
		h := hard.Of(someRecords(r, format))
		b, err := Head(format, h)
		if err != api.OK {
			t.Fatalf("Head(%d, %+v): error %d", format, h, err)
		}
		head := len(hard.Records(h))
		states, ends := []api.Hard{h}, []int{len(b)}
		for _, x := range someRecords(r, format) {
			f, err := Add(format, x)
			if err != api.OK {
				t.Fatalf("Add(%d, %+v): error %d", format, x, err)
			}
			b = append(b, f...)
			h = hard.Apply(h, x)
			states, ends = append(states, h), append(ends, len(b))
		}
		done := 0
		for size := range len(b) + 1 {
			if size < ends[0] {
				wantRead(t, b[:size], Content{}, api.ErrTorn, "a truncated head")
				continue
			}
			if done+1 < len(ends) && size == ends[done+1] {
				done++
			}
			want := Content{Format: format, Hard: states[done], Records: head + done, Bytes: ends[done]}
			wantRead(t, b[:size], want, api.OK, "a truncated file")
		}
		if done+1 != len(ends) {
			t.Fatalf("only %d of %d records were read", done, len(ends)-1)
		}
	}
}

// P20.3: what a truncated file is read as goes on with the frames that are added at the position where its records end.
func TestGoOn(t *testing.T) {
	for format := 1; format <= 2; format++ {
		l := fullRecords(format == 2)
		b := fileOf(format, l[:2], l[2:])
		for size := range len(b) + 1 {
			c, err := Read(b[:size])
			if err != api.OK {
				continue
			}
			f, _ := Add(format, promise(9, 9))
			went := slices.Concat(b[:c.Bytes], f)
			wantWhole(t, went, format, append(slices.Clone(l[:c.Records]), promise(9, 9)), len(went), "a file that goes on")
			if size > c.Bytes {
				wantRead(t, slices.Concat(b[:size], f), c, api.OK, "a record behind a piece of a frame")
			}
		}
	}
}

// General rule 3: what was read does not change with the bytes that it was read from, nor do two answers share memory.
func TestMemory(t *testing.T) {
	for format := 1; format <= 2; format++ {
		b := fileOf(format, fullRecords(false), nil)
		one, _ := Read(b)
		two, _ := Read(b)
		clear(b)
		if !equalHard(one.Hard, full(false)) {
			t.Fatal("what was read changes with the bytes")
		}
		clear(one.Hard.Image[:cap(one.Hard.Image)])
		clear(one.Hard.Accepted[:cap(one.Hard.Accepted)])
		clear(one.Hard.Chosen[:cap(one.Hard.Chosen)])
		if !equalHard(two.Hard, full(false)) {
			t.Fatal("two answers share memory")
		}
		first, _ := Head(format, full(false))
		second, _ := Head(format, full(false))
		clear(first[:cap(first)])
		if !bytes.Equal(second, fileOf(format, fullRecords(false), nil)) {
			t.Fatal("two heads share memory")
		}
	}
}

// P20.2: a long file is read in little time.
func TestReadMany(t *testing.T) {
	for format := 1; format <= 2; format++ {
		var l []api.Record
		for i := range 10000 {
			l = append(l, accept(1+i, 1, 1+i, put), chosen(1+i, put))
			if i%100 == 99 {
				l = append(l, image(1+i, "image"))
			}
		}
		b := fileOf(format, nil, l)
		wantWhole(t, b, format, l, len(b), "a long file")
	}
}
