package cmd

import (
	"bytes"
	"encoding/binary"
	"encoding/hex"
	"fmt"
	"math"
	"math/rand"
	"regexp"
	"slices"
	"strconv"
	"strings"
	"testing"

	"changeover/api"
	"changeover/pack"
	"changeover/quote"
	"changeover/runes"
)

// shapes: the word of each kind, and the fields that it has, in their order, written out from the definitions.
var shapes = map[int]struct{ word, has string }{
	api.CmdNop:      {"nop", ""},
	api.CmdPut:      {"put", "Client Seq Key Val"},
	api.CmdGet:      {"get", "Client Seq Key"},
	api.CmdDel:      {"del", "Client Seq Key"},
	api.CmdCas:      {"cas", "Client Seq Key Old Val"},
	api.CmdActivate: {"activate", ""},
	api.CmdAdd:      {"add", "Node"},
	api.CmdDrop:     {"drop", "Node"},
}

// flat: what an encoding in V1 has behind the kind.
const flat = "Client Seq Key Val Node"

// The greatest valid strings, and those that are one byte longer.
var (
	key24 = strings.Repeat("k", 24)
	key25 = strings.Repeat("k", 25)
	val48 = strings.Repeat("v", 48)
	val49 = strings.Repeat("v", 49)
)

// field returns a field of c by its name.
func field(c api.Cmd, name string) any {
	return map[string]any{"Client": c.Client, "Seq": c.Seq, "Node": c.Node, "Key": c.Key, "Old": c.Old, "Val": c.Val}[name]
}

// set fills a field of c by its name.
func set(c *api.Cmd, name string, value any) {
	switch name {
	case "Client":
		c.Client = value.(int)
	case "Seq":
		c.Seq = value.(int)
	case "Node":
		c.Node = value.(int)
	case "Key":
		c.Key = value.(string)
	case "Old":
		c.Old = value.(string)
	case "Val":
		c.Val = value.(string)
	}
}

// wrong returns the error of one field that a kind has, by the definitions.
func wrong(c api.Cmd, name string) api.Errno {
	most := map[string]int{"Client": api.MaxClients, "Seq": api.MaxSeq, "Node": api.MaxNodes}[name]
	switch value := field(c, name).(type) {
	case int:
		if value < 1 || value > most {
			return api.ErrRange
		}
	case string:
		if name == "Key" && !runes.Key(value) || name != "Key" && !runes.Val(value) {
			return api.ErrText
		}
	}
	return api.OK
}

// checked returns the error of c, by the definitions.
func checked(c api.Cmd) api.Errno {
	shape, is := shapes[c.Kind]
	if !is {
		return api.ErrKind
	}
	rest, errs := c, map[api.Errno]bool{}
	for _, name := range strings.Fields(shape.has) {
		errs[wrong(c, name)] = true
		switch field(c, name).(type) {
		case int:
			set(&rest, name, 0)
		case string:
			set(&rest, name, "")
		}
	}
	switch {
	case errs[api.ErrRange]:
		return api.ErrRange
	case errs[api.ErrText]:
		return api.ErrText
	case rest != api.Cmd{Kind: c.Kind}:
		return api.ErrForm
	}
	return api.OK
}

// layout returns the names of the fields that stand in an encoding.
func layout(v, kind int) []string {
	if v == 1 {
		return strings.Fields(flat)
	}
	return strings.Fields(shapes[kind].has)
}

// bytesOf returns the encoding of c, by the definitions.
func bytesOf(v int, c api.Cmd) []byte {
	number := func(b []byte, n int) []byte { return binary.AppendUvarint(b, uint64(max(n, 0))) }
	b := number(nil, c.Kind)
	for _, name := range layout(v, c.Kind) {
		switch value := field(c, name).(type) {
		case int:
			b = number(b, value)
		case string:
			b = append(number(b, len(value)), value...)
		}
	}
	return b
}

// textOf returns the text of a valid command, by the definitions.
func textOf(c api.Cmd) string {
	s := shapes[c.Kind].word
	for _, name := range strings.Fields(shapes[c.Kind].has) {
		switch value := field(c, name).(type) {
		case int:
			s += " " + fmt.Sprint(value)
		case string:
			s += " " + quote.Quote(value)
		}
	}
	return s
}

// encodedIn returns the error of encoding c in v, by the definitions.
func encodedIn(v int, c api.Cmd) api.Errno {
	if v != 1 && v != 2 {
		return api.ErrVersion
	}
	if err := checked(c); err != api.OK {
		return err
	}
	if v == 1 && c.Kind == api.CmdCas {
		return api.ErrVersion
	}
	return api.OK
}

// eachOf calls f with every command whose fields are among those given.
func eachOf(kinds, clients, seqs, nodes []int, keys, vals []string, f func(c api.Cmd)) {
	for _, kind := range kinds {
		for _, client := range clients {
			for _, seq := range seqs {
				for _, node := range nodes {
					for _, key := range keys {
						for _, old := range vals {
							for _, val := range vals {
								f(api.Cmd{Kind: kind, Client: client, Seq: seq, Node: node, Key: key, Old: old, Val: val})
							}
						}
					}
				}
			}
		}
	}
}

// each calls f with commands of every kind, and of none, whose fields are absent, valid or not in every combination.
func each(f func(c api.Cmd)) {
	kinds := []int{-1, 0, 1, 2, 3, 4, 5, 6, 7, 8, 9}
	eachOf(kinds, []int{0, 1, 9}, []int{0, 1, api.MaxSeq + 1}, []int{0, 9, 10}, []string{"", "k", "a/b"}, []string{"", "v", "\n"}, f)
}

// valids returns commands of every kind, all of them valid, at the limits of every field.
func valids() []api.Cmd {
	var l []api.Cmd
	kinds := []int{1, 2, 3, 4, 5, 6, 7, 8}
	eachOf(kinds, []int{0, 1, 8}, []int{0, 1, 300, api.MaxSeq}, []int{0, 1, 9}, []string{"", "k", key24, "é:1"}, []string{"", "v", `a "b" \`, val48}, func(c api.Cmd) {
		if checked(c) == api.OK {
			l = append(l, c)
		}
	})
	return l
}

// put12 is the command of the chapter's examples.
var put12 = api.Cmd{Kind: api.CmdPut, Client: 1, Seq: 2, Key: "k", Val: "v"}

// of returns c with one field changed.
func of(c api.Cmd, name string, value any) api.Cmd {
	set(&c, name, value)
	return c
}

// P8.1: every field that a kind has, at its limits and beyond them.
func TestCheckFields(t *testing.T) {
	edges := map[string][]struct {
		value any
		want  api.Errno
	}{
		"Client": {{1, api.OK}, {8, api.OK}, {0, api.ErrRange}, {9, api.ErrRange}, {-1, api.ErrRange}, {math.MinInt, api.ErrRange}, {math.MaxInt, api.ErrRange}, {1<<32 + 1, api.ErrRange}},
		"Seq":    {{1, api.OK}, {1 << 32, api.OK}, {0, api.ErrRange}, {1<<32 + 1, api.ErrRange}, {-1, api.ErrRange}, {math.MinInt, api.ErrRange}, {math.MaxInt, api.ErrRange}},
		"Node":   {{1, api.OK}, {9, api.OK}, {0, api.ErrRange}, {10, api.ErrRange}, {-1, api.ErrRange}, {math.MinInt, api.ErrRange}, {math.MaxInt, api.ErrRange}},
		"Key":    {{"k", api.OK}, {key24, api.OK}, {"é:1", api.OK}, {"", api.ErrText}, {key25, api.ErrText}, {"a/b", api.ErrText}, {"\xff", api.ErrText}, {"a b", api.ErrText}},
		"Old":    {{"", api.OK}, {val48, api.OK}, {"a b/", api.OK}, {val49, api.ErrText}, {"\n", api.ErrText}, {"\xff", api.ErrText}, {"\x7f", api.ErrText}},
		"Val":    {{"", api.OK}, {val48, api.OK}, {"a b/", api.OK}, {val49, api.ErrText}, {"\n", api.ErrText}, {"\xff", api.ErrText}, {"\x7f", api.ErrText}},
	}
	for kind, shape := range shapes {
		whole := api.Cmd{Kind: kind}
		for _, name := range strings.Fields(shape.has) {
			set(&whole, name, edges[name][0].value)
		}
		for name, l := range edges {
			for _, edge := range l {
				c, want := of(whole, name, edge.value), edge.want
				if !strings.Contains(shape.has, name) {
					want = api.ErrForm
					if edge.value == 0 || edge.value == "" {
						want = api.OK
					}
				}
				if got := Check(c); got != want {
					t.Errorf("Check(%+v) = %d, want %d", c, got, want)
				}
			}
		}
	}
}

// P8.1: ErrKind, ErrRange, ErrText and ErrForm come in this order.
func TestCheckOrder(t *testing.T) {
	for _, x := range []struct {
		c    api.Cmd
		want api.Errno
	}{
		{put12, api.OK},
		{api.Cmd{}, api.ErrKind},
		{api.Cmd{Kind: 9, Client: 9, Key: "/", Node: 3}, api.ErrKind},
		{of(of(of(put12, "Seq", 0), "Key", "/"), "Node", 3), api.ErrRange},
		{of(of(of(put12, "Client", 9), "Val", "\n"), "Old", "o"), api.ErrRange},
		{of(of(put12, "Key", "/"), "Node", 3), api.ErrText},
		{of(of(put12, "Val", "\n"), "Old", "o"), api.ErrText},
		{of(put12, "Node", 3), api.ErrForm},
		{of(put12, "Node", -1), api.ErrForm},
		{of(put12, "Old", "\n"), api.ErrForm},
		{api.Cmd{Kind: api.CmdCas, Client: 1, Seq: 1, Key: "k", Old: "\n", Node: 1}, api.ErrText},
		{api.Cmd{Kind: api.CmdGet, Client: 1, Seq: 1, Key: "k", Val: "\n"}, api.ErrForm},
		{api.Cmd{Kind: api.CmdDel, Client: 1, Seq: 1, Key: "k", Val: "v"}, api.ErrForm},
		{api.Cmd{Kind: api.CmdNop, Client: -1}, api.ErrForm},
		{api.Cmd{Kind: api.CmdActivate, Seq: api.MaxSeq + 1}, api.ErrForm},
		{api.Cmd{Kind: api.CmdAdd, Node: 10, Client: 1, Key: "/"}, api.ErrRange},
		{api.Cmd{Kind: api.CmdDrop, Node: 9, Client: 99, Key: "/"}, api.ErrForm},
	} {
		if got := Check(x.c); got != x.want {
			t.Errorf("Check(%+v) = %d, want %d", x.c, got, x.want)
		}
	}
}

// P8.1: the fields in every combination; no kinds but the eight.
func TestCheckEach(t *testing.T) {
	each(func(c api.Cmd) {
		if got, want := Check(c), checked(c); got != want {
			t.Fatalf("Check(%+v) = %d, want %d", c, got, want)
		}
	})
	for _, kind := range []int{math.MinInt, -1 << 32, -8, -1, 0, 9, 10, 258, 1<<32 + 1, 1<<32 + 2, math.MaxInt} {
		for _, c := range []api.Cmd{{}, put12, {Node: 1}} {
			c.Kind = kind
			if got := Check(c); got != api.ErrKind {
				t.Errorf("Check(%+v) = %d, want ErrKind", c, got)
			}
		}
	}
}

// P8.1: the kind alone tells whether commands are owned.
func TestOwned(t *testing.T) {
	owned := map[int]bool{api.CmdPut: true, api.CmdGet: true, api.CmdDel: true, api.CmdCas: true}
	for kind := -20; kind <= 300; kind++ {
		for _, c := range []api.Cmd{{}, put12, {Client: 9}, {Node: 3}, {Client: -1, Key: "/"}} {
			c.Kind = kind
			if got := Owned(c); got != owned[kind] {
				t.Errorf("Owned(%+v) = %v", c, got)
			}
		}
	}
	for _, kind := range []int{math.MinInt, math.MaxInt, 1<<32 + 2, -1<<32 + 2, -2} {
		if Owned(api.Cmd{Kind: kind, Client: 1}) {
			t.Errorf("kind %d is owned", kind)
		}
	}
}

// P8.2: the examples of the chapter, and one command of each kind, in both versions.
func TestEncode(t *testing.T) {
	for _, x := range []struct {
		c      api.Cmd
		v1, v2 string
	}{
		{put12, "020102016b017600", "02010201" + "6b" + "0176"},
		{api.Cmd{Kind: api.CmdNop}, "010000000000", "01"},
		{api.Cmd{Kind: api.CmdGet, Client: 8, Seq: 300, Key: "k"}, "0308ac02016b0000", "0308ac02016b"},
		{api.Cmd{Kind: api.CmdDel, Client: 8, Seq: 1, Key: "é"}, "04080102c3a90000", "04080102c3a9"},
		{api.Cmd{Kind: api.CmdCas, Client: 1, Seq: 3, Key: "k", Old: "ab", Val: "v"}, "", "050103016b0261620176"},
		{api.Cmd{Kind: api.CmdCas, Client: 1, Seq: 3, Key: "k", Old: "a"}, "", "050103016b016100"},
		{api.Cmd{Kind: api.CmdActivate}, "060000000000", "06"},
		{api.Cmd{Kind: api.CmdAdd, Node: 9}, "070000000009", "0709"},
		{api.Cmd{Kind: api.CmdDrop, Node: 1}, "080000000001", "0801"},
		{api.Cmd{Kind: api.CmdPut, Client: 1, Seq: api.MaxSeq, Key: "k"}, "02018080808010016b0000", "02018080808010016b00"},
	} {
		for v, want := range map[int]string{1: x.v1, 2: x.v2} {
			b, err := Encode(v, x.c)
			if want == "" {
				if b != nil || err != api.ErrVersion {
					t.Errorf("Encode(%d, %+v) = %x, %d, want ErrVersion", v, x.c, b, err)
				}
				continue
			}
			if hex.EncodeToString(b) != want || err != api.OK {
				t.Errorf("Encode(%d, %+v) = %x, %d, want %s", v, x.c, b, err, want)
			}
			if c, err := Decode(v, b); c != x.c || err != api.OK {
				t.Errorf("Decode(%d, %x) = %+v, %d, want %+v", v, b, c, err, x.c)
			}
		}
	}
}

// P8.2: what is no version comes ahead of the error of Check, and that ahead of a kind that the version does not support.
func TestEncodeErrors(t *testing.T) {
	for _, v := range []int{math.MinInt, -1, 0, 1, 2, 3, 257, 1<<32 + 1, math.MaxInt} {
		each(func(c api.Cmd) {
			b, err := Encode(v, c)
			if want := encodedIn(v, c); err != want || (err != api.OK && b != nil) || (err == api.OK && !bytes.Equal(b, bytesOf(v, c))) {
				t.Fatalf("Encode(%d, %+v) = %x, %d, want error %d", v, c, b, err, want)
			}
		})
	}
}

// odd returns commands that are not valid, and have fields that their kinds do not have.
func odd() []api.Cmd {
	var l []api.Cmd
	for _, kind := range []int{0, 1, 2, 3, 4, 5, 6, 7, 8, 9, 300, math.MaxInt} {
		l = append(l,
			api.Cmd{Kind: kind},
			api.Cmd{Kind: kind, Client: 300, Seq: math.MaxInt, Key: "a/b\n", Old: "\xff", Val: val49, Node: 77},
			api.Cmd{Kind: kind, Client: 1, Seq: 1, Key: strings.Repeat("k", 5000), Old: "o", Val: strings.Repeat("\x00", 300), Node: 1},
		)
	}
	return l
}

// P8.2: Put writes whatever it is given, behind what was written before; negative numbers as the packing does.
func TestPut(t *testing.T) {
	l := odd()
	l = append(l, api.Cmd{Kind: -2, Client: -1, Key: "k"}, of(of(put12, "Client", -1), "Seq", math.MinInt), api.Cmd{Kind: api.CmdAdd, Node: -9})
	each(func(c api.Cmd) { l = append(l, c) })
	for _, c := range l {
		for v := 1; v <= 2; v++ {
			var w pack.Writer
			w.Text("ahead")
			Put(&w, v, c)
			w.Flag(true)
			want := slices.Concat([]byte("\x05ahead"), bytesOf(v, c), []byte{1})
			if got := w.Bytes(); !bytes.Equal(got, want) {
				t.Fatalf("Put(%d, %+v) writes %x, want %x", v, c, got, want)
			}
		}
	}
}

// P8.2: there is no encoding in what is no version, and nothing is written to, or read from, nil.
func TestPutGetNone(t *testing.T) {
	for _, v := range []int{math.MinInt, -1, 0, 3, 257, math.MaxInt} {
		var w pack.Writer
		Put(&w, v, put12)
		if got := w.Bytes(); len(got) != 0 {
			t.Errorf("Put(%d) writes %x", v, got)
		}
		r := pack.NewReader(bytesOf(2, put12))
		if got := Get(r, v); got != (api.Cmd{}) || r.Err() != api.OK {
			t.Errorf("Get(%d) = %+v, error %d", v, got, r.Err())
		}
		if got := Get(r, 2); got != put12 || r.Done() != api.OK {
			t.Errorf("Get(2) after Get(%d) = %+v, error %d", v, got, r.Done())
		}
	}
	for v := -1; v <= 3; v++ {
		Put(nil, v, put12)
		if got := Get(nil, v); got != (api.Cmd{}) {
			t.Errorf("Get(nil, %d) = %+v", v, got)
		}
	}
}

// only returns c with those fields alone that stand in its encoding.
func only(v int, c api.Cmd) api.Cmd {
	rest := api.Cmd{Kind: c.Kind}
	for _, name := range layout(v, c.Kind) {
		set(&rest, name, field(c, name))
	}
	return rest
}

// P8.2: Get reads what was written, one command after the other, valid or not, and goes not a byte further.
func TestGet(t *testing.T) {
	for v := 1; v <= 2; v++ {
		var w pack.Writer
		l := slices.Concat(odd(), valids())
		for _, c := range l {
			Put(&w, v, c)
			w.Text("behind")
		}
		r := pack.NewReader(w.Bytes())
		for _, c := range l {
			if got := Get(r, v); got != only(v, c) || r.Err() != api.OK {
				t.Fatalf("Get(%d) = %+v, error %d, want %+v", v, got, r.Err(), only(v, c))
			}
			if got := r.Text(6); got != "behind" {
				t.Fatalf("after %+v: %q, error %d", c, got, r.Err())
			}
		}
		if err := r.Done(); err != api.OK {
			t.Fatalf("Done() = %d", err)
		}
	}
}

// P8.2: Get keeps to what the reader tells: its errors stay in it.
func TestGetErrors(t *testing.T) {
	for v := 1; v <= 2; v++ {
		for _, c := range odd() {
			b := bytesOf(v, c)
			for size := range min(len(b), 400) {
				r := pack.NewReader(b[:size])
				Get(r, v)
				if r.Err() != api.ErrShort {
					t.Fatalf("Get(%d) of %d bytes of %+v: error %d", v, size, c, r.Err())
				}
				if got := Get(r, v); got != (api.Cmd{}) || r.Err() != api.ErrShort {
					t.Fatalf("Get(%d) after an error: %+v, error %d", v, got, r.Err())
				}
			}
		}
		r := pack.NewReader([]byte{2, 0x80, 0, 1, 1, 'k', 0, 0})
		if Get(r, v); r.Err() != api.ErrForm {
			t.Errorf("Get(%d) of a number that is none: error %d", v, r.Err())
		}
	}
}

// wantDecode fails the test unless Decode returns this command, or this error and nothing.
func wantDecode(t *testing.T, v int, b []byte, want api.Cmd, err api.Errno) {
	t.Helper()
	before := slices.Clone(b)
	c, got := Decode(v, b)
	if c != want || got != err {
		t.Fatalf("Decode(%d, %x) = %+v, %d, want %+v, %d", v, b, c, got, want, err)
	}
	if !bytes.Equal(b, before) {
		t.Fatalf("Decode(%d) changed %x to %x", v, before, b)
	}
}

// P8.2: the errors of Decode, in their order.
func TestDecodeErrors(t *testing.T) {
	for _, x := range []struct {
		v   int
		b   string
		err api.Errno
	}{
		{0, "", api.ErrVersion},
		{3, "01", api.ErrVersion},
		{-1, "8000", api.ErrVersion},
		{math.MaxInt, "020102016b0176", api.ErrVersion},
		{1, "", api.ErrShort},
		{2, "", api.ErrShort},
		{2, "02", api.ErrShort},
		{2, "0209", api.ErrShort},           // a client that is not valid, too
		{2, "0201020a6b0176", api.ErrShort}, // a key of ten bytes
		{1, "01", api.ErrShort},
		{1, "020102016b0176", api.ErrShort},
		{2, "8100", api.ErrForm},
		{2, "020182006b0176", api.ErrForm},
		{2, "020102016b017600", api.ErrForm},
		{2, "010000000000", api.ErrForm},
		{1, "01000000000000", api.ErrForm},
		{2, "0000", api.ErrForm}, // a kind that does not exist has no fields, so that a byte is left
		{2, "0901", api.ErrForm},
		{1, "0900000000000000", api.ErrForm},
		{2, "00", api.ErrKind},
		{2, "09", api.ErrKind},
		{2, "ac02", api.ErrKind},
		{1, "000000000000", api.ErrKind},
		{1, "090909012f010a09", api.ErrKind},
		{2, "ffffffffffffffff7f", api.ErrKind},
		{2, "ffffffffffffffffff01", api.ErrForm}, // a number beyond Go's
		{2, "020902016b0176", api.ErrRange},
		{2, "020002012f010a", api.ErrRange},
		{2, "020100016b0176", api.ErrRange},
		{2, "02018180808010016b0176", api.ErrRange},
		{2, "0201ffffffffffffffff7f016b0176", api.ErrRange},
		{2, "0700", api.ErrRange},
		{2, "070a", api.ErrRange},
		{1, "070000000000", api.ErrRange},
		{1, "050103016b010a0a", api.ErrText}, // the kind is not supported either
		{1, "050003016b0000", api.ErrRange},
		{2, "02010200" + "0176", api.ErrText},
		{2, "020102012f0176", api.ErrText},
		{2, "02010219" + strings.Repeat("6b", 25) + "0176", api.ErrText},
		{2, "020102016b010a", api.ErrText},
		{2, "020102016b31" + strings.Repeat("76", 49), api.ErrText},
		{2, "050103016b010a0176", api.ErrText},
		{1, "010100000000", api.ErrForm},
		{1, "010001000000", api.ErrForm},
		{1, "010000016b0000", api.ErrForm},
		{1, "01000000017600", api.ErrForm},
		{1, "010000000001", api.ErrForm},
		{1, "030102016b017600", api.ErrForm},
		{1, "020102016b017601", api.ErrForm},
		{1, "070100000009", api.ErrForm},
		{1, "050103016b017601", api.ErrForm},
		{1, "050103016b017600", api.ErrVersion},
	} {
		b, err := hex.DecodeString(x.b)
		if err != nil {
			t.Fatal(err)
		}
		wantDecode(t, x.v, b, api.Cmd{}, x.err)
	}
	wantDecode(t, 1, nil, api.Cmd{}, api.ErrShort)
}

// P8.2: less than an encoding is too short, more is left over; no encoding is one in what is no version.
func TestDecodeCut(t *testing.T) {
	for _, c := range valids() {
		for v := 1; v <= 2; v++ {
			b := bytesOf(v, c)
			for size := range b {
				wantDecode(t, v, b[:size], api.Cmd{}, api.ErrShort)
			}
			for _, more := range []byte{0, 1, 0x80, 0xff} {
				wantDecode(t, v, append(slices.Clone(b), more), api.Cmd{}, api.ErrForm)
			}
			wantDecode(t, v-2, b, api.Cmd{}, api.ErrVersion)
			wantDecode(t, v+2, b, api.Cmd{}, api.ErrVersion)
		}
	}
}

// decoded returns what Decode is to return, by the definitions.
func decoded(v int, b []byte) (api.Cmd, api.Errno) {
	if v != 1 && v != 2 {
		return api.Cmd{}, api.ErrVersion
	}
	r := pack.NewReader(b)
	c := api.Cmd{Kind: r.Number(math.MaxInt)}
	for _, name := range layout(v, c.Kind) {
		switch field(c, name).(type) {
		case int:
			set(&c, name, r.Number(math.MaxInt))
		case string:
			set(&c, name, r.Text(math.MaxInt))
		}
	}
	if err := r.Done(); err != api.OK {
		return api.Cmd{}, err
	}
	if err := encodedIn(v, c); err != api.OK {
		return api.Cmd{}, err
	}
	return c, api.OK
}

// P8.2: all sequences of up to three bytes, and broken encodings, are what the definitions say.
func TestDecodeBroken(t *testing.T) {
	for n := range 1 << 24 {
		if n>>16 > 9 && n>>16 < 0x80 {
			continue
		}
		b := []byte{byte(n >> 16), byte(n >> 8), byte(n)}
		if v := 1 + n&1; n>>16 < 10 {
			want, err := decoded(v, b)
			wantDecode(t, v, b, want, err)
		} else if _, err := Decode(v, b); err == api.OK {
			t.Fatalf("Decode(%d, %x) is OK", v, b)
		}
	}
	for n := range 1 << 16 {
		for _, b := range [][]byte{{byte(n >> 8), byte(n)}, {byte(n)}} {
			for v := 1; v <= 2; v++ {
				want, err := decoded(v, b)
				wantDecode(t, v, b, want, err)
			}
		}
	}
	l := valids()
	random := rand.New(rand.NewSource(8))
	for range 200000 {
		v := 1 + random.Intn(2)
		b := bytesOf(1+random.Intn(2), l[random.Intn(len(l))])
		for range 1 + random.Intn(3) {
			b[random.Intn(len(b))] = byte(random.Intn(256) >> random.Intn(8))
		}
		want, err := decoded(v, b)
		wantDecode(t, v, b, want, err)
	}
}

// P8.3: the examples of the chapter, and commands of every kind.
func TestTextParse(t *testing.T) {
	for s, c := range map[string]api.Cmd{
		`put 1 2 "k" "v"`:           put12,
		`put 8 4294967296 "é:1" ""`: {Kind: api.CmdPut, Client: 8, Seq: api.MaxSeq, Key: "é:1"},
		`put 1 1 "k" "a \"b\" \\"`:  {Kind: api.CmdPut, Client: 1, Seq: 1, Key: "k", Val: `a "b" \`},
		`put 1 1 "k" " "`:           {Kind: api.CmdPut, Client: 1, Seq: 1, Key: "k", Val: " "},
		`get 3 10 "k"`:              {Kind: api.CmdGet, Client: 3, Seq: 10, Key: "k"},
		`del 4 11 "k"`:              {Kind: api.CmdDel, Client: 4, Seq: 11, Key: "k"},
		`cas 1 3 "k" "a" ""`:        {Kind: api.CmdCas, Client: 1, Seq: 3, Key: "k", Old: "a"},
		`cas 1 3 "k" "" "b"`:        {Kind: api.CmdCas, Client: 1, Seq: 3, Key: "k", Val: "b"},
		`cas 1 3 "k" "a b" "c d"`:   {Kind: api.CmdCas, Client: 1, Seq: 3, Key: "k", Old: "a b", Val: "c d"},
		`nop`:                       {Kind: api.CmdNop},
		`activate`:                  {Kind: api.CmdActivate},
		`add 9`:                     {Kind: api.CmdAdd, Node: 9},
		`drop 1`:                    {Kind: api.CmdDrop, Node: 1},
		`get 1 1 "` + key24 + `"`:   {Kind: api.CmdGet, Client: 1, Seq: 1, Key: key24},
		"put 1 1 \"k\" \"\u0080\"":  {Kind: api.CmdPut, Client: 1, Seq: 1, Key: "k", Val: "\u0080"},
	} {
		if got := Text(c); got != s {
			t.Errorf("Text(%+v) = %q, want %q", c, got, s)
		}
		if got, err := Parse(s); got != c || err != api.OK {
			t.Errorf("Parse(%q) = %+v, %d, want %+v", s, got, err, c)
		}
	}
}

// P8.3: a command that is not valid has no text.
func TestTextNone(t *testing.T) {
	for _, c := range odd() {
		if got := Text(c); checked(c) != api.OK && got != "" {
			t.Errorf("Text(%+v) = %q", c, got)
		}
	}
	each(func(c api.Cmd) {
		want := ""
		if checked(c) == api.OK {
			want = textOf(c)
		}
		if got := Text(c); got != want {
			t.Fatalf("Text(%+v) = %q, want %q", c, got, want)
		}
	})
}

// P8.3: the examples of the chapter, and other strings that are no text.
func TestParseNone(t *testing.T) {
	for _, s := range []string{
		``, ` `, `put`, `add 0`, `add 1 2`, `get 1 1 k`, `get 01 1 "k"`,
		`"nop"`, `Nop`, `NOP`, `no`, `nopp`, `nop `, ` nop`, "nop\n", `nop nop`, `nop 0`, `nop ""`, `noop`, `set 1 1 "k" "v"`, `0`, `1`, `""`, `"`, `activate 1`, `activate ""`,
		`add`, `add `, `add 10`, `add -1`, `add +1`, `add 01`, `add 1.`, `add 1 `, `add  1`, `add "1"`, `add x`, `add 0x1`, `add 1_0`, `add 1_`, `add ١`, `drop 0`, `drop 10`, `drop`, `drop 1 1`,
		`add 18446744073709551617`, `add 99999999999999999999999`, `add 9223372036854775807`, `add -9223372036854775808`, `drop 4294967297`,
		`put 1 2 "k"`, `put 1 2 "k" "v" ""`, `put 1 2 "k" "v" 0`, `put 1 2 "k" "v" `, `put 1 2 "k"  "v"`, `put 1 2 "k""v"`, `put 1 2 k "v"`, `put 1 2 "k" v`, `put 1 2 "v" "k`,
		`put 0 2 "k" "v"`, `put 9 2 "k" "v"`, `put 1 0 "k" "v"`, `put 1 4294967297 "k" "v"`, `put 1 18446744073709551618 "k" "v"`, `put -1 2 "k" "v"`, `put +1 2 "k" "v"`, `put 1 +2 "k" "v"`, `put 1 02 "k" "v"`,
		`put "1" 2 "k" "v"`, `put 1 "2" "k" "v"`, `put 1 "k" "v"`, `put "k" "v"`, `put 1 2 "" "v"`, `put 1 2 "a/b" "v"`, `put 1 2 "a b" "v"`, `put 1 2 "` + key25 + `" "v"`, `put 1 2 "k" "` + val49 + `"`,
		`put 1 2 "k" "\x0a"`, `put 1 2 "k" "\xff"`, `put 1 2 "\x6b" "v"`, `put 1 2 "k" "\x76"`, "put 1 2 \"k\" \"\n\"", "put 1 2 \"k\" \"\xff\"", `put 1 2 "k" "\v"`, `put 1 2 "k" "a"b"`,
		`get 1 1`, `get 1 1 "k" "v"`, `get 1 1 ""`, `get 1 1 "k`, `get 1 1 k"`, `del 1 1`, `del 1 1 "k" ""`, `del 1 1 k`, `get 1 1 "k" 1`, `get "k"`,
		`cas 1 3 "k" "a"`, `cas 1 3 "k" "a" "" ""`, `cas 1 3 "k"`, `cas 1 3 "k" a ""`, `cas 1 3 "k" "a" b`, `cas 1 3 "k" "\x0a" ""`, `cas 1 3 "k" "a" "\x0a"`, `cas 1 3 "k" "` + val49 + `" ""`,
		`put	1 2 "k" "v"`, "put 1 2 \"k\" \"v\"\r", "put 1 2 \"k\" \"v\"\x00", `put 1 2 "k" "v" nop`, `nop put 1 2 "k" "v"`, "\xff", `-`,
		strings.Repeat(" ", 1000), strings.Repeat("nop ", 1000), strings.Repeat(`"`, 1001), `add ` + strings.Repeat("1", 100000),
	} {
		if got, err := Parse(s); got != (api.Cmd{}) || err != api.ErrForm {
			t.Errorf("Parse(%q) = %+v, %d, want ErrForm", s, got, err)
		}
	}
}

// forms: what a text of each kind looks like, written out from the definitions.
var forms = map[string]*regexp.Regexp{}

func init() {
	parts := map[string]string{"Client": `(\S+)`, "Seq": `(\S+)`, "Node": `(\S+)`, "Key": `(".*")`, "Old": `(".*")`, "Val": `(".*")`}
	for _, shape := range shapes {
		form := "^" + shape.word
		for _, name := range strings.Fields(shape.has) {
			form += " " + parts[name]
		}
		forms[shape.word] = regexp.MustCompile(form + "$")
	}
}

// parsed returns what Parse is to return, by the definitions.
func parsed(s string) (api.Cmd, api.Errno) {
	for kind, shape := range shapes {
		m := forms[shape.word].FindStringSubmatch(s)
		if m == nil {
			continue
		}
		c := api.Cmd{Kind: kind}
		for i, name := range strings.Fields(shape.has) {
			switch field(c, name).(type) {
			case int:
				n, err := strconv.ParseUint(m[i+1], 10, 63)
				if err != nil || strconv.FormatUint(n, 10) != m[i+1] {
					return api.Cmd{}, api.ErrForm
				}
				set(&c, name, int(n))
			case string:
				text, err := quote.Unquote(m[i+1])
				if err != api.OK {
					return api.Cmd{}, api.ErrForm
				}
				set(&c, name, text)
			}
		}
		if checked(c) != api.OK {
			return api.Cmd{}, api.ErrForm
		}
		return c, api.OK
	}
	return api.Cmd{}, api.ErrForm
}

// pieces: of what lines are made, and what breaks them.
var pieces = []string{
	"nop", "put", "get", "del", "cas", "activate", "add", "drop", "0", "1", "8", "9", "10", "01", "+1", "-1", "300", "4294967296", "4294967297", "k",
	`""`, `"k"`, `"v"`, `"a b"`, `"a/b"`, `"\x0a"`, `"\x6b"`, `"\""`, `"`, `\`, "\n", "", `"é"`, `"` + val49 + `"`,
}

// P8.3: lines of all sorts of words, and broken texts, are what the definitions say.
func TestParseBroken(t *testing.T) {
	l := valids()
	random := rand.New(rand.NewSource(83))
	good := 0
	for i := range 300000 {
		words := []string{pieces[random.Intn(8)]}
		if i%2 == 0 {
			words = strings.Split(textOf(l[random.Intn(len(l))]), " ")
			words[random.Intn(len(words))] = pieces[random.Intn(len(pieces))]
		} else {
			for range random.Intn(7) {
				words = append(words, pieces[8+random.Intn(len(pieces)-8)])
			}
		}
		s := strings.Join(words, " ")
		want, err := parsed(s)
		if got, e := Parse(s); got != want || e != err {
			t.Fatalf("Parse(%q) = %+v, %d, want %+v, %d", s, got, e, want, err)
		}
		if err == api.OK {
			good++
		}
	}
	if good < 1000 {
		t.Errorf("only %d of the lines are texts", good)
	}
}

// P8.4: commands are recovered from their encodings in each version that supports them, and from their texts.
func TestRoundTrip(t *testing.T) {
	l := valids()
	kinds := map[int]int{}
	for _, c := range l {
		kinds[c.Kind]++
		for v := 1; v <= 2; v++ {
			b, err := Encode(v, c)
			if v == 1 && c.Kind == api.CmdCas {
				if b != nil || err != api.ErrVersion {
					t.Fatalf("Encode(%d, %+v) = %x, %d", v, c, b, err)
				}
				continue
			}
			if got, e := Decode(v, b); err != api.OK || got != c || e != api.OK {
				t.Fatalf("%+v is encoded in V%d as %x, %d, and decoded as %+v, %d", c, v, b, err, got, e)
			}
		}
		s := Text(c)
		if got, err := Parse(s); s != textOf(c) || got != c || err != api.OK {
			t.Fatalf("%+v has the text %q, which is parsed as %+v, %d", c, s, got, err)
		}
	}
	if len(kinds) != 8 {
		t.Errorf("only %d kinds are there", len(kinds))
	}
}

// P8.4: different commands have different encodings and texts.
func TestDifferent(t *testing.T) {
	encodings, texts := map[string]api.Cmd{}, map[string]api.Cmd{}
	for _, c := range valids() {
		for v := 1; v <= 2; v++ {
			b, err := Encode(v, c)
			if err != api.OK {
				continue
			}
			id := fmt.Sprintf("%d %x", v, b)
			if other, is := encodings[id]; is {
				t.Fatalf("%+v and %+v have the encoding %s", c, other, id)
			}
			encodings[id] = c
		}
		s := Text(c)
		if other, is := texts[s]; is {
			t.Fatalf("%+v and %+v have the text %s", c, other, s)
		}
		texts[s] = c
	}
}
