package answer

import (
	"bytes"
	"encoding/binary"
	"encoding/hex"
	"fmt"
	"math"
	"math/rand"
	"regexp"
	"slices"
	"strconv"
	"strings"
	"testing"

	"changeover/api"
	"changeover/pack"
	"changeover/quote"
	"changeover/runes"
)

// The greatest valid value, and one that is a byte longer.
var (
	val48 = strings.Repeat("v", 48)
	val49 = strings.Repeat("v", 49)
)

// found3 is the answer of the chapter's example of a text.
var found3 = api.Answer{Client: 1, Seq: 2, Found: true, Val: "v", Rev: 3}

// plain is an answer that both versions have.
var plain = api.Answer{Client: 1, Seq: 2, Found: true, Val: "v"}

// versions: both, and numbers that are none.
var versions = []int{math.MinInt, -1, 0, 1, 2, 3, 257, 258, 1<<32 + 1, 1<<32 + 2, math.MaxInt}

// checked returns the error of a, by the definitions.
func checked(a api.Answer) api.Errno {
	if a.Client < 1 || a.Client > 8 || a.Seq < 1 || a.Seq > 1<<32 || a.Err < 0 || a.Err > 17 || a.Rev < 0 || a.Rev > 1<<32 {
		return api.ErrRange
	}
	if !runes.Val(a.Val) {
		return api.ErrText
	}
	return api.OK
}

// bytesOf returns the encoding of a, by the definitions.
func bytesOf(v int, a api.Answer) []byte {
	number := func(b []byte, n int) []byte { return binary.AppendUvarint(b, uint64(max(n, 0))) }
	b := number(nil, a.Client)
	b = number(b, a.Seq)
	b = number(b, int(a.Err))
	flag := byte(0)
	if a.Found {
		flag = 1
	}
	b = append(b, flag)
	b = append(number(b, len(a.Val)), a.Val...)
	if v == 2 {
		b = number(b, a.Rev)
	}
	return b
}

// textOf returns the text of a valid answer, by the definitions.
func textOf(a api.Answer) string {
	is := "no"
	if a.Found {
		is = "yes"
	}
	return fmt.Sprintf("%d %d %d %d %s %s", a.Client, a.Seq, int(a.Err), a.Rev, is, quote.Quote(a.Val))
}

// encodedIn returns the error of encoding a in v, by the definitions.
func encodedIn(v int, a api.Answer) api.Errno {
	if v != 1 && v != 2 {
		return api.ErrVersion
	}
	if err := checked(a); err != api.OK {
		return err
	}
	if v == 1 && a.Rev != 0 {
		return api.ErrVersion
	}
	return api.OK
}

// eachOf calls f with every answer whose fields are among those given.
func eachOf(clients, seqs, errs, revs []int, vals []string, f func(a api.Answer)) {
	for _, client := range clients {
		for _, seq := range seqs {
			for _, err := range errs {
				for _, rev := range revs {
					for _, val := range vals {
						for _, is := range []bool{false, true} {
							f(api.Answer{Client: client, Seq: seq, Err: api.Errno(err), Found: is, Val: val, Rev: rev})
						}
					}
				}
			}
		}
	}
}

// each calls f with answers whose fields are valid or not in every combination.
func each(f func(a api.Answer)) {
	clients := []int{math.MinInt, -1, 0, 1, 8, 9, 257, math.MaxInt}
	seqs := []int{math.MinInt, -1, 0, 1, 300, api.MaxSeq, api.MaxSeq + 1, math.MaxInt}
	errs := []int{math.MinInt, -1, 0, 17, 18, 256, math.MaxInt}
	revs := []int{math.MinInt, -1, 0, 1, api.MaxIndex, api.MaxIndex + 1, math.MaxInt}
	eachOf(clients, seqs, errs, revs, []string{"", "v", "a b", val48, val49, "\n", "\xff"}, f)
}

// valids returns answers that are all valid, at the limits of every field.
func valids() []api.Answer {
	var l []api.Answer
	errs := []int{0, 1, 2, 3, 4, 5, 6, 7, 8, 9, 10, 11, 12, 13, 14, 15, 16, 17}
	eachOf([]int{1, 2, 8}, []int{1, 127, 128, 300, api.MaxSeq}, errs, []int{0, 1, 4, 128, api.MaxIndex}, []string{"", "v", `a "b" \`, "é€😀", val48}, func(a api.Answer) {
		l = append(l, a)
	})
	return l
}

// odd returns answers that are not valid, but of numbers that can be encoded.
func odd() []api.Answer {
	return []api.Answer{
		{},
		{Found: true},
		{Client: 9, Seq: api.MaxSeq + 1, Err: 18, Found: true, Val: val49, Rev: api.MaxIndex + 1},
		{Client: 300, Seq: 1 << 40, Err: 300, Val: "\n\xff\x00", Rev: 1 << 50},
		{Client: math.MaxInt, Seq: math.MaxInt, Err: math.MaxInt, Found: true, Val: strings.Repeat("\x80", 5000), Rev: math.MaxInt},
		{Client: 1, Seq: 1, Val: strings.Repeat("v", 70000), Rev: 1},
		{Val: "v"},
		{Rev: 7},
	}
}

// P9.1: the example of the chapter's text is valid; every field at its limits and beyond them.
func TestCheckFields(t *testing.T) {
	outside := []int{math.MinInt, math.MinInt + 1, -1 << 32, -2, -1}
	for name, x := range map[string]struct {
		set         func(a *api.Answer, n int)
		least, most int
	}{
		"Client": {func(a *api.Answer, n int) { a.Client = n }, 1, 8},
		"Seq":    {func(a *api.Answer, n int) { a.Seq = n }, 1, 4294967296},
		"Err":    {func(a *api.Answer, n int) { a.Err = api.Errno(n) }, 0, 17},
		"Rev":    {func(a *api.Answer, n int) { a.Rev = n }, 0, 4294967296},
	} {
		l := append(slices.Clone(outside), 0, 1, 2, 7, x.least-1, x.least, x.least+1, x.most-1, x.most, x.most+1, x.most+2, 1<<33, 1<<33+1, 1<<62, math.MaxInt)
		for n := range 300 {
			l = append(l, n)
		}
		for _, n := range l {
			a, want := found3, api.ErrRange
			if x.set(&a, n); n >= x.least && n <= x.most {
				want = api.OK
			}
			if got := Check(a); got != want {
				t.Errorf("%s %d: Check(%+v) = %d, want %d", name, n, a, got, want)
			}
		}
	}
}

// P9.1: Val is a value, Found and Rev whatever they are.
func TestCheckVal(t *testing.T) {
	for val, want := range map[string]api.Errno{
		"":                               api.OK,
		" ":                              api.OK,
		"a b/\"\\":                       api.OK,
		"\u0080\ufffd":                   api.OK,
		val48:                            api.OK,
		strings.Repeat("€", 16):          api.OK,
		val49:                            api.ErrText,
		strings.Repeat("€", 16) + "a":    api.ErrText,
		strings.Repeat("v", 5000):        api.ErrText,
		"\n":                             api.ErrText,
		"a\x1f":                          api.ErrText,
		"\x00":                           api.ErrText,
		"\x7f":                           api.ErrText,
		"\xff":                           api.ErrText,
		"a\xe2\x82":                      api.ErrText,
		strings.Repeat("v", 47) + "\xc3": api.ErrText,
	} {
		for _, is := range []bool{false, true} {
			for _, rev := range []int{0, 1, api.MaxIndex} {
				a := api.Answer{Client: 1, Seq: 1, Found: is, Val: val, Rev: rev}
				if got := Check(a); got != want {
					t.Errorf("Check(%+v) = %d, want %d", a, got, want)
				}
			}
		}
	}
}

// P9.1: ErrRange comes ahead of ErrText; the fields in every combination.
func TestCheckEach(t *testing.T) {
	for _, a := range []api.Answer{
		{Client: 0, Seq: 1, Val: "\n"},
		{Client: 1, Seq: 0, Val: "\n"},
		{Client: 1, Seq: 1, Err: 18, Val: "\n"},
		{Client: 1, Seq: 1, Err: -1, Val: "\n"},
		{Client: 1, Seq: 1, Rev: -1, Val: "\n"},
		{Client: 1, Seq: 1, Rev: api.MaxIndex + 1, Val: val49},
	} {
		if got := Check(a); got != api.ErrRange {
			t.Errorf("Check(%+v) = %d, want ErrRange", a, got)
		}
	}
	each(func(a api.Answer) {
		if got, want := Check(a), checked(a); got != want {
			t.Fatalf("Check(%+v) = %d, want %d", a, got, want)
		}
	})
}

// P9.1: encodings written out by hand, in both versions, and back.
func TestEncode(t *testing.T) {
	for _, x := range []struct {
		a      api.Answer
		v1, v2 string
	}{
		{plain, "0102000101" + "76", "0102000101" + "76" + "00"},
		{found3, "", "0102000101" + "76" + "03"},
		{api.Answer{Client: 2, Seq: 9, Found: true, Val: "x", Rev: 4}, "", "0209000101" + "78" + "04"},
		{api.Answer{Client: 1, Seq: 1}, "0101000000", "010100000000"},
		{api.Answer{Client: 1, Seq: 1, Rev: 1}, "", "010100000001"},
		{api.Answer{Client: 8, Seq: 300, Err: api.ErrNone}, "08ac020a0000", "08ac020a000000"},
		{api.Answer{Client: 8, Seq: api.MaxSeq, Err: api.ErrTorn, Found: true, Val: "é"}, "08808080801011" + "0102c3a9", "08808080801011" + "0102c3a900"},
		{api.Answer{Client: 3, Seq: 127, Err: api.ErrStale, Found: true, Val: "a b", Rev: 128}, "", "037f0f0103612062" + "8001"},
		{api.Answer{Client: 3, Seq: 128, Val: "no", Rev: api.MaxIndex}, "", "0380010000026e6f" + "8080808010"},
	} {
		for v, want := range map[int]string{1: x.v1, 2: x.v2} {
			b, err := Encode(v, x.a)
			if want == "" {
				if b != nil || err != api.ErrVersion {
					t.Errorf("Encode(%d, %+v) = %x, %d, want ErrVersion", v, x.a, b, err)
				}
				continue
			}
			if hex.EncodeToString(b) != want || err != api.OK {
				t.Errorf("Encode(%d, %+v) = %x, %d, want %s", v, x.a, b, err, want)
			}
			if a, err := Decode(v, b); a != x.a || err != api.OK {
				t.Errorf("Decode(%d, %x) = %+v, %d, want %+v", v, b, a, err, x.a)
			}
		}
	}
}

// P9.1: what is no version comes ahead of the error of Check, and that ahead of a Rev in V1.
func TestEncodeErrors(t *testing.T) {
	for _, x := range []struct {
		v    int
		a    api.Answer
		want api.Errno
	}{
		{0, api.Answer{}, api.ErrVersion},
		{3, api.Answer{Client: 9, Val: "\n", Rev: 4}, api.ErrVersion},
		{0, plain, api.ErrVersion},
		{3, plain, api.ErrVersion},
		{-1, found3, api.ErrVersion},
		{1, api.Answer{Client: 9, Seq: 1, Rev: 4}, api.ErrRange},
		{1, api.Answer{Client: 1, Seq: 1, Rev: -1}, api.ErrRange},
		{1, api.Answer{Client: 1, Seq: 1, Rev: api.MaxIndex + 1}, api.ErrRange},
		{1, api.Answer{Client: 1, Seq: 1, Val: "\n", Rev: 4}, api.ErrText},
		{2, api.Answer{Client: 1, Seq: 1, Val: "\n", Rev: 4}, api.ErrText},
		{2, api.Answer{Client: 1, Seq: 0, Val: "\n"}, api.ErrRange},
		{1, found3, api.ErrVersion},
		{1, api.Answer{Client: 1, Seq: 1, Rev: api.MaxIndex}, api.ErrVersion},
	} {
		if b, err := Encode(x.v, x.a); b != nil || err != x.want {
			t.Errorf("Encode(%d, %+v) = %x, %d, want %d", x.v, x.a, b, err, x.want)
		}
	}
	for _, v := range versions {
		each(func(a api.Answer) {
			b, err := Encode(v, a)
			if want := encodedIn(v, a); err != want || (err != api.OK && b != nil) || (err == api.OK && !bytes.Equal(b, bytesOf(v, a))) {
				t.Fatalf("Encode(%d, %+v) = %x, %d, want error %d", v, a, b, err, want)
			}
		})
	}
}

// P9.1: Put writes whatever it is given, behind what was written before; a Rev in V2 alone; negative numbers as the packing does.
func TestPut(t *testing.T) {
	l := odd()
	l = append(l, api.Answer{Client: -1, Seq: math.MinInt, Err: -1, Val: "v", Rev: -5}, found3, plain)
	each(func(a api.Answer) { l = append(l, a) })
	for _, a := range l {
		for v := 1; v <= 2; v++ {
			var w pack.Writer
			w.Text("ahead")
			Put(&w, v, a)
			w.Flag(true)
			want := slices.Concat([]byte("\x05ahead"), bytesOf(v, a), []byte{1})
			if got := w.Bytes(); !bytes.Equal(got, want) {
				t.Fatalf("Put(%d, %+v) writes %x, want %x", v, a, got, want)
			}
		}
	}
}

// P9.1: a Rev belongs to V2 alone, also in what is no version; nothing is written to, or read from, nil.
func TestPutGetOther(t *testing.T) {
	for _, v := range versions {
		var w pack.Writer
		Put(&w, v, found3)
		if got, want := w.Bytes(), bytesOf(v, found3); !bytes.Equal(got, want) {
			t.Errorf("Put(%d) writes %x, want %x", v, got, want)
		}
		want := found3
		if v != 2 {
			want.Rev = 0
		}
		r := pack.NewReader(w.Bytes())
		if got := Get(r, v); got != want || r.Done() != api.OK {
			t.Errorf("Get(%d) = %+v, error %d, want %+v", v, got, r.Done(), want)
		}
		Put(nil, v, found3)
		if got := Get(nil, v); got != (api.Answer{}) {
			t.Errorf("Get(nil, %d) = %+v", v, got)
		}
	}
}

// only returns a with those fields alone that stand in its encoding.
func only(v int, a api.Answer) api.Answer {
	if v == 1 {
		a.Rev = 0
	}
	return a
}

// P9.1: Get reads what was written, one answer after the other, valid or not, and goes not a byte further.
func TestGet(t *testing.T) {
	for v := 1; v <= 2; v++ {
		var w pack.Writer
		l := slices.Concat(odd(), valids())
		for _, a := range l {
			Put(&w, v, a)
			w.Text("behind")
		}
		r := pack.NewReader(w.Bytes())
		for _, a := range l {
			if got := Get(r, v); got != only(v, a) || r.Err() != api.OK {
				t.Fatalf("Get(%d) = %+v, error %d, want %+v", v, got, r.Err(), only(v, a))
			}
			if got := r.Text(6); got != "behind" {
				t.Fatalf("after %+v: %q, error %d", a, got, r.Err())
			}
		}
		if err := r.Done(); err != api.OK {
			t.Fatalf("Done() = %d", err)
		}
	}
}

// P9.1: Get keeps to what the reader tells: its errors stay in it.
func TestGetErrors(t *testing.T) {
	for v := 1; v <= 2; v++ {
		for _, a := range append(odd(), plain, found3) {
			b := bytesOf(v, a)
			for size := range min(len(b), 400) {
				r := pack.NewReader(b[:size])
				Get(r, v)
				if r.Err() != api.ErrShort {
					t.Fatalf("Get(%d) of %d bytes of %+v: error %d", v, size, a, r.Err())
				}
				if got := Get(r, v); got != (api.Answer{}) || r.Err() != api.ErrShort {
					t.Fatalf("Get(%d) after an error: %+v, error %d", v, got, r.Err())
				}
			}
		}
		for _, b := range [][]byte{{1, 0x82, 0, 0, 1, 1, 'v', 3}, {1, 2, 0, 2, 1, 'v', 3}} {
			r := pack.NewReader(b)
			if Get(r, v); r.Err() != api.ErrForm {
				t.Errorf("Get(%d) of %x: error %d", v, b, r.Err())
			}
		}
	}
}

// wantDecode fails the test unless Decode returns this answer, or this error and nothing, and leaves b as it is.
func wantDecode(t *testing.T, v int, b []byte, want api.Answer, err api.Errno) {
	t.Helper()
	before := slices.Clone(b)
	a, got := Decode(v, b)
	if a != want || got != err {
		t.Fatalf("Decode(%d, %x) = %+v, %d, want %+v, %d", v, b, a, got, want, err)
	}
	if !bytes.Equal(b, before) {
		t.Fatalf("Decode(%d) changed %x to %x", v, before, b)
	}
}

// P9.1: the example of the chapter, and the other errors of Decode, in their order.
func TestDecodeErrors(t *testing.T) {
	for _, x := range []struct {
		v   int
		b   string
		err api.Errno
	}{
		{0, "", api.ErrVersion},
		{3, "010200010176", api.ErrVersion},
		{0, "010200010176", api.ErrVersion},
		{-1, "8000", api.ErrVersion},
		{math.MaxInt, "01020001017603", api.ErrVersion},
		{1, "01020001017603", api.ErrForm}, // an encoding in V2
		{1, "01020001017600", api.ErrForm}, // likewise, with a Rev of 0
		{2, "010200010176", api.ErrShort},  // an encoding in V1
		{1, "", api.ErrShort},
		{2, "", api.ErrShort},
		{1, "01", api.ErrShort},
		{2, "0102", api.ErrShort},
		{2, "010200", api.ErrShort},
		{2, "01020001", api.ErrShort},
		{2, "0102000101", api.ErrShort},
		{2, "0902", api.ErrShort},              // a client that is not valid, too
		{1, "0102000131" + "0a", api.ErrShort}, // a value of 49 bytes
		{2, "0102000101760300", api.ErrForm},
		{1, "010200010176" + "ff", api.ErrForm},
		{2, "01020001017680", api.ErrShort},
		{2, "8100020001017603", api.ErrForm},
		{2, "0182000001017603", api.ErrForm},
		{2, "0102800001017603", api.ErrForm},
		{1, "0102000181" + "0076", api.ErrForm},
		{2, "010200010176" + "8300", api.ErrForm},
		{2, "01ffffffffffffffffff01000101" + "7603", api.ErrForm}, // a number of ten groups
		{1, "010200020176", api.ErrForm},                          // a flag of 2
		{2, "010200ff017603", api.ErrForm},
		{1, "090200020176", api.ErrForm}, // a client that is not valid, too
		{1, "00020001017600", api.ErrForm},
		{1, "000200010176", api.ErrRange},
		{1, "090200010176", api.ErrRange},
		{1, "010000010176", api.ErrRange},
		{1, "0181808080100001" + "0176", api.ErrRange},
		{1, "0102120101" + "76", api.ErrRange},
		{2, "0102120101" + "7600", api.ErrRange},
		{2, "0102000101" + "768180808010", api.ErrRange},
		{2, "0902000101" + "0a03", api.ErrRange},
		{2, "0102000101" + "0a8180808010", api.ErrRange},
		{1, "0102000101" + "0a", api.ErrText},
		{2, "0102000101" + "ff03", api.ErrText},
		{2, "0102000131" + strings.Repeat("76", 49) + "03", api.ErrText},
		{1, "0102000131" + strings.Repeat("76", 49), api.ErrText},
		{2, "01ffffffffffffffff7f000101" + "7603", api.ErrRange},
		{2, "0102ffffffffffffffff7f0101" + "7603", api.ErrRange},
	} {
		b, err := hex.DecodeString(x.b)
		if err != nil {
			t.Fatal(err)
		}
		wantDecode(t, x.v, b, api.Answer{}, x.err)
	}
	wantDecode(t, 1, nil, api.Answer{}, api.ErrShort)
	wantDecode(t, 3, nil, api.Answer{}, api.ErrVersion)
}

// P9.1: a whole encoding without its end is short, with more it has no such form, and it is not that of the other version.
func TestDecodeCut(t *testing.T) {
	for i, a := range valids() {
		if i%7 != 0 {
			continue
		}
		for v := 1; v <= 2; v++ {
			b := bytesOf(v, a)
			for size := range len(b) {
				wantDecode(t, v, b[:size], api.Answer{}, api.ErrShort)
			}
			for _, more := range []string{"\x00", "\x01", "\xff", "behind"} {
				wantDecode(t, v, append(slices.Clone(b), more...), api.Answer{}, api.ErrForm)
			}
			wantDecode(t, 0, b, api.Answer{}, api.ErrVersion)
			wantDecode(t, 3, b, api.Answer{}, api.ErrVersion)
		}
		wantDecode(t, 1, bytesOf(2, a), api.Answer{}, api.ErrForm)
		wantDecode(t, 2, bytesOf(1, a), api.Answer{}, api.ErrShort)
	}
}

// P9.1: what is decoded stays as it is when the bytes change.
func TestDecodeKeepsNothing(t *testing.T) {
	b := bytesOf(2, found3)
	a, err := Decode(2, b)
	for i := range b {
		b[i] = 'x'
	}
	if a != found3 || err != api.OK {
		t.Errorf("after its bytes changed: %+v, %d", a, err)
	}
}

// decoded returns what Decode is to return, by the definitions.
func decoded(v int, b []byte) (api.Answer, api.Errno) {
	if v != 1 && v != 2 {
		return api.Answer{}, api.ErrVersion
	}
	r := pack.NewReader(b)
	a := api.Answer{Client: r.Number(math.MaxInt)}
	a.Seq = r.Number(math.MaxInt)
	a.Err = api.Errno(r.Number(math.MaxInt))
	a.Found = r.Flag()
	a.Val = r.Text(math.MaxInt)
	if v == 2 {
		a.Rev = r.Number(math.MaxInt)
	}
	if err := r.Done(); err != api.OK {
		return api.Answer{}, err
	}
	if err := checked(a); err != api.OK {
		return api.Answer{}, err
	}
	return a, api.OK
}

// P9.1: short sequences of small bytes, and broken encodings, are what the definitions say; what is decoded has these bytes.
func TestDecodeBroken(t *testing.T) {
	small := []byte{0, 1, 2, 8, 9, 17, 18, 0x20, 0x80, 0xff}
	count := 1
	for size := range 7 {
		for n := range count {
			b := make([]byte, size)
			for i := range b {
				b[i] = small[n%len(small)]
				n /= len(small)
			}
			for v := 1; v <= 2; v++ {
				want, err := decoded(v, b)
				wantDecode(t, v, b, want, err)
			}
		}
		count *= len(small)
	}
	l := valids()
	random := rand.New(rand.NewSource(9))
	good := 0
	for range 300000 {
		v := 1 + random.Intn(2)
		b := bytesOf(1+random.Intn(2), l[random.Intn(len(l))])
		for range 1 + random.Intn(3) {
			b[random.Intn(len(b))] = byte(random.Intn(256) >> random.Intn(8))
		}
		want, err := decoded(v, b)
		wantDecode(t, v, b, want, err)
		if err == api.OK {
			good++
			if !bytes.Equal(b, bytesOf(v, want)) {
				t.Fatalf("%x is decoded in V%d as %+v, whose encoding is %x", b, v, want, bytesOf(v, want))
			}
		}
	}
	if good < 1000 {
		t.Errorf("only %d of the encodings are whole", good)
	}
}

// P9.2: the example of the chapter, and answers of every sort.
func TestTextParse(t *testing.T) {
	for s, a := range map[string]api.Answer{
		`1 2 0 3 yes "v"`:                   found3,
		`1 2 0 0 yes "v"`:                   plain,
		`1 1 0 0 no ""`:                     {Client: 1, Seq: 1},
		`1 1 0 0 yes ""`:                    {Client: 1, Seq: 1, Found: true},
		`8 4294967296 17 4294967296 no "v"`: {Client: 8, Seq: api.MaxSeq, Err: api.ErrTorn, Val: "v", Rev: api.MaxIndex},
		`2 300 10 0 no ""`:                  {Client: 2, Seq: 300, Err: api.ErrNone},
		`3 4 15 5 yes "a b"`:                {Client: 3, Seq: 4, Err: api.ErrStale, Found: true, Val: "a b", Rev: 5},
		`3 4 0 5 yes "a \"b\" \\"`:          {Client: 3, Seq: 4, Found: true, Val: `a "b" \`, Rev: 5},
		`3 4 0 5 yes " "`:                   {Client: 3, Seq: 4, Found: true, Val: " ", Rev: 5},
		`3 4 0 5 no "yes"`:                  {Client: 3, Seq: 4, Val: "yes", Rev: 5},
		`3 4 0 5 yes "é€😀"`:                 {Client: 3, Seq: 4, Found: true, Val: "é€😀", Rev: 5},
		"3 4 0 5 yes \"\u0080\ufffd\"":      {Client: 3, Seq: 4, Found: true, Val: "\u0080\ufffd", Rev: 5},
		`1 2 3 4 no "` + val48 + `"`:        {Client: 1, Seq: 2, Err: api.ErrForm, Val: val48, Rev: 4},
	} {
		if got := Text(a); got != s {
			t.Errorf("Text(%+v) = %q, want %q", a, got, s)
		}
		if got, err := Parse(s); got != a || err != api.OK {
			t.Errorf("Parse(%q) = %+v, %d, want %+v", s, got, err, a)
		}
	}
}

// P9.2: an answer that is not valid has no text; all others have theirs.
func TestTextNone(t *testing.T) {
	want := func(a api.Answer) {
		s := ""
		if checked(a) == api.OK {
			s = textOf(a)
		}
		if got := Text(a); got != s {
			t.Fatalf("Text(%+v) = %q, want %q", a, got, s)
		}
	}
	for _, a := range odd() {
		if checked(a) == api.OK {
			t.Fatalf("%+v is valid", a)
		}
		want(a)
	}
	each(want)
}

// P9.2: the example of the chapter, and other strings that are no text.
func TestParseNone(t *testing.T) {
	for _, s := range []string{
		`1 2 0 3 maybe "v"`,
		``, ` `, `"`, `""`, `yes`, `1`, `1 2`, `1 2 0`, `1 2 0 3`, `1 2 0 3 yes`, `1 2 0 3 "v"`, `1 2 0 yes "v"`, `1 2 3 yes "v"`, `1 2 yes "v"`,
		`1 2 0 3 yes "v" `, ` 1 2 0 3 yes "v"`, `1 2 0 3  yes "v"`, `1 2 0 3 yes "v" ""`, `1 2 0 3 yes "v" 0`, `1 2 0 3 yes "v" yes`, `1 2 0 3 yes "v""v"`, `1 2 0 3 yes"v"`,
		"1 2 0 3 yes \"v\"\n", "1 2 0 3 yes \"v\"\r", "1\t2 0 3 yes \"v\"", "1 2 0 3 yes \"v\"\x00", "\xff", "1 2 0 3 yes \"\xff\"", "1 2 0 3 yes \"\n\"",
		`1 2 0 3 Yes "v"`, `1 2 0 3 YES "v"`, `1 2 0 3 y "v"`, `1 2 0 3 n "v"`, `1 2 0 3 true "v"`, `1 2 0 3 false "v"`, `1 2 0 3 1 "v"`, `1 2 0 3 0 "v"`, `1 2 0 3 "yes" "v"`, `1 2 0 3 "no" "v"`, `1 2 0 3 "" "v"`, `1 2 0 3 yess "v"`, `1 2 0 3 No "v"`, `1 2 0 3 none "v"`,
		`1 2 0 3 yes v`, `1 2 0 3 yes "v`, `1 2 0 3 yes v"`, `1 2 0 3 yes "\v"`, `1 2 0 3 yes "\x76"`, `1 2 0 3 yes "\x0a"`, `1 2 0 3 yes "\xff"`, `1 2 0 3 yes "\x7f"`, `1 2 0 3 yes "a"b"`, `1 2 0 3 yes "\"`, `1 2 0 3 yes "` + val49 + `"`, `1 2 0 3 yes 'v'`,
		`0 2 0 3 yes "v"`, `9 2 0 3 yes "v"`, `-1 2 0 3 yes "v"`, `+1 2 0 3 yes "v"`, `01 2 0 3 yes "v"`, `1. 2 0 3 yes "v"`, `0x1 2 0 3 yes "v"`, `1_ 2 0 3 yes "v"`, `x 2 0 3 yes "v"`, `"1" 2 0 3 yes "v"`, `١ 2 0 3 yes "v"`, `18446744073709551617 2 0 3 yes "v"`,
		`1 0 0 3 yes "v"`, `1 4294967297 0 3 yes "v"`, `1 -2 0 3 yes "v"`, `1 +2 0 3 yes "v"`, `1 02 0 3 yes "v"`, `1 18446744073709551618 0 3 yes "v"`, `1 99999999999999999999999 0 3 yes "v"`, `1 9223372036854775807 0 3 yes "v"`, `1 "2" 0 3 yes "v"`,
		`1 2 18 3 yes "v"`, `1 2 -1 3 yes "v"`, `1 2 -0 3 yes "v"`, `1 2 00 3 yes "v"`, `1 2 017 3 yes "v"`, `1 2 x 3 yes "v"`, `1 2 OK 3 yes "v"`, `1 2 18446744073709551616 3 yes "v"`, `1 2 "" 3 yes "v"`,
		`1 2 0 4294967297 yes "v"`, `1 2 0 -1 yes "v"`, `1 2 0 -0 yes "v"`, `1 2 0 03 yes "v"`, `1 2 0 x yes "v"`, `1 2 0 18446744073709551619 yes "v"`, `1 2 0 "" yes "v"`, `1 2 0 3.0 yes "v"`,
		`1 2 0 yes "v" 3`, `1 2 0 yes 3 "v"`, `1 2 0 3 "v" yes`, `1 2 yes 0 3 "v"`, `answer 1 2 0 3 yes "v"`,
		strings.Repeat(" ", 1000), strings.Repeat("1 ", 1000), strings.Repeat(`"`, 1001), `1 2 0 3 yes "` + strings.Repeat("v", 100000) + `"`, `1 ` + strings.Repeat("1", 100000) + ` 0 3 yes "v"`,
	} {
		if got, err := Parse(s); got != (api.Answer{}) || err != api.ErrForm {
			t.Errorf("Parse(%q) = %+v, %d, want ErrForm", s, got, err)
		}
	}
}

// form: what a text looks like, written out from the definitions.
var form = regexp.MustCompile(`^(0|[1-9][0-9]*) (0|[1-9][0-9]*) (0|[1-9][0-9]*) (0|[1-9][0-9]*) (yes|no) (".*")$`)

// parsed returns what Parse is to return, by the definitions.
func parsed(s string) (api.Answer, api.Errno) {
	m := form.FindStringSubmatch(s)
	if m == nil {
		return api.Answer{}, api.ErrForm
	}
	var n [4]int
	for i := range n {
		number, err := strconv.ParseUint(m[i+1], 10, 63)
		if err != nil {
			return api.Answer{}, api.ErrForm
		}
		n[i] = int(number)
	}
	val, err := quote.Unquote(m[6])
	a := api.Answer{Client: n[0], Seq: n[1], Err: api.Errno(n[2]), Rev: n[3], Found: m[5] == "yes", Val: val}
	if err != api.OK || checked(a) != api.OK {
		return api.Answer{}, api.ErrForm
	}
	return a, api.OK
}

// pieces: of what lines are made, and what breaks them.
var pieces = []string{
	"yes", "no", "0", "1", "8", "9", "17", "18", "01", "00", "-0", "+1", "-1", "300", "4294967296", "4294967297", "18446744073709551617", "k", "maybe",
	`""`, `"v"`, `"a b"`, `"\x0a"`, `"\x76"`, `"\""`, `"yes"`, `"`, `\`, "\n", "", `"é"`, `"` + val48 + `"`, `"` + val49 + `"`,
}

// P9.2: lines of all sorts of words, and broken texts, are what the definitions say.
func TestParseBroken(t *testing.T) {
	l := valids()
	random := rand.New(rand.NewSource(92))
	good := 0
	for i := range 300000 {
		var words []string
		if i%3 != 0 {
			words = strings.Split(textOf(l[random.Intn(len(l))]), " ")
			words[random.Intn(len(words))] = pieces[random.Intn(len(pieces))]
		} else {
			for range random.Intn(8) {
				words = append(words, pieces[random.Intn(len(pieces))])
			}
		}
		s := strings.Join(words, " ")
		want, err := parsed(s)
		if got, e := Parse(s); got != want || e != err {
			t.Fatalf("Parse(%q) = %+v, %d, want %+v, %d", s, got, e, want, err)
		}
		if err == api.OK {
			good++
		}
	}
	if good < 1000 {
		t.Errorf("only %d of the lines are texts", good)
	}
}

// P9.2: a text with one byte changed, or left out, or put in, is that of another answer, or of none.
func TestParseChanged(t *testing.T) {
	s := textOf(api.Answer{Client: 1, Seq: 20, Err: 1, Found: true, Val: `a "\`, Rev: 3})
	for at := range len(s) {
		for c := range 256 {
			changed := []string{s[:at] + string([]byte{byte(c)}) + s[at+1:], s[:at] + string([]byte{byte(c)}) + s[at:], s[:at] + s[at+1:]}
			for _, x := range changed {
				want, err := parsed(x)
				if got, e := Parse(x); got != want || e != err {
					t.Fatalf("Parse(%q) = %+v, %d, want %+v, %d", x, got, e, want, err)
				}
			}
		}
	}
}

// P9.3: answers are recovered from their encodings, in V1 if they have no Rev, and from their texts.
func TestRoundTrip(t *testing.T) {
	both := 0
	for _, a := range valids() {
		for v := 1; v <= 2; v++ {
			b, err := Encode(v, a)
			if v == 1 && a.Rev != 0 {
				if b != nil || err != api.ErrVersion {
					t.Fatalf("Encode(%d, %+v) = %x, %d", v, a, b, err)
				}
				continue
			}
			if got, e := Decode(v, b); err != api.OK || got != a || e != api.OK {
				t.Fatalf("%+v is encoded in V%d as %x, %d, and decoded as %+v, %d", a, v, b, err, got, e)
			}
			both += 2 - v
		}
		s := Text(a)
		if got, err := Parse(s); s != textOf(a) || got != a || err != api.OK {
			t.Fatalf("%+v has the text %q, which is parsed as %+v, %d", a, s, got, err)
		}
	}
	if both < 1000 {
		t.Errorf("only %d answers were encoded in V1", both)
	}
}

// P9.3: every value of one rune is recovered; a rune that may not stand in a value has neither an encoding nor a text.
func TestRoundTripRunes(t *testing.T) {
	for r := rune(0); r <= 0x10ffff; r++ {
		if r >= 0xd800 && r <= 0xdfff {
			continue
		}
		a := api.Answer{Client: 1, Seq: 1, Found: true, Val: string(r), Rev: 1}
		b, err := Encode(2, a)
		s := Text(a)
		if r < 32 || r == 127 {
			if b != nil || err != api.ErrText || s != "" {
				t.Fatalf("%+v: %x, %d, %q", a, b, err, s)
			}
			continue
		}
		if got, e := Decode(2, b); got != a || err != api.OK || e != api.OK {
			t.Fatalf("%+v is encoded as %x, %d, and decoded as %+v, %d", a, b, err, got, e)
		}
		if got, e := Parse(s); got != a || e != api.OK {
			t.Fatalf("%+v has the text %q, which is parsed as %+v, %d", a, s, got, e)
		}
	}
}

// P9.3: different answers have different encodings and texts.
func TestDifferent(t *testing.T) {
	encodings, texts := map[string]api.Answer{}, map[string]api.Answer{}
	for _, a := range valids() {
		for v := 1; v <= 2; v++ {
			b, err := Encode(v, a)
			if err != api.OK {
				continue
			}
			id := fmt.Sprintf("%d %x", v, b)
			if other, is := encodings[id]; is {
				t.Fatalf("%+v and %+v have the encoding %s", a, other, id)
			}
			encodings[id] = a
		}
		s := Text(a)
		if other, is := texts[s]; is {
			t.Fatalf("%+v and %+v have the text %s", a, other, s)
		}
		texts[s] = a
	}
}
