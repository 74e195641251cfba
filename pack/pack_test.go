package pack

import (
	"bytes"
	"encoding/binary"
	"math"
	"math/rand"
	"slices"
	"strings"
	"testing"

	"changeover/api"
)

// numbers: with their encodings, written out by hand.
var numbers = []struct {
	n int
	b []byte
}{
	{0, []byte{0}},
	{1, []byte{1}},
	{127, []byte{0x7f}},
	{128, []byte{0x80, 1}},
	{300, []byte{0xac, 2}},
	{16383, []byte{0xff, 0x7f}},
	{16384, []byte{0x80, 0x80, 1}},
	{1 << 32, []byte{0x80, 0x80, 0x80, 0x80, 0x10}},
	{math.MaxInt, []byte{0xff, 0xff, 0xff, 0xff, 0xff, 0xff, 0xff, 0xff, 0x7f}},
}

// strange: bytes of which a string and bytes may be made too.
var strange = []string{
	"", "hi", "\x00", "\xff\xfe", "\xc3", "a\x80b\n\"", "ä€😀", strings.Repeat("x", 127), strings.Repeat("\x80", 128),
	strings.Repeat("yz", 8191), strings.Repeat("0", 16383), strings.Repeat("\xff", 16384), strings.Repeat("w", 70000),
}

// number returns the encoding of n as the chapter defines it.
func number(n int) []byte {
	return binary.AppendUvarint(nil, uint64(n))
}

// sized returns the encoding of s, or of bytes, as the chapter defines it.
func sized(s string) []byte {
	return append(number(len(s)), s...)
}

// written returns what a new writer has after steps.
func written(steps ...func(w *Writer)) []byte {
	var w Writer
	for _, step := range steps {
		step(&w)
	}
	return w.Bytes()
}

// want fails the test unless got is what is wanted, and the reader then has this error.
func want[T comparable](t *testing.T, what string, r *Reader, got, wanted T, err api.Errno) {
	t.Helper()
	if got != wanted || r.Err() != err {
		t.Fatalf("%s: %v, error %d, want %v, error %d", what, got, r.Err(), wanted, err)
	}
}

// wantDone fails the test unless Done returns err, twice.
func wantDone(t *testing.T, r *Reader, err api.Errno) {
	t.Helper()
	for range 2 {
		if got := r.Done(); got != err {
			t.Fatalf("Done() = %d, want %d", got, err)
		}
	}
}

// wantStuck fails the test unless every read of r returns nothing, and its error stays err.
func wantStuck(t *testing.T, r *Reader, err api.Errno) {
	t.Helper()
	for range 2 {
		want(t, "Number", r, r.Number(math.MaxInt), 0, err)
		want(t, "Text", r, r.Text(math.MaxInt), "", err)
		want(t, "Raw", r, len(r.Raw(math.MaxInt)), 0, err)
		want(t, "Flag", r, r.Flag(), false, err)
		want(t, "Count", r, r.Count(math.MaxInt), 0, err)
		wantDone(t, r, err)
	}
}

// P4.1: numbers, alone and after others.
func TestWriteNumber(t *testing.T) {
	var all Writer
	var b []byte
	for _, c := range numbers {
		if got := written(func(w *Writer) { w.Number(c.n) }); !bytes.Equal(got, c.b) {
			t.Errorf("Number(%d) writes %x, want %x", c.n, got, c.b)
		}
		all.Number(c.n)
		b = append(b, c.b...)
		if got := all.Bytes(); !bytes.Equal(got, b) {
			t.Errorf("up to Number(%d): %x, want %x", c.n, got, b)
		}
	}
	for n := range 40000 {
		if got := written(func(w *Writer) { w.Number(n) }); !bytes.Equal(got, number(n)) {
			t.Fatalf("Number(%d) writes %x", n, got)
		}
	}
}

// P4.1: a negative number is written as 0.
func TestWriteNegative(t *testing.T) {
	for _, n := range []int{-1, -2, -128, -300, math.MinInt32, math.MinInt, math.MinInt + 1} {
		got := written(func(w *Writer) { w.Number(7) }, func(w *Writer) { w.Number(n) }, func(w *Writer) { w.Number(9) })
		if !bytes.Equal(got, []byte{7, 0, 9}) {
			t.Errorf("Number(%d) between 7 and 9: %x", n, got)
		}
	}
}

// P4.1: strings and bytes, with their length ahead, whatever they are made of.
func TestWriteTextRaw(t *testing.T) {
	if got := written(func(w *Writer) { w.Text("hi") }); !bytes.Equal(got, []byte{2, 'h', 'i'}) {
		t.Errorf("Text(hi) writes %x", got)
	}
	if got := written(func(w *Writer) { w.Raw([]byte{0, 0xff, 7}) }); !bytes.Equal(got, []byte{3, 0, 0xff, 7}) {
		t.Errorf("Raw(00ff07) writes %x", got)
	}
	if got := written(func(w *Writer) { w.Raw(nil) }, func(w *Writer) { w.Text("") }); !bytes.Equal(got, []byte{0, 0}) {
		t.Errorf("Raw and Text of nothing write %x", got)
	}
	for _, s := range strange {
		before := func(w *Writer) { w.Number(300) }
		after := func(w *Writer) { w.Flag(true) }
		b := slices.Concat([]byte{0xac, 2}, sized(s), []byte{1})
		if got := written(before, func(w *Writer) { w.Text(s) }, after); !bytes.Equal(got, b) {
			t.Errorf("Text of %d bytes writes %x..", len(s), got[:5])
		}
		if got := written(before, func(w *Writer) { w.Raw([]byte(s)) }, after); !bytes.Equal(got, b) {
			t.Errorf("Raw of %d bytes writes %x..", len(s), got[:5])
		}
	}
}

// P4.1: flags are the bytes 1 and 0.
func TestWriteFlag(t *testing.T) {
	yes, no := func(w *Writer) { w.Flag(true) }, func(w *Writer) { w.Flag(false) }
	for _, c := range []struct {
		got, want []byte
	}{
		{written(yes), []byte{1}},
		{written(no), []byte{0}},
		{written(yes, no, no, yes), []byte{1, 0, 0, 1}},
	} {
		if !bytes.Equal(c.got, c.want) {
			t.Errorf("flags are written as %x, want %x", c.got, c.want)
		}
	}
}

// P4.1: a writer that is new, or nil, has no bytes, and a nil one gets none.
func TestWriteNothing(t *testing.T) {
	var w Writer
	if got := w.Bytes(); len(got) != 0 {
		t.Errorf("a new writer has %x", got)
	}
	if got := new(Writer).Bytes(); len(got) != 0 {
		t.Errorf("a new writer has %x", got)
	}
	var none *Writer
	none.Number(1)
	none.Number(-1)
	none.Text("a")
	none.Raw([]byte{1})
	none.Raw(nil)
	none.Flag(true)
	none.Flag(false)
	if got := none.Bytes(); len(got) != 0 || none != nil {
		t.Errorf("a nil writer has %x", got)
	}
}

// P4.1: what Bytes returned is neither changed by what is written later, nor does changing it change the writer.
func TestBytesNewMemory(t *testing.T) {
	var w Writer
	var b []byte
	for i := range 200 {
		first, second := w.Bytes(), w.Bytes()
		clear(first[:cap(first)])
		if got := append(second, 0xee, 0xee); !bytes.Equal(got[:len(b)], b) {
			t.Fatalf("after %d numbers: two results share memory", i)
		}
		third := w.Bytes()
		w.Number(i % 100)
		b = append(b, byte(i%100))
		if !bytes.Equal(third, b[:i]) || !bytes.Equal(w.Bytes(), b) {
			t.Fatalf("after %d numbers: %x and %x, want %x", i, third, w.Bytes(), b)
		}
	}
}

// P4.1: Raw neither keeps nor changes what it is given, nor what lies beyond its end; writers are apart from each other.
func TestRawNotKept(t *testing.T) {
	whole := []byte("abcdefgh")
	var w, other Writer
	w.Raw(whole[:3])
	other.Raw(whole[3:])
	w.Number(1)
	w.Raw(whole[:0])
	if string(whole) != "abcdefgh" {
		t.Fatalf("Raw changed what it was given: %s", whole)
	}
	clear(whole)
	if got := w.Bytes(); !bytes.Equal(got, []byte("\x03abc\x01\x00")) {
		t.Errorf("Raw kept what it was given: %x", got)
	}
	if got := other.Bytes(); !bytes.Equal(got, []byte("\x05defgh")) {
		t.Errorf("Raw kept what it was given: %x", got)
	}
}

// P4.2: the example of the chapter.
func TestReaderSample(t *testing.T) {
	r := NewReader([]byte{5, 2, 'a', 'b', 3, 'c'})
	want(t, "before", r, true, true, api.OK)
	want(t, "Number", r, r.Number(5), 5, api.OK)
	want(t, "Text", r, r.Text(9), "ab", api.OK)
	wantDone(t, r, api.ErrForm)
	want(t, "Text", r, r.Text(9), "", api.ErrShort)
	wantStuck(t, r, api.ErrShort)
}

// P4.2: a nil reader returns nothing, and its error is ErrShort.
func TestReaderNil(t *testing.T) {
	wantStuck(t, nil, api.ErrShort)
}

// P4.2: a reader of nothing has no error until something is read.
func TestReaderEmpty(t *testing.T) {
	for _, b := range [][]byte{nil, {}, make([]byte, 0, 9)} {
		for i := range 5 {
			r := NewReader(b)
			want(t, "before", r, true, true, api.OK)
			wantDone(t, r, api.OK)
			readSome(r, i, math.MaxInt)
			wantStuck(t, r, api.ErrShort)
		}
	}
}

// readSome reads something, of the kind i.
func readSome(r *Reader, i, most int) {
	switch i {
	case 0:
		r.Number(most)
	case 1:
		r.Text(most)
	case 2:
		r.Raw(most)
	case 3:
		r.Flag()
	case 4:
		r.Count(most)
	}
}

// P4.2: numbers at and beyond the maximum, whatever it is.
func TestReadNumber(t *testing.T) {
	for _, c := range numbers {
		for _, most := range []int{c.n, math.MaxInt} {
			r := NewReader(append(slices.Clone(c.b), 6))
			want(t, "Number", r, r.Number(most), c.n, api.OK)
			wantDone(t, r, api.ErrForm)
			want(t, "Number", r, r.Number(6), 6, api.OK)
			wantDone(t, r, api.OK)
		}
		for _, most := range []int{c.n - 1, -1, math.MinInt} {
			r := NewReader(append(slices.Clone(c.b), 6))
			want(t, "Number", r, r.Number(most), 0, api.ErrLong)
			wantStuck(t, r, api.ErrLong)
		}
	}
	r := NewReader([]byte{9})
	want(t, "Number", r, r.Number(8), 0, api.ErrLong)
}

// badNumbers: bytes that no number begins with, with their errors; those that end too early are told only at the end.
var badNumbers = []struct {
	b   []byte
	err api.Errno
}{
	{nil, api.ErrShort},
	{[]byte{0x80}, api.ErrShort},
	{[]byte{0xff, 0x80}, api.ErrShort},
	{bytes.Repeat([]byte{0xff}, 9), api.ErrShort},
	{[]byte{0x80, 0}, api.ErrForm},
	{[]byte{0x81, 0}, api.ErrForm},
	{[]byte{0x81, 0, 'a', 'b'}, api.ErrForm},
	{[]byte{0xff, 0x80, 0}, api.ErrForm},
	{bytes.Repeat([]byte{0xff}, 10), api.ErrForm},
	{append(bytes.Repeat([]byte{0x80}, 9), 1), api.ErrForm},
}

// P4.2: the errors of a number come ahead of those of its size, in everything that begins with one.
func TestReadBadNumber(t *testing.T) {
	for _, c := range badNumbers {
		for _, i := range []int{0, 1, 2, 4} {
			for _, most := range []int{math.MinInt, -1, 0, 1, 300, math.MaxInt} {
				r := NewReader(slices.Concat([]byte{3}, c.b))
				r.Number(3)
				readSome(r, i, most)
				wantStuck(t, r, c.err)
			}
		}
	}
}

// P4.2: strings and bytes of the maximum, and of less.
func TestReadTextRaw(t *testing.T) {
	for _, s := range strange {
		b := slices.Concat([]byte{7}, sized(s), sized(s), []byte{8})
		for _, most := range []int{len(s), len(s) + 1, math.MaxInt} {
			r := NewReader(b)
			want(t, "Number", r, r.Number(7), 7, api.OK)
			want(t, "Text", r, r.Text(most), s, api.OK)
			want(t, "Raw", r, string(r.Raw(most)), s, api.OK)
			wantDone(t, r, api.ErrForm)
			want(t, "Number", r, r.Number(8), 8, api.OK)
			wantDone(t, r, api.OK)
		}
	}
}

// P4.2: a length beyond the maximum comes ahead of bytes that end too early.
func TestReadTextRawErrors(t *testing.T) {
	for _, c := range []struct {
		b    []byte
		most int
		err  api.Errno
	}{
		{[]byte{0}, -1, api.ErrLong},
		{[]byte{0}, math.MinInt, api.ErrLong},
		{[]byte{1, 'a'}, 0, api.ErrLong},
		{[]byte{3, 'a', 'b', 'c'}, 2, api.ErrLong},
		{[]byte{3, 'a'}, 2, api.ErrLong},
		{[]byte{3}, 2, api.ErrLong},
		{[]byte{3}, 3, api.ErrShort},
		{[]byte{3, 'a', 'b'}, 3, api.ErrShort},
		{[]byte{3, 'a', 'b'}, math.MaxInt, api.ErrShort},
		{number(math.MaxInt), math.MaxInt - 1, api.ErrLong},
		{number(math.MaxInt), math.MaxInt, api.ErrShort},
		{append(number(math.MaxInt-1), make([]byte, 40)...), math.MaxInt, api.ErrShort},
		{append(number(1<<32+1), 'a'), math.MaxInt, api.ErrShort},
		{append(number(300), make([]byte, 299)...), 300, api.ErrShort},
		{append(number(300), make([]byte, 300)...), 299, api.ErrLong},
	} {
		for _, i := range []int{1, 2} {
			r := NewReader(slices.Concat([]byte{1}, c.b))
			want(t, "Flag", r, r.Flag(), true, api.OK)
			readSome(r, i, c.most)
			wantStuck(t, r, c.err)
		}
	}
}

// P4.2: bytes beyond the end of the list are not read.
func TestReadBeyond(t *testing.T) {
	whole := []byte{3, 'a', 'b', 'c', 1}
	for size := range 4 {
		for _, i := range []int{1, 2, 4} {
			r := NewReader(whole[:size])
			readSome(r, i, 9)
			wantStuck(t, r, api.ErrShort)
		}
	}
}

// P4.2: a flag is one byte, 0 or 1, and nothing else.
func TestReadFlag(t *testing.T) {
	for c := range 256 {
		for _, after := range [][]byte{nil, {0}, {1}} {
			r := NewReader(append([]byte{byte(c)}, after...))
			if c > 1 {
				want(t, "Flag", r, r.Flag(), false, api.ErrForm)
				wantStuck(t, r, api.ErrForm)
				continue
			}
			want(t, "Flag", r, r.Flag(), c == 1, api.OK)
			want(t, "Raw", r, len(r.b)-r.at, len(after), api.OK)
		}
	}
	r := NewReader([]byte{1, 0, 1})
	want(t, "Flag", r, r.Flag(), true, api.OK)
	want(t, "Flag", r, r.Flag(), false, api.OK)
	want(t, "Flag", r, r.Flag(), true, api.OK)
	wantDone(t, r, api.OK)
	want(t, "Flag", r, r.Flag(), false, api.ErrShort)
}

// P4.2: a count of as many elements as bytes are left, and of one more.
func TestReadCount(t *testing.T) {
	for _, n := range []int{0, 1, 2, 127, 128, 300, 16384} {
		b := append(number(n), make([]byte, n)...)
		for _, most := range []int{n, n + 1, math.MaxInt} {
			r := NewReader(append(b, 0))
			want(t, "Count", r, r.Count(most), n, api.OK)
			for range n + 1 {
				want(t, "Number", r, r.Number(0), 0, api.OK)
			}
			wantDone(t, r, api.OK)
			r = NewReader(b)
			want(t, "Count", r, r.Count(most), n, api.OK)
			if n > 0 {
				r = NewReader(b[:len(b)-1])
				want(t, "Count", r, r.Count(most), 0, api.ErrShort)
				wantStuck(t, r, api.ErrShort)
			}
		}
	}
}

// P4.2: the errors of a count, in their order.
func TestReadCountErrors(t *testing.T) {
	for _, c := range []struct {
		b    []byte
		most int
		err  api.Errno
	}{
		{[]byte{0}, -1, api.ErrLong},
		{[]byte{0}, math.MinInt, api.ErrLong},
		{[]byte{4}, 3, api.ErrLong},
		{[]byte{4, 0, 0, 0}, 3, api.ErrLong},
		{[]byte{4, 0, 0, 0}, 4, api.ErrShort},
		{[]byte{1}, 1, api.ErrShort},
		{number(math.MaxInt), math.MaxInt, api.ErrShort},
		{number(math.MaxInt), math.MaxInt - 1, api.ErrLong},
		{append(number(128), make([]byte, 127)...), 128, api.ErrShort},
		{append(number(128), make([]byte, 128)...), 127, api.ErrLong},
	} {
		r := NewReader(c.b)
		want(t, "Count", r, r.Count(c.most), 0, c.err)
		wantStuck(t, r, c.err)
	}
}

// P4.2: Done tells what is left, and changes nothing.
func TestDoneChangesNothing(t *testing.T) {
	r := NewReader([]byte{5, 1})
	wantDone(t, r, api.ErrForm)
	want(t, "Number", r, r.Number(5), 5, api.OK)
	wantDone(t, r, api.ErrForm)
	want(t, "Flag", r, r.Flag(), true, api.OK)
	wantDone(t, r, api.OK)
	want(t, "Number", r, r.Number(5), 0, api.ErrShort)
	wantDone(t, r, api.ErrShort)
}

// P4.2: the first error stays, though the next read would have another one.
func TestFirstErrorStays(t *testing.T) {
	for _, c := range []struct {
		b   []byte
		i   int
		err api.Errno
	}{
		{[]byte{9, 2, 0x80}, 0, api.ErrLong},
		{[]byte{9, 2, 0x80}, 1, api.ErrLong},
		{[]byte{9, 2, 0x80}, 2, api.ErrLong},
		{[]byte{2, 0x80}, 3, api.ErrForm},
		{[]byte{8, 0x80, 0}, 4, api.ErrShort},
		{[]byte{0x80, 0, 9}, 0, api.ErrForm},
	} {
		r := NewReader(c.b)
		readSome(r, c.i, 8)
		wantStuck(t, r, c.err)
	}
}

// P4.2: a reader keeps none of the bytes it is given, changes none, and hands out none of its own.
func TestReaderNewMemory(t *testing.T) {
	b := []byte{2, 'a', 'b', 2, 'c', 'd', 1, 'e'}
	before := slices.Clone(b)
	r := NewReader(b[:6])
	other := NewReader(b)
	first := r.Raw(2)
	if !bytes.Equal(b, before) {
		t.Fatalf("a reader changed what it was given: %x", b)
	}
	clear(b)
	if string(first) != "ab" {
		t.Fatalf("Raw shares memory with what was given: %x", first)
	}
	clear(first[:cap(first)])
	second := r.Raw(2)
	want(t, "Raw", r, string(second), "cd", api.OK)
	clear(append(second, 0, 0, 0))
	wantDone(t, r, api.OK)
	want(t, "Text", other, other.Text(2), "ab", api.OK)
	third := other.Raw(2)
	_ = append(third, 'x', 'y', 'z')
	want(t, "Raw", other, string(third), "cd", api.OK)
	want(t, "Text", other, other.Text(2), "e", api.OK)
	wantDone(t, other, api.OK)
}

// thing is something that is written and read.
type thing struct {
	kind, n int
	s       string
	is      bool
}

// things returns a sequence of them by r.
func things(r *rand.Rand) []thing {
	list := make([]thing, r.Intn(12))
	for i := range list {
		s := make([]byte, r.Intn(4)*r.Intn(90))
		r.Read(s)
		list[i] = thing{kind: r.Intn(4), n: r.Int() >> r.Intn(63), s: string(s), is: r.Intn(2) == 0}
	}
	return list
}

// write writes x.
func (x thing) write(w *Writer) {
	switch x.kind {
	case 0:
		w.Number(x.n)
	case 1:
		w.Text(x.s)
	case 2:
		w.Raw([]byte(x.s))
	case 3:
		w.Flag(x.is)
	}
}

// isRead reports whether x is read next.
func (x thing) isRead(r *Reader) bool {
	switch x.kind {
	case 0:
		return r.Number(x.n) == x.n && r.Err() == api.OK
	case 1:
		return r.Text(len(x.s)) == x.s && r.Err() == api.OK
	case 2:
		return string(r.Raw(len(x.s))) == x.s && r.Err() == api.OK
	}
	return r.Flag() == x.is && r.Err() == api.OK
}

// P4.3: what was written is read in its order, and nothing is left; less is too short, more is left over.
func TestRoundTrip(t *testing.T) {
	random := rand.New(rand.NewSource(4))
	for range 4000 {
		list := things(random)
		var w Writer
		for _, x := range list {
			x.write(&w)
		}
		b := w.Bytes()
		r := NewReader(b)
		for i, x := range list {
			if !x.isRead(r) {
				t.Fatalf("%+v, the %d. of %x: error %d", x, i, b, r.Err())
			}
		}
		wantDone(t, r, api.OK)
		if len(b) == 0 {
			continue
		}
		less := NewReader(b[:random.Intn(len(b))])
		for _, x := range list {
			x.isRead(less)
		}
		wantDone(t, less, api.ErrShort)
		more := NewReader(append(b, 0))
		for _, x := range list {
			x.isRead(more)
		}
		wantDone(t, more, api.ErrForm)
	}
}

// P4.3: lists, by their number of elements and the elements.
func TestRoundTripList(t *testing.T) {
	for _, size := range []int{0, 1, 2, 127, 128, 5000} {
		var w Writer
		w.Number(size)
		for i := range size {
			w.Text(strings.Repeat("e", i%5))
			w.Flag(i%3 == 0)
		}
		r := NewReader(w.Bytes())
		want(t, "Count", r, r.Count(size), size, api.OK)
		for i := range size {
			want(t, "Text", r, r.Text(4), strings.Repeat("e", i%5), api.OK)
			want(t, "Flag", r, r.Flag(), i%3 == 0, api.OK)
		}
		wantDone(t, r, api.OK)
	}
}

// P4.3: much is written and read in little time.
func TestRoundTripMany(t *testing.T) {
	const size = 1 << 20
	var w Writer
	for i := range size {
		w.Number(i)
	}
	r := NewReader(w.Bytes())
	for i := range size {
		if got := r.Number(i); got != i {
			t.Fatalf("Number = %d, want %d, error %d", got, i, r.Err())
		}
	}
	wantDone(t, r, api.OK)
}
