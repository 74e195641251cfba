package varint

import (
	"bytes"
	"math"
	"math/rand"
	"slices"
	"testing"

	"changeover/api"
)

// samples: numbers with their encodings, written out by hand.
var samples = []struct {
	n    int
	code []byte
}{
	{0, []byte{0}},
	{1, []byte{1}},
	{127, []byte{0x7f}},
	{128, []byte{0x80, 1}},
	{300, []byte{0xac, 2}},
	{16383, []byte{0xff, 0x7f}},
	{16384, []byte{0x80, 0x80, 1}},
	{1<<32 + 5, []byte{0x85, 0x80, 0x80, 0x80, 0x10}},
	{1<<56 - 1, []byte{0xff, 0xff, 0xff, 0xff, 0xff, 0xff, 0xff, 0x7f}},
	{1 << 56, []byte{0x80, 0x80, 0x80, 0x80, 0x80, 0x80, 0x80, 0x80, 1}},
	{1 << 62, []byte{0x80, 0x80, 0x80, 0x80, 0x80, 0x80, 0x80, 0x80, 0x40}},
	{math.MaxInt, []byte{0xff, 0xff, 0xff, 0xff, 0xff, 0xff, 0xff, 0xff, 0x7f}},
}

// numbers returns every power of two with its neighbours, small numbers, and numbers of all sizes by a fixed seed.
func numbers() []int {
	list := []int{math.MaxInt}
	for n := range 1 << 15 {
		list = append(list, n)
	}
	for bit := range 63 {
		list = append(list, 1<<bit-1, 1<<bit, 1<<bit+1)
	}
	r := rand.New(rand.NewSource(1))
	for range 5000 {
		list = append(list, r.Int()>>r.Intn(63))
	}
	return list
}

// P1.1: the bytes of Put.
func TestPutSamples(t *testing.T) {
	for _, s := range samples {
		if got := Put(nil, s.n); !bytes.Equal(got, s.code) {
			t.Errorf("Put(nil, %d) = %x, want %x", s.n, got, s.code)
		}
		if got := Put([]byte{9, 0x80}, s.n); !bytes.Equal(got, append([]byte{9, 0x80}, s.code...)) {
			t.Errorf("Put(0980, %d) = %x", s.n, got)
		}
	}
}

// P1.1: the groups of any number, least significant first, and 128 added to all but the last one.
func TestPutGroups(t *testing.T) {
	for _, n := range numbers() {
		b := Put([]byte{}, n)
		rest := n
		for i, c := range b {
			if int(c&0x7f) != rest%128 || (c >= 128) != (i < len(b)-1) {
				t.Fatalf("%d: byte %d of %x", n, i, b)
			}
			rest /= 128
		}
		if rest != 0 || len(b) > 1 && b[len(b)-1] == 0 {
			t.Fatalf("%d: %x", n, b)
		}
	}
}

// P1.1: a negative number is encoded as 0.
func TestPutNegative(t *testing.T) {
	for _, n := range []int{-1, -127, -128, -129, math.MinInt + 1, math.MinInt} {
		if got := Put([]byte{7}, n); !bytes.Equal(got, []byte{7, 0}) {
			t.Errorf("Put(07, %d) = %x", n, got)
		}
		if got := Len(n); got != 1 {
			t.Errorf("Len(%d) = %d", n, got)
		}
	}
}

// P1.1: the result of Put is new memory, and neither b nor what lies beyond its end is changed.
func TestPutNewMemory(t *testing.T) {
	whole := bytes.Repeat([]byte{0xee}, 32)
	for _, s := range samples {
		for _, size := range []int{0, 1, 5} {
			b := whole[:size]
			got := Put(b, s.n)
			if !bytes.Equal(whole, bytes.Repeat([]byte{0xee}, 32)) {
				t.Fatalf("Put(%x, %d) changed what it was given: %x", b, s.n, whole)
			}
			for i := range got {
				got[i] = 0x11
			}
			if !bytes.Equal(whole, bytes.Repeat([]byte{0xee}, 32)) {
				t.Fatalf("Put(%x, %d) shares memory with what it was given", b, s.n)
			}
		}
	}
}

// P1.1: Len at every edge between two lengths, and against Put.
func TestLen(t *testing.T) {
	for size := 1; size <= 9; size++ {
		least, most := 1<<(7*(size-1)), math.MaxInt
		if size == 1 {
			least = 0
		}
		if size < 9 {
			most = 1<<(7*size) - 1
		}
		if Len(least) != size || Len(most) != size {
			t.Errorf("Len(%d) = %d, Len(%d) = %d, want %d", least, Len(least), most, Len(most), size)
		}
	}
	for _, n := range numbers() {
		if Len(n) != len(Put(nil, n)) {
			t.Fatalf("Len(%d) = %d", n, Len(n))
		}
	}
}

// P1.2: the numbers of encodings written by hand, and the position after them.
func TestGetSamples(t *testing.T) {
	for _, s := range samples {
		b := slices.Concat([]byte{0xff, 0}, s.code, []byte{0})
		n, end, err := Get(b, 2)
		if n != s.n || end != 2+len(s.code) || err != api.OK {
			t.Errorf("Get(%x, 2) = %d, %d, %d", b, n, end, err)
		}
	}
}

// P1.2: every error, with zeros beside it.
func TestGetErrors(t *testing.T) {
	nine := bytes.Repeat([]byte{0x80}, 9)
	full := bytes.Repeat([]byte{0xff}, 9)
	for _, c := range []struct {
		b   []byte
		at  int
		err api.Errno
	}{
		{nil, 1, api.ErrRange},
		{nil, -1, api.ErrRange},
		{[]byte{5}, 2, api.ErrRange},
		{[]byte{5}, -1, api.ErrRange},
		{[]byte{5}, math.MaxInt, api.ErrRange},
		{[]byte{5}, math.MinInt, api.ErrRange},
		{make([]byte, 1, 9), 2, api.ErrRange},
		{nil, 0, api.ErrShort},
		{[]byte{}, 0, api.ErrShort},
		{[]byte{5}, 1, api.ErrShort},
		{[]byte{0x80}, 0, api.ErrShort},
		{[]byte{0xff, 0xff}, 0, api.ErrShort},
		{[]byte{5, 0x80}, 1, api.ErrShort},
		{make([]byte, 0, 9), 0, api.ErrShort},
		{nine, 0, api.ErrShort},
		{full, 0, api.ErrShort},
		{[]byte{0x80, 0}, 0, api.ErrForm},
		{[]byte{0xff, 0}, 0, api.ErrForm},
		{[]byte{0x80, 0, 0x80}, 0, api.ErrForm},
		{[]byte{0x80, 0x80, 0}, 0, api.ErrForm},
		{[]byte{0, 0x80, 0}, 1, api.ErrForm},
		{slices.Concat(nine[:8], []byte{0}), 0, api.ErrForm},
		{slices.Concat(nine, []byte{0}), 0, api.ErrForm},
		{slices.Concat(nine, []byte{1}), 0, api.ErrForm},
		{slices.Concat(nine, []byte{0x80}), 0, api.ErrForm},
		{slices.Concat(full, []byte{0x7f}), 0, api.ErrForm},
		{slices.Concat(full, full), 0, api.ErrForm},
		{slices.Concat([]byte{3}, full, []byte{0xff, 1}), 1, api.ErrForm},
	} {
		if n, end, err := Get(c.b, c.at); n != 0 || end != 0 || err != c.err {
			t.Errorf("Get(%x, %d) = %d, %d, %d, want error %d", c.b, c.at, n, end, err, c.err)
		}
	}
}

// P1.2: every prefix of an encoding ends too early.
func TestGetTruncated(t *testing.T) {
	for _, s := range samples {
		for size := range s.code {
			if n, end, err := Get(s.code[:size], 0); n != 0 || end != 0 || err != api.ErrShort {
				t.Errorf("Get(%x, 0) = %d, %d, %d", s.code[:size], n, end, err)
			}
		}
	}
}

// P1.2: Get changes nothing that it is given.
func TestGetChangesNothing(t *testing.T) {
	for _, s := range samples {
		b := slices.Clone(s.code)
		Get(b, 0)
		if !bytes.Equal(b, s.code) {
			t.Errorf("Get changed %x to %x", s.code, b)
		}
	}
}

// P1.3: numbers are decoded from their encodings, whatever stands around these.
func TestRoundTrip(t *testing.T) {
	for _, before := range [][]byte{nil, {0}, {0x80}, {1, 0xff, 0xff}} {
		for _, after := range [][]byte{nil, {0}, {0x80, 0}, bytes.Repeat([]byte{0xff}, 12)} {
			for _, n := range numbers() {
				code := Put(before, n)
				got, end, err := Get(slices.Concat(code, after), len(before))
				if got != n || end != len(code) || err != api.OK {
					t.Fatalf("%d between %x and %x: %d, %d, %d", n, before, after, got, end, err)
				}
			}
		}
	}
}

// P1.3: what is decoded has no second encoding; all texts of up to three bytes.
func TestOneEncoding(t *testing.T) {
	for size := 1; size <= 3; size++ {
		b := make([]byte, size)
		for v := range 1 << (8 * size) {
			for i := range b {
				b[i] = byte(v >> (8 * i))
			}
			n, end, err := Get(b, 0)
			if err == api.OK && (Len(n) != end || !bytes.Equal(Put(nil, n), b[:end])) {
				t.Fatalf("%x is decoded as %d up to %d", b, n, end)
			}
		}
	}
}

// P1.3: no encoding is a prefix of another one.
func TestNoPrefix(t *testing.T) {
	var codes [][]byte
	for _, n := range numbers() {
		codes = append(codes, Put(nil, n))
	}
	slices.SortFunc(codes, bytes.Compare)
	codes = slices.CompactFunc(codes, bytes.Equal)
	// A prefix is sorted directly ahead of some text that begins with it.
	for i := 1; i < len(codes); i++ {
		if bytes.HasPrefix(codes[i], codes[i-1]) {
			t.Errorf("%x is a prefix of %x", codes[i-1], codes[i])
		}
	}
}
