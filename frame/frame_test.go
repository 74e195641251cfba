package frame

import (
	"bytes"
	"encoding/binary"
	"hash/crc32"
	"math"
	"math/rand"
	"slices"
	"testing"

	"changeover/api"
)

// samples: bodies with their frames, written out by hand.
var samples = []struct {
	body, frame []byte
}{
	{[]byte("a"), []byte{1, 'a', 0x43, 0xbe, 0xb7, 0xe8}},
	{[]byte{0}, []byte{1, 0, 0x8d, 0xef, 0x02, 0xd2}},
	{[]byte{0xff}, []byte{1, 0xff, 0, 0, 0, 0xff}},
	{[]byte("abc"), []byte{3, 'a', 'b', 'c', 0xc2, 0x41, 0x24, 0x35}},
	{[]byte("hello"), []byte{5, 'h', 'e', 'l', 'l', 'o', 0x86, 0xa6, 0x10, 0x36}},
	{[]byte("123456789"), []byte{9, '1', '2', '3', '4', '5', '6', '7', '8', '9', 0x26, 0x39, 0xf4, 0xcb}},
}

// noise returns size bytes by a fixed seed.
func noise(seed int64, size int) []byte {
	b := make([]byte, size)
	rand.New(rand.NewSource(seed)).Read(b)
	return b
}

// framed returns the frame of body as the chapter defines it.
func framed(body []byte) []byte {
	b := binary.AppendUvarint(nil, uint64(len(body)))
	b = append(b, body...)
	return binary.LittleEndian.AppendUint32(b, crc32.ChecksumIEEE(body))
}

// bodies returns bodies of many lengths, those around the edges of their lengths' encodings and of the limit among them.
func bodies() [][]byte {
	var list [][]byte
	for _, size := range []int{1, 2, 3, 4, 5, 126, 127, 128, 129, 300, 16383, 16384, 16385, api.MaxBytes - 1, api.MaxBytes} {
		list = append(list, noise(int64(size), size), make([]byte, size), bytes.Repeat([]byte{0xff}, size))
	}
	for _, s := range samples {
		list = append(list, s.body)
	}
	return list
}

// joined returns the frames of the bodies, one directly after the other.
func joined(bodies ...[]byte) []byte {
	var b []byte
	for _, body := range bodies {
		b = append(b, framed(body)...)
	}
	return b
}

// add returns what Add makes of body, and fails the test if that is an error.
func add(t *testing.T, b, body []byte) []byte {
	t.Helper()
	got, err := Add(b, body)
	if err != api.OK {
		t.Fatalf("Add(%d bytes, %d bytes): error %d", len(b), len(body), err)
	}
	return got
}

// wantNext fails the test unless Next(b, at) returns exactly this.
func wantNext(t *testing.T, b []byte, at int, body []byte, end int, err api.Errno) {
	t.Helper()
	gotBody, gotEnd, gotErr := Next(b, at)
	if !bytes.Equal(gotBody, body) || gotEnd != end || gotErr != err {
		t.Fatalf("Next(%x.. of %d bytes, %d) = %d bytes, %d, %d, want %d bytes, %d, %d",
			b[:min(len(b), 16)], len(b), at, len(gotBody), gotEnd, gotErr, len(body), end, err)
	}
}

// wantScan fails the test unless Scan(b) returns exactly these bodies, and this position.
func wantScan(t *testing.T, b []byte, at int, bodies ...[]byte) {
	t.Helper()
	got, gotAt := Scan(b)
	if !slices.EqualFunc(got, bodies, bytes.Equal) || gotAt != at {
		t.Fatalf("Scan(%x.. of %d bytes) = %d bodies, %d, want %d bodies, %d",
			b[:min(len(b), 16)], len(b), len(got), gotAt, len(bodies), at)
	}
}

// P3.1: the frames written out by hand, after nothing and after other bytes.
func TestAddSamples(t *testing.T) {
	for _, s := range samples {
		for _, before := range [][]byte{nil, {}, {0}, {0x80, 0xff, 7}} {
			if got := add(t, before, s.body); !bytes.Equal(got, slices.Concat(before, s.frame)) {
				t.Errorf("Add(%x, %x) = %x, want %x and %x", before, s.body, got, before, s.frame)
			}
		}
	}
}

// P3.1: the frames of bodies of all sizes, up to the greatest.
func TestAddSizes(t *testing.T) {
	for _, body := range bodies() {
		if got := add(t, []byte{9, 8}, body); !bytes.Equal(got, slices.Concat([]byte{9, 8}, framed(body))) {
			t.Errorf("Add(0908, %d bytes %x..) = %x..", len(body), body[:min(len(body), 4)], got[:8])
		}
	}
}

// P3.1: what no frame has, with nothing beside the error.
func TestAddErrors(t *testing.T) {
	for _, c := range []struct {
		body []byte
		err  api.Errno
	}{
		{nil, api.ErrForm},
		{[]byte{}, api.ErrForm},
		{make([]byte, 0, 9), api.ErrForm},
		{make([]byte, api.MaxBytes+1), api.ErrLong},
		{noise(1, api.MaxBytes+1), api.ErrLong},
		{make([]byte, 2*api.MaxBytes), api.ErrLong},
		{make([]byte, 1<<21), api.ErrLong},
	} {
		for _, before := range [][]byte{nil, {}, {1, 2, 3}, samples[0].frame} {
			if got, err := Add(before, c.body); len(got) != 0 || err != c.err {
				t.Errorf("Add(%x, %d bytes) = %d bytes, %d, want error %d", before, len(c.body), len(got), err, c.err)
			}
		}
	}
}

// P3.1: the result of Add is new memory, and nothing that is given is changed, nor what lies beyond its end.
func TestAddNewMemory(t *testing.T) {
	whole := noise(2, 64)
	before := slices.Clone(whole)
	for size := range 40 {
		for _, from := range []int{0, size, max(size-2, 0)} {
			b, body := whole[:size], whole[from:from+7] // body lies beyond the end of b, or overlaps it
			got := add(t, b, body)
			if want := slices.Concat(before[:size], framed(before[from:from+7])); !bytes.Equal(got, want) {
				t.Fatalf("Add of bytes 0 to %d and %d to %d = %x, want %x", size, from, from+7, got, want)
			}
			clear(got[:cap(got)])
			if !bytes.Equal(whole, before) {
				t.Fatalf("Add of bytes 0 to %d and %d to %d: memory shared or changed", size, from, from+7)
			}
		}
	}
}

// P3.1: Len at the edges of the lengths' encodings, and for what has no frame.
func TestLenSamples(t *testing.T) {
	for _, c := range []struct{ n, want int }{
		{1, 6}, {2, 7}, {126, 131}, {127, 132}, {128, 134}, {129, 135},
		{16383, 16389}, {16384, 16391}, {api.MaxBytes - 1, 65542}, {api.MaxBytes, 65543},
		{0, 0}, {-1, 0}, {-128, 0}, {math.MinInt, 0}, {math.MinInt + 1, 0},
		{api.MaxBytes + 1, 0}, {1 << 21, 0}, {1 << 32, 0}, {1<<32 + 1, 0}, {math.MaxInt, 0},
	} {
		if got := Len(c.n); got != c.want {
			t.Errorf("Len(%d) = %d, want %d", c.n, got, c.want)
		}
	}
}

// P3.1: Len is the length of what Add makes of a body, which is nothing where there is no frame.
func TestLenAdd(t *testing.T) {
	sizes := []int{16383, 16384, 16385, api.MaxBytes - 1, api.MaxBytes, api.MaxBytes + 1}
	for n := range 300 {
		sizes = append(sizes, n, 200*n)
	}
	for _, n := range sizes {
		got, _ := Add(nil, make([]byte, n))
		if Len(n) != len(got) {
			t.Errorf("Len(%d) = %d, but a frame has %d bytes", n, Len(n), len(got))
		}
	}
}

// P3.2: Next reads a frame at any position, whatever stands around it.
func TestNext(t *testing.T) {
	for _, body := range bodies() {
		frame := framed(body)
		for _, before := range [][]byte{nil, {0}, {0x80, 0x80}, samples[1].frame} {
			for _, after := range [][]byte{nil, {0}, {0xff, 0xff, 0xff}, samples[0].frame} {
				at := len(before)
				wantNext(t, slices.Concat(before, frame, after), at, body, at+len(frame), api.OK)
			}
		}
	}
}

// P3.2: positions that there are not, which is told ahead of anything else.
func TestNextRange(t *testing.T) {
	for _, b := range [][]byte{nil, {}, {0}, {0x80, 0}, samples[0].frame, make([]byte, 2, 9)} {
		for _, at := range []int{-1, -2, math.MinInt, len(b) + 1, len(b) + 2, math.MaxInt} {
			wantNext(t, b, at, nil, 0, api.ErrRange)
		}
		wantNext(t, b, len(b), nil, 0, api.ErrShort)
	}
}

// P3.2: every error of a length, in the order of the chapter.
func TestNextLength(t *testing.T) {
	long := binary.AppendUvarint(nil, api.MaxBytes+1)
	for _, c := range []struct {
		b   []byte
		err api.Errno
	}{
		{nil, api.ErrShort},
		{[]byte{}, api.ErrShort},
		{make([]byte, 0, 9), api.ErrShort},
		{[]byte{0x80}, api.ErrShort},
		{[]byte{0x81, 0x80}, api.ErrShort},
		{bytes.Repeat([]byte{0xff}, 9), api.ErrShort},
		{[]byte{0x80, 0}, api.ErrForm},
		{[]byte{0x81, 0, 'a', 0x43, 0xbe, 0xb7, 0xe8}, api.ErrForm},
		{bytes.Repeat([]byte{0xff}, 10), api.ErrForm},
		{append(bytes.Repeat([]byte{0x80}, 9), 1), api.ErrForm},
		{[]byte{0}, api.ErrForm},
		{[]byte{0, 0}, api.ErrForm},
		{[]byte{0, 0, 0, 0, 0}, api.ErrForm}, // with the checksum of no bytes
		{[]byte{0, 1, 'a', 0x43, 0xbe, 0xb7, 0xe8}, api.ErrForm},
		{long, api.ErrLong},
		{slices.Concat(long, make([]byte, 100)), api.ErrLong},
		{framed(make([]byte, api.MaxBytes+1)), api.ErrLong},
		{framed(make([]byte, 1<<21)), api.ErrLong},
		{binary.AppendUvarint(nil, 1<<32+1), api.ErrLong},
		{binary.AppendUvarint(nil, 1<<62), api.ErrLong},
		{binary.AppendUvarint(nil, math.MaxInt), api.ErrLong},
		{binary.AppendUvarint(nil, math.MaxInt-4), api.ErrLong},
		{binary.AppendUvarint(nil, api.MaxBytes), api.ErrShort},
		{slices.Concat(binary.AppendUvarint(nil, api.MaxBytes), make([]byte, api.MaxBytes+3)), api.ErrShort},
		{slices.Concat(binary.AppendUvarint(nil, api.MaxBytes), make([]byte, api.MaxBytes+4)), api.ErrSum},
	} {
		wantNext(t, c.b, 0, nil, 0, c.err)
		wantNext(t, slices.Concat([]byte{7, 0x80}, c.b), 2, nil, 0, c.err)
	}
}

// P3.2: a frame that ends too early at any place, also one whose bytes are wrong, and one that goes on beyond the end of the list.
func TestNextShort(t *testing.T) {
	for _, s := range samples {
		wrong := slices.Clone(s.frame)
		wrong[1] ^= 1
		for size := range s.frame {
			wantNext(t, slices.Clone(s.frame[:size]), 0, nil, 0, api.ErrShort)
			wantNext(t, wrong[:size], 0, nil, 0, api.ErrShort)
			wantNext(t, s.frame[:size], 0, nil, 0, api.ErrShort)
			wantNext(t, slices.Concat([]byte{0}, s.frame[:size]), 1, nil, 0, api.ErrShort)
		}
		wantNext(t, wrong, 0, nil, 0, api.ErrSum)
	}
}

// P3.2: every bit of the body and of the checksum counts.
func TestNextSum(t *testing.T) {
	for _, body := range [][]byte{{'a'}, []byte("hello"), noise(3, 127), noise(4, 128), noise(5, 300)} {
		frame := framed(body)
		for bit := 8 * (len(frame) - len(body) - 4); bit < 8*len(frame); bit++ {
			frame[bit/8] ^= 1 << (bit % 8)
			wantNext(t, frame, 0, nil, 0, api.ErrSum)
			frame[bit/8] ^= 1 << (bit % 8)
		}
		wantNext(t, frame, 0, body, len(frame), api.OK)
	}
	reversed := []byte{1, 'a', 0xe8, 0xb7, 0xbe, 0x43}
	wantNext(t, reversed, 0, nil, 0, api.ErrSum)
}

// P3.2: the body is new memory, and nothing that is given is changed.
func TestNextNewMemory(t *testing.T) {
	whole := joined([]byte("hello"), noise(6, 40))
	before := slices.Clone(whole)
	for _, at := range []int{0, Len(5)} {
		body, _, err := Next(whole, at)
		if err != api.OK {
			t.Fatalf("Next(%x, %d): error %d", whole, at, err)
		}
		clear(body[:cap(body)])
		if !bytes.Equal(whole, before) {
			t.Errorf("Next(.., %d): memory shared or changed", at)
		}
	}
}

// P3.2: the example of the chapter, and bytes without any frame.
func TestScanSamples(t *testing.T) {
	two := joined([]byte("hello"), []byte{0})
	wantScan(t, append(slices.Clone(two), 3, 1), len(two), []byte("hello"), []byte{0})
	wantScan(t, two, len(two), []byte("hello"), []byte{0})
	for _, b := range [][]byte{nil, {}, {0}, {3, 1}, {0x80, 0}, {1, 'a', 0, 0, 0, 0}, make([]byte, 0, 9)} {
		wantScan(t, b, 0)
	}
}

// P3.2: Scan ends ahead of an error of each kind, though there are frames behind it.
func TestScanErrors(t *testing.T) {
	good := joined([]byte("a"), noise(7, 200))
	for _, bad := range [][]byte{
		{0},                                 // ErrForm, a length 0
		{0x80, 0},                           // ErrForm, no encoding
		{0x81, 0x80, 4},                     // ErrLong: 65537
		{1, 'a', 0x43, 0xbe, 0xb7, 0xe9},    // ErrSum
		{0xf0, 0x7f},                        // ErrShort: 16368 bytes that there are not
		{2, 'a', 0x43, 0xbe, 0xb7, 0xe8, 0}, // ErrSum, by a wrong length
	} {
		b := slices.Concat(good, bad, good)
		if _, _, err := Next(b, len(good)); err == api.OK {
			t.Fatalf("%x is a frame", bad)
		}
		wantScan(t, b, len(good), []byte("a"), noise(7, 200))
		wantScan(t, slices.Concat(bad, good), 0)
	}
}

// P3.2: no two bodies of Scan share memory, nor does any with what was given.
func TestScanNewMemory(t *testing.T) {
	want := [][]byte{[]byte("hello"), {0}, noise(8, 130), []byte("a")}
	whole := joined(want...)
	before := slices.Clone(whole)
	list, _ := Scan(whole)
	for i, body := range list {
		clear(body[:cap(body)])
		for j := i + 1; j < len(list); j++ {
			if !bytes.Equal(list[j], want[j]) {
				t.Fatalf("bodies %d and %d share memory", i, j)
			}
		}
	}
	if !bytes.Equal(whole, before) {
		t.Error("Scan: memory shared with what was given, or changed")
	}
}

// P3.2: Scan is what Next returns, frame by frame, for bytes of which some are frames.
func TestScanNext(t *testing.T) {
	r := rand.New(rand.NewSource(9))
	for range 3000 {
		var b []byte
		for range r.Intn(6) {
			b = append(b, framed(noise(r.Int63(), 1+r.Intn(140)))...)
		}
		for range r.Intn(3) {
			b = append(b, byte(r.Intn(4)))
		}
		if len(b) > 0 && r.Intn(2) == 0 {
			b[r.Intn(len(b))] ^= byte(r.Intn(256))
		}
		var want [][]byte
		at := 0
		for {
			body, end, err := Next(b, at)
			if err != api.OK {
				break
			}
			want, at = append(want, body), end
		}
		wantScan(t, b, at, want...)
	}
}

// P3.2: Scan of many frames, and of the greatest ones.
func TestScanMany(t *testing.T) {
	var want [][]byte
	var b []byte
	for i := range 20000 {
		body := []byte{byte(i), byte(i >> 8)}
		want, b = append(want, body), append(b, framed(body)...)
	}
	for i := range 5 {
		body := noise(int64(i), api.MaxBytes-i%2)
		want, b = append(want, body), append(b, framed(body)...)
	}
	wantScan(t, b, len(b), want...)
	wantScan(t, b[:len(b)-1], len(b)-Len(api.MaxBytes), want[:len(want)-1]...)
}

// P3.3: frames are read as they were written, whatever they follow.
func TestRoundTrip(t *testing.T) {
	var b []byte
	ends := []int{0}
	for _, body := range bodies() {
		b = add(t, b, body)
		ends = append(ends, len(b))
	}
	for i, body := range bodies() {
		wantNext(t, b, ends[i], body, ends[i+1], api.OK)
		if ends[i+1]-ends[i] != Len(len(body)) {
			t.Errorf("a frame of %d bytes takes %d, Len is %d", len(body), ends[i+1]-ends[i], Len(len(body)))
		}
	}
	wantScan(t, b, len(b), bodies()...)
}

// P3.3: of frames that are cut off anywhere, exactly the complete ones are returned.
func TestTruncated(t *testing.T) {
	list := [][]byte{[]byte("hello"), {0}, noise(10, 127), noise(11, 128), []byte("abc"), noise(12, 129)}
	var b []byte
	ends := []int{0}
	for _, body := range list {
		b = add(t, b, body)
		ends = append(ends, len(b))
	}
	for size := range len(b) + 1 {
		whole := 0
		for whole < len(list) && ends[whole+1] <= size {
			whole++
		}
		wantScan(t, slices.Clone(b[:size]), ends[whole], list[:whole]...)
		wantScan(t, b[:size], ends[whole], list[:whole]...)
		if size < len(b) {
			wantNext(t, b[:size], ends[whole], nil, 0, api.ErrShort)
		}
	}
}

// P3.4: bodies of all sizes, changed within one to four consecutive bytes at every place.
func TestChanged(t *testing.T) {
	r := rand.New(rand.NewSource(13))
	for _, size := range []int{1, 2, 3, 4, 5, 8, 40, 127, 128, 300} {
		body := noise(int64(size), size)
		frame := add(t, nil, body)
		head := len(frame) - size - 4
		for at := range size {
			for range 100 {
				other := slices.Clone(frame)
				width := min(1+r.Intn(4), size-at)
				r.Read(other[head+at : head+at+width])
				if bytes.Equal(other, frame) {
					continue
				}
				wantNext(t, other, 0, nil, 0, api.ErrSum)
				wantScan(t, slices.Concat(frame, other, frame), len(frame), body)
			}
		}
	}
}

// P3.4: all other bodies of one byte and of two with the checksum of the one that was written.
func TestChangedAll(t *testing.T) {
	for size := 1; size <= 2; size++ {
		body := noise(14, size)
		frame := add(t, nil, body)
		for v := range 1 << (8 * size) {
			other := slices.Clone(frame)
			copy(other[1:1+size], []byte{byte(v), byte(v >> 8)})
			if !bytes.Equal(other, frame) {
				wantNext(t, other, 0, nil, 0, api.ErrSum)
			}
		}
	}
}

// P3.4: the greatest body, changed at its begin, in its middle and at its end.
func TestChangedGreatest(t *testing.T) {
	frame := add(t, nil, noise(15, api.MaxBytes))
	head := len(frame) - api.MaxBytes - 4
	for _, at := range []int{0, 1, api.MaxBytes / 2, api.MaxBytes - 5, api.MaxBytes - 4} {
		for _, change := range []uint32{1, 0x80, 0x80000000, 0xedb88320, 0xdb710641, math.MaxUint32} {
			other := slices.Clone(frame)
			part := other[head+at : head+at+4]
			binary.LittleEndian.PutUint32(part, binary.LittleEndian.Uint32(part)^change)
			wantNext(t, other, 0, nil, 0, api.ErrSum)
		}
	}
}

// General rule 3: neither the bytes that are read nor the memory beyond their end are changed.
func TestReadingChangesNothing(t *testing.T) {
	whole := joined([]byte("hello"), []byte{0}, noise(16, 150))
	before := slices.Clone(whole)
	for size := range len(whole) + 1 {
		Scan(whole[:size])
		for _, at := range []int{-1, 0, size / 2, size} {
			Next(whole[:size], at)
		}
	}
	if !bytes.Equal(whole, before) {
		t.Error("what was given is changed")
	}
}
