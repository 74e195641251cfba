package crc

import (
	"bytes"
	"fmt"
	"hash/crc32"
	"math"
	"math/rand"
	"slices"
	"strings"
	"testing"
)

// samples: texts with their checksums, as they are widely known, and the digits of these.
var samples = []struct {
	text   string
	sum    uint32
	digits string
}{
	{"", 0, "00000000"},
	{"a", 0xe8b7be43, "e8b7be43"},
	{"abc", 0x352441c2, "352441c2"},
	{"123456789", 0xcbf43926, "cbf43926"},
	{"The quick brown fox jumps over the lazy dog", 0x414fa339, "414fa339"},
	{"\x00", 0xd202ef8d, "d202ef8d"},
	{"\xff", 0xff000000, "ff000000"},
	{"\x00\x00\x00\x00", 0x2144df1c, "2144df1c"},
	{"\xff\xff\xff\xff", 0xffffffff, "ffffffff"},
}

// defined returns the checksum of b bit by bit, as the chapter defines it.
func defined(b []byte) uint32 {
	register := uint32(math.MaxUint32)
	for _, c := range b {
		register ^= uint32(c)
		for range 8 {
			out := register & 1
			register >>= 1
			if out == 1 {
				register ^= 0xedb88320
			}
		}
	}
	return ^register
}

// noise returns size bytes by a fixed seed.
func noise(seed int64, size int) []byte {
	b := make([]byte, size)
	rand.New(rand.NewSource(seed)).Read(b)
	return b
}

// P2.1: the checksums of known texts.
func TestSumSamples(t *testing.T) {
	for _, s := range samples {
		if got := Sum([]byte(s.text)); got != s.sum {
			t.Errorf("Sum(%q) = %08x, want %08x", s.text, got, s.sum)
		}
	}
	if Sum(nil) != 0 || Sum([]byte{}) != 0 {
		t.Errorf("Sum(nil) = %08x, Sum of an empty list = %08x", Sum(nil), Sum([]byte{}))
	}
}

// P2.1: all texts of one and of two bytes, by the definition.
func TestSumShort(t *testing.T) {
	for v := range 1 << 16 {
		one, two := []byte{byte(v)}, []byte{byte(v), byte(v >> 8)}
		if got := Sum(one); got != defined(one) {
			t.Fatalf("Sum(%x) = %08x, want %08x", one, got, defined(one))
		}
		if got := Sum(two); got != defined(two) {
			t.Fatalf("Sum(%x) = %08x, want %08x", two, got, defined(two))
		}
	}
}

// P2.1: all lengths up to a few hundred bytes, and long texts, by the definition and by zip's checksum.
func TestSumLengths(t *testing.T) {
	sizes := []int{1<<16 - 1, 1 << 16, 1<<16 + 1, 1 << 20}
	for size := range 300 {
		sizes = append(sizes, size)
	}
	for _, size := range sizes {
		for _, b := range [][]byte{noise(int64(size), size), make([]byte, size), bytes.Repeat([]byte{0xff}, size)} {
			got := Sum(b)
			if got != defined(b) || got != crc32.ChecksumIEEE(b) {
				t.Fatalf("Sum of %d bytes %x.. = %08x, want %08x", size, b[:min(size, 8)], got, defined(b))
			}
		}
	}
}

// P2.1: the bytes beyond the end of a list don't count.
func TestSumEnd(t *testing.T) {
	whole := noise(1, 64)
	for size := range whole {
		if got := Sum(whole[:size]); got != Sum(slices.Clone(whole[:size])) {
			t.Errorf("Sum of the first %d of %d bytes = %08x", size, len(whole), got)
		}
	}
}

// P2.1: Add of known texts, and of nothing.
func TestAddSamples(t *testing.T) {
	if got := Add(Sum([]byte("1234")), []byte("56789")); got != 0xcbf43926 {
		t.Errorf("Add of 1234 and 56789 = %08x", got)
	}
	for _, s := range samples {
		if got := Add(0, []byte(s.text)); got != s.sum {
			t.Errorf("Add(0, %q) = %08x, want %08x", s.text, got, s.sum)
		}
		if a, b := Add(s.sum, nil), Add(s.sum, []byte{}); a != s.sum || b != s.sum {
			t.Errorf("Add(%08x, nothing) = %08x and %08x", s.sum, a, b)
		}
	}
}

// P2.1: Add takes every number as a checksum; that of four bytes may be any.
func TestAddAnySum(t *testing.T) {
	r := rand.New(rand.NewSource(2))
	sums := []uint32{0, 1, 0x7fffffff, 0x80000000, 0xedb88320, math.MaxUint32 - 1, math.MaxUint32}
	for range 1000 {
		sums = append(sums, r.Uint32())
	}
	b := noise(3, 40)
	for _, sum := range sums {
		if got := Add(sum, b); got != crc32.Update(sum, crc32.IEEETable, b) {
			t.Errorf("Add(%08x, %x) = %08x", sum, b, got)
		}
	}
}

// P2.1: the digits of known checksums.
func TestTextSamples(t *testing.T) {
	for _, s := range samples {
		if got := Text(s.sum); got != s.digits {
			t.Errorf("Text(%08x) = %q, want %q", s.sum, got, s.digits)
		}
	}
	for _, c := range []struct {
		sum  uint32
		text string
	}{
		{1, "00000001"},
		{0xf, "0000000f"},
		{0x10, "00000010"},
		{0x01234567, "01234567"},
		{0x89abcdef, "89abcdef"},
		{0xa0000000, "a0000000"},
		{0x7fffffff, "7fffffff"},
		{0x80000000, "80000000"},
		{math.MaxUint32, "ffffffff"},
	} {
		if got := Text(c.sum); got != c.text {
			t.Errorf("Text(%08x) = %q, want %q", c.sum, got, c.text)
		}
	}
}

// P2.1: every digit at every place, ahead of digits of all kinds: eight of them, in lower case.
func TestTextDigits(t *testing.T) {
	for place := range 8 {
		for digit := range uint32(16) {
			for _, rest := range []uint32{0, 0x0f1e2d3c, math.MaxUint32} {
				sum := rest&^(15<<(4*place)) | digit<<(4*place)
				got := Text(sum)
				if got != fmt.Sprintf("%08x", sum) || len(got) != 8 || got != strings.ToLower(got) {
					t.Errorf("Text(%08x) = %q", sum, got)
				}
			}
		}
	}
}

// P2.2: a checksum is continued at every place, and in parts of all sizes, empty ones among them.
func TestParts(t *testing.T) {
	b := noise(4, 257)
	want := Sum(b)
	for i := range len(b) + 1 {
		if got := Add(Sum(b[:i]), b[i:]); got != want {
			t.Errorf("cut at %d: %08x, want %08x", i, got, want)
		}
		for j := i; j <= len(b); j++ {
			if got := Add(Add(Sum(b[:i]), b[i:j]), b[j:]); got != want {
				t.Fatalf("cut at %d and %d: %08x, want %08x", i, j, got, want)
			}
		}
	}
	for size := 1; size <= len(b); size++ {
		sum := Sum(nil)
		for part := range slices.Chunk(b, size) {
			sum = Add(Add(sum, part), nil)
		}
		if sum != want {
			t.Errorf("parts of %d bytes: %08x, want %08x", size, sum, want)
		}
	}
}

// P2.3: all differences within four consecutive bytes. The difference of two checksums is the XOR of what each bit that differs gives; so none is 0 if what the 32 bits give is linearly independent.
func TestDifferencesIndependent(t *testing.T) {
	for _, size := range []int{4, 5, 8, 33, 300} {
		b := noise(int64(size), size)
		for at := range size - 3 {
			var rows []uint32
			for bit := range 32 {
				other := slices.Clone(b)
				other[at+bit/8] ^= 1 << (bit % 8)
				rows = append(rows, Sum(b)^Sum(other))
			}
			if got := rank(rows); got != 32 {
				t.Errorf("%d bytes, at %d: rank %d", size, at, got)
			}
		}
	}
}

// rank returns how many of the rows are linearly independent, as vectors of bits.
func rank(rows []uint32) int {
	var leads []uint32
	for _, row := range rows {
		for _, lead := range leads {
			row = min(row, row^lead)
		}
		if row != 0 {
			leads = append(leads, row)
		}
	}
	return len(leads)
}

// P2.3: differences of one to four bytes at every place, and within the shortest texts.
func TestDifferences(t *testing.T) {
	r := rand.New(rand.NewSource(5))
	for size := 1; size <= 60; size++ {
		b := noise(int64(size), size)
		for at := range size {
			for range 200 {
				other := slices.Clone(b)
				width := min(1+r.Intn(4), size-at)
				r.Read(other[at : at+width])
				if !bytes.Equal(b, other) && Sum(b) == Sum(other) {
					t.Fatalf("%x and %x: both %08x", b, other, Sum(b))
				}
			}
		}
	}
}

// P2.3: no two texts of one byte, of two and of three, have the same checksum.
func TestDifferencesAll(t *testing.T) {
	for size := 1; size <= 3; size++ {
		sums := make([]uint32, 0, 1<<(8*size))
		for v := range 1 << (8 * size) {
			sums = append(sums, Sum([]byte{byte(v), byte(v >> 8), byte(v >> 16)}[:size]))
		}
		slices.Sort(sums)
		if got := len(slices.Compact(sums)); got != 1<<(8*size) {
			t.Errorf("%d bytes: %d checksums", size, got)
		}
	}
}

// General rule 3: neither the bytes nor the memory beyond their end are changed.
func TestChangesNothing(t *testing.T) {
	whole := noise(6, 64)
	before := slices.Clone(whole)
	for _, size := range []int{0, 1, 7, 64} {
		Sum(whole[:size])
		Add(0x12345678, whole[:size])
		if !bytes.Equal(whole, before) {
			t.Fatalf("%d bytes: changed to %x", size, whole)
		}
	}
}
