package disk

import (
	"bytes"
	"math"
	"math/rand"
	"slices"
	"testing"

	"changeover/api"
)

// The kinds and the limit of the chapter, written out.
const (
	makes = 1
	adds  = 2
	drops = 3
	most  = 1 << 32
)

// made, added and dropped return operations.
func made(no int) api.DiskOp               { return api.DiskOp{Kind: makes, No: no} }
func added(no int, text string) api.DiskOp { return api.DiskOp{Kind: adds, No: no, Data: []byte(text)} }
func dropped(no int) api.DiskOp            { return api.DiskOp{Kind: drops, No: no} }

// file returns a file.
func file(no int, text string) api.File {
	return api.File{No: no, Data: []byte(text)}
}

// do calls the method that buffers an operation.
func do(d *Disk, l ...api.DiskOp) {
	for _, op := range l {
		switch op.Kind {
		case makes:
			d.Make(op.No)
		case adds:
			d.Add(op.No, op.Data)
		case drops:
			d.Drop(op.No)
		}
	}
}

// after tells what a file contains after operations, and whether it is there: of all of them, only its own count.
func after(l []api.DiskOp, no int) (string, bool) {
	text, is := "", false
	for _, op := range l {
		if op.No != no {
			continue
		}
		switch {
		case op.Kind == makes && !is:
			text, is = "", true
		case op.Kind == adds && is:
			text += string(op.Data)
		case op.Kind == drops:
			text, is = "", false
		}
	}
	return text, is
}

// files returns all files after operations, from no file at all, in ascending order.
func files(l []api.DiskOp) []api.File {
	var numbers []int
	for _, op := range l {
		numbers = append(numbers, op.No)
	}
	slices.Sort(numbers)
	var out []api.File
	for i, no := range numbers {
		if i > 0 && numbers[i-1] == no {
			continue
		}
		if text, is := after(l, no); is {
			out = append(out, file(no, text))
		}
	}
	return out
}

// left returns what a crash leaves of buffered operations.
func left(l []api.DiskOp, keep, torn int) []api.DiskOp {
	if keep < 0 {
		keep = 0
	}
	if keep >= len(l) {
		return l
	}
	out := slices.Clone(l[:keep])
	if next := l[keep]; next.Kind == adds {
		text := string(next.Data)
		switch {
		case torn <= 0:
			text = ""
		case torn < len(text):
			text = text[:torn]
		}
		out = append(out, added(next.No, text))
	}
	return out
}

// sameFiles reports whether two lists have the same files.
func sameFiles(a, b []api.File) bool {
	return slices.EqualFunc(a, b, func(x, y api.File) bool {
		return x.No == y.No && bytes.Equal(x.Data, y.Data)
	})
}

// sameOps reports whether two lists have the same operations.
func sameOps(a, b []api.DiskOp) bool {
	return slices.EqualFunc(a, b, func(x, y api.DiskOp) bool {
		return x.Kind == y.Kind && x.No == y.No && bytes.Equal(x.Data, y.Data)
	})
}

// check fails unless the disk has what the durable operations result in, and these buffered operations.
func check(t *testing.T, d *Disk, durable, buffered []api.DiskOp) {
	t.Helper()
	if got, want := d.Files(), files(durable); !sameFiles(got, want) {
		t.Fatalf("after %v and buffered %v: Files %v, want %v", durable, buffered, got, want)
	}
	if got, want := d.View(), files(slices.Concat(durable, buffered)); !sameFiles(got, want) {
		t.Fatalf("after %v and buffered %v: View %v, want %v", durable, buffered, got, want)
	}
	if got := d.Buffered(); !sameOps(got, buffered) {
		t.Fatalf("after %v: Buffered %v, want %v", durable, got, buffered)
	}
}

// P18.1: a new disk has no files and nothing buffered, and is not another one.
func TestNew(t *testing.T) {
	d, other := New(), New()
	if d == nil || other == nil || d == other {
		t.Fatal("New is no disk of its own")
	}
	check(t, d, nil, nil)
	do(other, made(1), added(1, "a"))
	other.Sync()
	other.Make(2)
	check(t, d, nil, nil)
	d.Sync()
	d.Crash(3, 3)
	check(t, d, nil, nil)
}

// P18.1: what is made, added and dropped is buffered in order, and nothing of it is in a file.
func TestBuffers(t *testing.T) {
	d := New()
	d.Make(2)
	check(t, d, nil, []api.DiskOp{made(2)})
	d.Add(2, []byte("ab"))
	check(t, d, nil, []api.DiskOp{made(2), added(2, "ab")})
	d.Drop(1)
	check(t, d, nil, []api.DiskOp{made(2), added(2, "ab"), dropped(1)})
	d.Make(2)
	d.Add(3, nil)
	d.Add(2, []byte{})
	d.Add(2, []byte("c"))
	check(t, d, nil, []api.DiskOp{made(2), added(2, "ab"), dropped(1), made(2), added(3, ""), added(2, ""), added(2, "c")})
	if l := d.Files(); len(l) != 0 {
		t.Errorf("Files %v ahead of any Sync", l)
	}
}

// P18.1: a number that no file has has no effect, whatever is buffered; the first and the last number have.
func TestNumbers(t *testing.T) {
	held := []api.DiskOp{made(1), added(1, "a")}
	for _, no := range []int{math.MinInt, -most, -1, 0, most + 1, most + 2, 2 * most, math.MaxInt} {
		d := New()
		do(d, made(no), added(no, "x"), dropped(no))
		check(t, d, nil, nil)
		do(d, held...)
		do(d, made(no), added(no, "x"), dropped(no))
		check(t, d, nil, held)
		d.Sync()
		do(d, dropped(no), added(no, "x"), made(no))
		d.Sync()
		check(t, d, held, nil)
	}
	for _, no := range []int{1, 2, 1 << 31, most - 1, most} {
		d := New()
		l := []api.DiskOp{made(no), added(no, "x"), dropped(no), made(no), added(no, "yz")}
		for i, op := range l {
			do(d, op)
			check(t, d, nil, l[:i+1])
		}
		d.Sync()
		check(t, d, l, nil)
		if got := d.Files(); !sameFiles(got, []api.File{file(no, "yz")}) {
			t.Errorf("%d: %v", no, got)
		}
	}
}

// P18.1, P18.2: a nil disk has nothing, and nothing has an effect on it.
func TestNil(t *testing.T) {
	var d *Disk
	for _, no := range []int{math.MinInt, 0, 1, math.MaxInt} {
		d.Make(no)
		d.Add(no, []byte("a"))
		d.Add(no, nil)
		d.Drop(no)
		d.Sync()
		d.Crash(no, no)
		d.Crash(no, 1)
	}
	if len(d.Files()) != 0 || len(d.View()) != 0 || len(d.Buffered()) != 0 {
		t.Error("a nil disk has something")
	}
}

// P18.1: Sync applies everything in order, and nothing is buffered any more.
func TestSync(t *testing.T) {
	for _, x := range []struct {
		name string
		l    []api.DiskOp
		want []api.File
	}{
		{"nothing", nil, nil},
		{"an empty file", []api.DiskOp{made(3)}, []api.File{file(3, "")}},
		{"a file", []api.DiskOp{made(1), added(1, "ab"), added(1, "c")}, []api.File{file(1, "abc")}},
		{"nothing to add", []api.DiskOp{made(1), added(1, ""), added(1, "a"), added(1, "")}, []api.File{file(1, "a")}},
		{"a make of a file that exists", []api.DiskOp{made(1), added(1, "ab"), made(1)}, []api.File{file(1, "ab")}},
		{"a make of an empty file that exists", []api.DiskOp{made(1), made(1), added(1, "a")}, []api.File{file(1, "a")}},
		{"an add to no file", []api.DiskOp{added(1, "ab")}, nil},
		{"an add ahead of the make", []api.DiskOp{added(1, "ab"), made(1), added(1, "c")}, []api.File{file(1, "c")}},
		{"a drop of no file", []api.DiskOp{dropped(1), made(2)}, []api.File{file(2, "")}},
		{"a drop", []api.DiskOp{made(1), added(1, "a"), made(2), dropped(1)}, []api.File{file(2, "")}},
		{"an add after the drop", []api.DiskOp{made(1), added(1, "a"), dropped(1), added(1, "b")}, nil},
		{"a make after the drop", []api.DiskOp{made(1), added(1, "a"), dropped(1), made(1), added(1, "b")}, []api.File{file(1, "b")}},
		{"descending numbers", []api.DiskOp{made(most), made(20), made(3), made(1), added(20, "b"), added(3, "a")},
			[]api.File{file(1, ""), file(3, "a"), file(20, "b"), file(most, "")}},
	} {
		d := New()
		do(d, x.l...)
		check(t, d, nil, x.l)
		if got := d.View(); !sameFiles(got, x.want) {
			t.Errorf("%s: View %v, want %v", x.name, got, x.want)
		}
		d.Sync()
		check(t, d, x.l, nil)
		if got := d.Files(); !sameFiles(got, x.want) {
			t.Errorf("%s: Files %v, want %v", x.name, got, x.want)
		}
		d.Sync()
		check(t, d, x.l, nil)
	}
}

// P18.2: the examples of the chapter.
func TestExamples(t *testing.T) {
	d := New()
	do(d, made(1), added(1, "abc"))
	d.Crash(1, 2)
	if l := d.Files(); !sameFiles(l, []api.File{file(1, "ab")}) {
		t.Error(l)
	}
	d = New()
	do(d, made(2), added(2, "x"))
	d.Sync()
	do(d, added(2, "yz"), dropped(1))
	if l := d.View(); !sameFiles(l, []api.File{file(2, "xyz")}) {
		t.Error(l)
	}
	if l := d.Files(); !sameFiles(l, []api.File{file(2, "x")}) {
		t.Error(l)
	}
}

// P18.2: what a crash keeps, and how much of an addition that is next.
func TestCrash(t *testing.T) {
	old := []api.DiskOp{made(1), added(1, "old")}
	l := []api.DiskOp{added(1, "abc"), made(2), added(2, "de"), dropped(1), added(2, "fgh")}
	for _, x := range []struct {
		keep, torn int
		want       []api.File
	}{
		{0, 0, []api.File{file(1, "old")}},
		{0, -1, []api.File{file(1, "old")}},
		{0, math.MinInt, []api.File{file(1, "old")}},
		{0, 1, []api.File{file(1, "olda")}},
		{0, 2, []api.File{file(1, "oldab")}},
		{0, 3, []api.File{file(1, "oldabc")}},
		{0, 4, []api.File{file(1, "oldabc")}},
		{0, math.MaxInt, []api.File{file(1, "oldabc")}},
		{-1, 0, []api.File{file(1, "old")}},
		{-1, 2, []api.File{file(1, "oldab")}},
		{math.MinInt, 9, []api.File{file(1, "oldabc")}},
		{1, 0, []api.File{file(1, "oldabc")}},
		{1, 9, []api.File{file(1, "oldabc")}},
		{2, 0, []api.File{file(1, "oldabc"), file(2, "")}},
		{2, 1, []api.File{file(1, "oldabc"), file(2, "d")}},
		{2, 2, []api.File{file(1, "oldabc"), file(2, "de")}},
		{3, 0, []api.File{file(1, "oldabc"), file(2, "de")}},
		{3, 9, []api.File{file(1, "oldabc"), file(2, "de")}},
		{4, 0, []api.File{file(2, "de")}},
		{4, 1, []api.File{file(2, "def")}},
		{4, 3, []api.File{file(2, "defgh")}},
		{5, 0, []api.File{file(2, "defgh")}},
		{6, 0, []api.File{file(2, "defgh")}},
		{5, math.MinInt, []api.File{file(2, "defgh")}},
		{math.MaxInt, 0, []api.File{file(2, "defgh")}},
		{math.MaxInt, math.MaxInt, []api.File{file(2, "defgh")}},
	} {
		d := New()
		do(d, old...)
		d.Sync()
		do(d, l...)
		d.Crash(x.keep, x.torn)
		if got := d.Files(); !sameFiles(got, x.want) {
			t.Errorf("Crash(%d, %d): %v, want %v", x.keep, x.torn, got, x.want)
		}
		now := slices.Concat(old, left(l, x.keep, x.torn))
		check(t, d, now, nil)
		d.Sync()
		check(t, d, now, nil)
	}
}

// P18.2: an addition of which a part is kept has no effect if its file is not there.
func TestCrashNoFile(t *testing.T) {
	for _, l := range [][]api.DiskOp{
		{added(1, "abc")},
		{added(1, "abc"), made(1)},
		{made(1), dropped(1), added(1, "abc")},
		{made(2), added(1, "abc")},
	} {
		for keep := range len(l) + 1 {
			for torn := range 5 {
				d := New()
				do(d, l...)
				d.Crash(keep, torn)
				check(t, d, left(l, keep, torn), nil)
				if _, is := after(l[:keep], 1); !is {
					do(d, added(1, "x"))
					d.Sync()
					if list := d.Files(); len(list) > 0 && list[0].No == 1 {
						t.Errorf("%v, Crash(%d, %d): %v", l, keep, torn, list)
					}
				}
			}
		}
	}
}

// P18.2: after a crash, a disk goes on with what was left.
func TestCrashAgain(t *testing.T) {
	d := New()
	do(d, made(1), added(1, "abc"), added(1, "def"))
	d.Crash(1, 1)
	do(d, added(1, "X"))
	check(t, d, []api.DiskOp{made(1), added(1, "a")}, []api.DiskOp{added(1, "X")})
	d.Crash(0, 0)
	do(d, added(1, "YZ"))
	d.Crash(0, 1)
	do(d, added(1, "!"))
	d.Sync()
	if l := d.Files(); !sameFiles(l, []api.File{file(1, "aY!")}) {
		t.Error(l)
	}
}

// P18.2: files come in ascending order of their numbers, in whatever order they were made.
func TestAscending(t *testing.T) {
	r := rand.New(rand.NewSource(18))
	for range 200 {
		d := New()
		numbers := r.Perm(40)
		for _, no := range numbers[:20] {
			do(d, made(no+1))
		}
		d.Sync()
		for _, no := range numbers[20:] {
			do(d, made(no*no*no*1000+41))
		}
		for _, list := range [][]api.File{d.Files(), d.View()} {
			for i := 1; i < len(list); i++ {
				if list[i-1].No >= list[i].No {
					t.Fatal(list)
				}
			}
		}
		if len(d.Files()) != 20 || len(d.View()) != 40 {
			t.Fatal(len(d.Files()), len(d.View()))
		}
	}
}

// P18.2: View and Buffered change nothing, and Files does not either.
func TestLooking(t *testing.T) {
	old := []api.DiskOp{made(1), added(1, "a"), made(3)}
	l := []api.DiskOp{added(1, "b"), made(2), dropped(3), added(1, "c"), added(2, "d")}
	d := New()
	do(d, old...)
	d.Sync()
	for i, op := range l {
		do(d, op)
		for range 3 {
			check(t, d, old, l[:i+1])
		}
	}
	d.Crash(1, 9)
	check(t, d, slices.Concat(old, l[:1]), nil)
}

// P18.2: a field that an operation's kind does not have is zero.
func TestFields(t *testing.T) {
	d := New()
	do(d, made(1), added(1, "a"), dropped(1))
	l := d.Buffered()
	if len(l) != 3 || len(l[0].Data) != 0 || len(l[2].Data) != 0 {
		t.Fatal(l)
	}
	if l[0].Kind != api.DiskMake || l[1].Kind != api.DiskAdd || l[2].Kind != api.DiskDrop {
		t.Error(l)
	}
}

// spoil changes bytes, up to their capacity.
func spoil(b []byte) {
	b = b[:cap(b)]
	for i := range b {
		b[i] = '#'
	}
}

// P18.1: the bytes that are added are neither kept nor changed, nor is the memory beyond their end.
func TestGivenBytes(t *testing.T) {
	whole := []byte("abcdefgh")
	d := New()
	d.Make(1)
	d.Add(1, whole[:3])
	d.Add(1, whole[3:4])
	d.Add(1, whole[:0])
	want := []api.DiskOp{made(1), added(1, "abc"), added(1, "d"), added(1, "")}
	check(t, d, nil, want)
	if string(whole) != "abcdefgh" {
		t.Fatalf("changed: %q", whole)
	}
	spoil(whole)
	check(t, d, nil, want)
	d.Sync()
	check(t, d, want, nil)
	more := []byte("xyz")
	d.Add(1, more[:1])
	d.Sync()
	spoil(more)
	d.Add(1, []byte("w"))
	d.Crash(1, 0)
	check(t, d, append(want, added(1, "x"), added(1, "w")), nil)
	if string(more) != "###" {
		t.Errorf("changed: %q", more)
	}
}

// P18.2: what is returned is new memory, of which nothing is shared.
func TestNewMemory(t *testing.T) {
	old := []api.DiskOp{made(1), added(1, "abc"), added(1, "defgh"), made(2), added(2, "x"), made(3)}
	l := []api.DiskOp{added(1, "ij"), added(2, "yz"), added(1, "k"), made(4), added(4, "lm")}
	d := New()
	do(d, old...)
	d.Sync()
	do(d, l...)
	for range 3 {
		for _, list := range [][]api.File{d.Files(), d.View()} {
			list = list[:cap(list)]
			for i := range list {
				spoil(list[i].Data)
				list[i] = file(77, "no")
			}
			check(t, d, old, l)
		}
		list := d.Buffered()
		list = list[:cap(list)]
		for i := range list {
			spoil(list[i].Data)
			list[i] = added(2, "no")
		}
		check(t, d, old, l)
	}
	files, view, buffered := d.Files(), d.View(), d.Buffered()
	wantFiles, wantView := d.Files(), d.View()
	d.Sync()
	do(d, added(1, "more"), added(2, "more"), dropped(3))
	d.Sync()
	if !sameFiles(files, wantFiles) || !sameFiles(view, wantView) || !sameOps(buffered, l) {
		t.Error("what was returned has changed")
	}
}

// P18.2: lists of one answer share nothing with each other.
func TestApart(t *testing.T) {
	d := New()
	do(d, made(1), added(1, "abc"), made(2), added(2, "def"), added(1, "ghi"))
	list := d.View()
	spoil(list[0].Data)
	if string(list[1].Data) != "def" {
		t.Errorf("%q", list[1].Data)
	}
	ops := d.Buffered()
	spoil(ops[1].Data)
	if string(ops[3].Data) != "def" || string(ops[4].Data) != "ghi" {
		t.Errorf("%q %q", ops[3].Data, ops[4].Data)
	}
}

// some returns an operation, often one that has an effect.
func some(r *rand.Rand) api.DiskOp {
	no := 1 + r.Intn(4)
	switch n := r.Intn(10); {
	case n < 3:
		return made(no)
	case n < 8:
		return added(no, "abcdefghij"[:r.Intn(11)])
	}
	return dropped(no)
}

// P18.1, P18.2: random calls against the definitions.
func TestRandom(t *testing.T) {
	r := rand.New(rand.NewSource(1))
	for range 500 {
		d := New()
		var durable, buffered []api.DiskOp
		for range 60 {
			switch n := r.Intn(12); {
			case n < 10:
				op := some(r)
				do(d, op)
				buffered = append(buffered, op)
			case n == 10:
				d.Sync()
				durable, buffered = slices.Concat(durable, buffered), nil
			default:
				keep, torn := r.Intn(len(buffered)+3)-1, r.Intn(14)-2
				d.Crash(keep, torn)
				durable, buffered = slices.Concat(durable, left(buffered, keep, torn)), nil
			}
			check(t, d, durable, buffered)
		}
	}
}

// P18.1, P18.2: a long file, in many pieces, of which every byte can be the last that is left.
func TestLong(t *testing.T) {
	whole := bytes.Repeat([]byte("0123456789abcdef"), 1<<12)
	d := New()
	d.Make(1)
	for i := 0; i < len(whole); i += 64 {
		d.Add(1, whole[i:i+64])
	}
	d.Crash(1+512, 7)
	if l := d.Files(); len(l) != 1 || !bytes.Equal(l[0].Data, whole[:512*64+7]) {
		t.Fatal("not the bytes up to the crash")
	}
	d.Add(1, whole)
	d.Sync()
	if l := d.View(); len(l) != 1 || len(l[0].Data) != 512*64+7+len(whole) {
		t.Fatal("not all bytes")
	}
}

// lists calls f for every list of at most n of the operations.
func lists(all []api.DiskOp, n int, f func(l []api.DiskOp)) {
	var more func(l []api.DiskOp)
	more = func(l []api.DiskOp) {
		f(l)
		if len(l) == n {
			return
		}
		for _, op := range all {
			more(append(slices.Clone(l), op))
		}
	}
	more(nil)
}

// isPrefix reports whether a file can be what a crash left: part of what it would be after one of the prefixes of what was buffered.
func isPrefix(old, l []api.DiskOp, no int, got []api.File) bool {
	i := slices.IndexFunc(got, func(x api.File) bool { return x.No == no })
	for n := range len(l) + 1 {
		text, is := after(slices.Concat(old, l[:n]), no)
		if i < 0 && !is || i >= 0 && is && bytes.HasPrefix([]byte(text), got[i].Data) {
			return true
		}
	}
	return false
}

// stays reports whether a file that was synchronized, and of which no buffered drop can have been applied, still begins with its bytes.
func stays(old, l []api.DiskOp, no int, got []api.File) bool {
	text, is := after(old, no)
	if !is || slices.ContainsFunc(l, func(op api.DiskOp) bool { return op.Kind == drops && op.No == no }) {
		return true
	}
	i := slices.IndexFunc(got, func(x api.File) bool { return x.No == no })
	return i >= 0 && bytes.HasPrefix(got[i].Data, []byte(text))
}

// P18.3: whatever a crash leaves of a short list is a prefix, file by file, and what was synchronized stays.
func TestPrefix(t *testing.T) {
	old := []api.DiskOp{made(1), added(1, "old")}
	all := []api.DiskOp{made(1), added(1, "ab"), dropped(1), made(2), added(2, "cd"), dropped(2)}
	lists(all, 4, func(l []api.DiskOp) {
		for keep := -1; keep <= len(l)+1; keep++ {
			for torn := -1; torn <= 3; torn++ {
				d := New()
				do(d, old...)
				d.Sync()
				do(d, l...)
				d.Crash(keep, torn)
				got := d.Files()
				for no := 1; no <= 3; no++ {
					if !isPrefix(old, l, no, got) || !stays(old, l, no, got) {
						t.Fatalf("%v, Crash(%d, %d): %v", l, keep, torn, got)
					}
				}
				check(t, d, slices.Concat(old, left(l, keep, torn)), nil)
			}
		}
	})
}

// P18.3: what was synchronized stays through any number of crashes that keep nothing.
func TestStays(t *testing.T) {
	r := rand.New(rand.NewSource(3))
	for range 300 {
		d := New()
		var durable []api.DiskOp
		for range 10 {
			op := some(r)
			do(d, op)
			durable = append(durable, op)
		}
		d.Sync()
		want := d.Files()
		for range 5 {
			for range r.Intn(6) {
				do(d, some(r))
			}
			d.Crash(0-r.Intn(3), 0-r.Intn(3))
			if got := d.Files(); !sameFiles(got, want) {
				t.Fatalf("%v: %v, want %v", durable, got, want)
			}
		}
		check(t, d, durable, nil)
	}
}
