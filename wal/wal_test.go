package wal

import (
	"bytes"
	"encoding/hex"
	"math"
	"math/rand"
	"slices"
	"strings"
	"testing"

	"changeover/api"
	"changeover/disk"
	"changeover/hard"
	"changeover/segm"
)

// The limits of the chapters, written out.
const (
	indexes = 1 << 32
	rounds  = 1 << 32
	longest = 32768
)

// Commands of some kinds, all of them valid; V1 does not support cas alone.
var (
	nop      = api.Cmd{Kind: api.CmdNop}
	put      = api.Cmd{Kind: api.CmdPut, Client: 1, Seq: 2, Key: "k", Val: "v"}
	cas      = api.Cmd{Kind: api.CmdCas, Client: 1, Seq: 3, Key: "k", Old: "a", Val: "b"}
	activate = api.Cmd{Kind: api.CmdActivate}
)

// noNumbers: numbers that are no version, and no format.
var noNumbers = []int{math.MinInt, -1 << 32, -2, -1, 0, 3, 4, 17, 255, 256, 257, 258, 1 << 32, 1<<32 + 1, 1<<32 + 2, math.MaxInt}

// promise, accept, chosen and image return records.
func promise(round, node int) api.Record {
	return api.Record{Kind: api.RecPromise, Ballot: api.Ballot{Round: round, Node: node}}
}

func accept(round, node, index int, c api.Cmd) api.Record {
	return api.Record{Kind: api.RecAccept, Ballot: api.Ballot{Round: round, Node: node}, Index: index, Cmd: c}
}

func chosen(index int, c api.Cmd) api.Record {
	return api.Record{Kind: api.RecChosen, Index: index, Cmd: c}
}

func image(index int, text string) api.Record {
	return api.Record{Kind: api.RecImage, Index: index, Image: []byte(text)}
}

// state returns the state that records result in.
func state(l ...api.Record) api.Hard {
	return hard.Of(l)
}

// full returns records that result in a state that has everything; with a cas if it is to be late.
func full(late bool) []api.Record {
	last := put
	if late {
		last = cas
	}
	return []api.Record{image(4, "img"), promise(3, 1), accept(2, 2, 5, put), accept(3, 1, 7, nop), chosen(5, put), chosen(8, last)}
}

// wrong returns records that are not valid, by their errors of layer 16.
func wrong() map[api.Errno][]api.Record {
	return map[api.Errno][]api.Record{
		api.ErrKind:  {{}, {Kind: -1}, {Kind: 5}, {Kind: math.MaxInt}, accept(1, 1, 1, api.Cmd{})},
		api.ErrRange: {promise(0, 0), promise(1, 10), promise(rounds+1, 1), accept(1, 1, 0, nop), chosen(indexes+1, nop), image(0, "i")},
		api.ErrLong:  {image(1, strings.Repeat("i", longest+1))},
		api.ErrText:  {chosen(1, api.Cmd{Kind: api.CmdGet, Client: 1, Seq: 1, Key: "/"})},
		api.ErrForm:  {image(1, ""), chosen(1, api.Cmd{Kind: api.CmdNop, Node: 1}), {Kind: api.RecPromise, Ballot: api.Ballot{Round: 1, Node: 1}, Index: 1}},
	}
}

// headOf returns the bytes of a file that begins with the state, and frameOf those of a further record.
func headOf(format int, h api.Hard) []byte {
	b, err := segm.Head(format, h)
	if err != api.OK {
		panic("no head")
	}
	return b
}

func frameOf(format int, x api.Record) []byte {
	b, err := segm.Add(format, x)
	if err != api.OK {
		panic("no frame")
	}
	return b
}

// fileOf returns the bytes of a file with the empty state and these records behind it.
func fileOf(format int, l ...api.Record) []byte {
	b := headOf(format, api.Hard{})
	for _, x := range l {
		b = append(b, frameOf(format, x)...)
	}
	return b
}

// diskOf returns a disk on which these files are durable.
func diskOf(l ...api.File) *disk.Disk {
	d := disk.New()
	for _, f := range l {
		d.Make(f.No)
		d.Add(f.No, f.Data)
	}
	d.Sync()
	return d
}

// made, added and dropped return operations.
func made(no int) api.DiskOp            { return api.DiskOp{Kind: api.DiskMake, No: no} }
func added(no int, b []byte) api.DiskOp { return api.DiskOp{Kind: api.DiskAdd, No: no, Data: b} }
func dropped(no int) api.DiskOp         { return api.DiskOp{Kind: api.DiskDrop, No: no} }

// begun returns the operations of a file that is begun, where the others are these.
func begun(no, format int, h api.Hard, others ...int) []api.DiskOp {
	l := []api.DiskOp{made(no), added(no, headOf(format, h))}
	for _, other := range others {
		l = append(l, dropped(other))
	}
	return l
}

// sameFiles reports whether two lists have the same files.
func sameFiles(a, b []api.File) bool {
	return slices.EqualFunc(a, b, func(x, y api.File) bool {
		return x.No == y.No && bytes.Equal(x.Data, y.Data)
	})
}

// sameOps reports whether two lists have the same operations.
func sameOps(a, b []api.DiskOp) bool {
	return slices.EqualFunc(a, b, func(x, y api.DiskOp) bool {
		return x.Kind == y.Kind && x.No == y.No && bytes.Equal(x.Data, y.Data)
	})
}

// sameHard reports whether two states have equal contents.
func sameHard(a, b api.Hard) bool {
	return a.Promised == b.Promised && a.Base == b.Base && string(a.Image) == string(b.Image) && slices.Equal(a.Accepted, b.Accepted) && slices.Equal(a.Chosen, b.Chosen)
}

// spoil overwrites all that a state has, up to the ends of its memory.
func spoil(h api.Hard) {
	clear(h.Image[:cap(h.Image)])
	clear(h.Accepted[:cap(h.Accepted)])
	clear(h.Chosen[:cap(h.Chosen)])
}

// wantOps fails the test unless these operations are buffered.
func wantOps(t *testing.T, d *disk.Disk, want []api.DiskOp, what string) {
	t.Helper()
	if got := d.Buffered(); !sameOps(got, want) {
		t.Fatalf("%s: buffered are %v, want %v", what, got, want)
	}
}

// wantPeek fails the test unless Peek returns this, and leaves the disk as it is.
func wantPeek(t *testing.T, d *disk.Disk, format int, h api.Hard, what string) {
	t.Helper()
	files, ops := d.Files(), d.Buffered()
	got, state := Peek(d)
	if got != format || !sameHard(state, h) {
		t.Fatalf("%s: Peek = %d, %+v, want %d, %+v", what, got, state, format, h)
	}
	spoil(state)
	if !sameFiles(d.Files(), files) || !sameOps(d.Buffered(), ops) {
		t.Fatalf("%s: Peek changed the disk", what)
	}
}

// wantOpen fails the test unless Open returns a log of this format with this state; it returns that log.
func wantOpen(t *testing.T, d *disk.Disk, v, format int, h api.Hard, what string) *Log {
	t.Helper()
	l, state, err := Open(d, v)
	if err != api.OK || l == nil || !sameHard(state, h) {
		t.Fatalf("%s: Open with V%d = %v, %+v, error %d, want %+v", what, v, l, state, err, h)
	}
	spoil(state)
	wantLog(t, l, format, h, what)
	return l
}

// wantLog fails the test unless the log has this format and this state.
func wantLog(t *testing.T, l *Log, format int, h api.Hard, what string) {
	t.Helper()
	if got := l.Format(); got != format {
		t.Fatalf("%s: Format = %d, want %d", what, got, format)
	}
	for range 2 {
		got := l.Hard()
		if !sameHard(got, h) {
			t.Fatalf("%s: Hard = %+v, want %+v", what, got, h)
		}
		spoil(got)
	}
}

// wantRefused fails the test unless Open returns this error and nothing else, and leaves the disk as it is.
func wantRefused(t *testing.T, d *disk.Disk, v int, want api.Errno, what string) {
	t.Helper()
	files, ops := d.Files(), d.Buffered()
	l, h, err := Open(d, v)
	if err != want || l != nil || !sameHard(h, api.Hard{}) {
		t.Fatalf("%s: Open with %d = %v, %+v, error %d, want error %d", what, v, l, h, err, want)
	}
	if !sameFiles(d.Files(), files) || !sameOps(d.Buffered(), ops) {
		t.Fatalf("%s: Open with %d was refused, but changed the disk", what, v)
	}
}

// wantUnchanged fails the test unless a call that returns an error leaves the log and its disk as they are.
func wantUnchanged(t *testing.T, d *disk.Disk, l *Log, call func() api.Errno, want api.Errno, what string) {
	t.Helper()
	files, ops, format, h := d.Files(), d.Buffered(), l.Format(), l.Hard()
	if err := call(); err != want {
		t.Fatalf("%s: error %d, want %d", what, err, want)
	}
	if !sameFiles(d.Files(), files) || !sameOps(d.Buffered(), ops) {
		t.Fatalf("%s: the error changed the disk", what)
	}
	wantLog(t, l, format, h, what)
}

// peeked returns what Peek returns, by the definition.
func peeked(files []api.File) (int, api.Hard) {
	format, h, no := 1, api.Hard{}, 0
	for _, f := range files {
		if c, err := segm.Read(f.Data); err == api.OK && f.No > no {
			format, h, no = c.Format, c.Hard, f.No
		}
	}
	return format, h
}

// P21.1: a disk without files, or none at all, or with files that are all torn, has a log of F1 with the empty state.
func TestPeekNothing(t *testing.T) {
	wantPeek(t, nil, 1, api.Hard{}, "a nil disk")
	wantPeek(t, disk.New(), 1, api.Hard{}, "an empty disk")
	for format := 1; format <= 2; format++ {
		b := headOf(format, state(full(false)...))
		for size := range len(b) {
			wantPeek(t, diskOf(api.File{No: 1, Data: b[:size]}, api.File{No: 7, Data: b[1 : size+1]}), 1, api.Hard{}, "torn files")
		}
		wantPeek(t, diskOf(api.File{No: 1, Data: b}), format, state(full(false)...), "a whole file")
	}
}

// P21.1: the greatest number of a file that is not torn counts, whatever the others have, and wherever the files were made.
func TestPeekGreatest(t *testing.T) {
	one, two := fileOf(1, promise(9, 9)), fileOf(2, promise(1, 1), chosen(1, cas))
	old, late := state(promise(9, 9)), state(promise(1, 1), chosen(1, cas))
	torn := headOf(2, state(promise(5, 5)))
	torn = torn[:len(torn)-1]
	for _, c := range []struct {
		files  []api.File
		format int
		h      api.Hard
	}{
		{[]api.File{{No: 1, Data: one}, {No: 2, Data: two}}, 2, late},
		{[]api.File{{No: 2, Data: one}, {No: 1, Data: two}}, 1, old},
		{[]api.File{{No: 9, Data: two}, {No: 10, Data: one}}, 1, old},
		{[]api.File{{No: 10, Data: two}, {No: 9, Data: one}}, 2, late},
		{[]api.File{{No: indexes, Data: two}, {No: 1, Data: one}}, 2, late},
		{[]api.File{{No: indexes, Data: torn}, {No: indexes - 1, Data: one}, {No: 1, Data: two}}, 1, old},
		{[]api.File{{No: 1, Data: one}, {No: 2, Data: torn}, {No: 3, Data: nil}, {No: 4, Data: torn[:1]}}, 1, old},
		{[]api.File{{No: 1, Data: torn}, {No: 2, Data: two}, {No: 3, Data: nil}, {No: 5, Data: torn}}, 2, late},
		{[]api.File{{No: 1, Data: one}, {No: 2, Data: fileOf(2)}}, 2, api.Hard{}},
		{[]api.File{{No: 1, Data: two}, {No: 2, Data: fileOf(1)}}, 1, api.Hard{}},
		{[]api.File{{No: 1, Data: two}, {No: 2, Data: append(fileOf(1, chosen(3, put)), 4, 1)}}, 1, state(chosen(3, put))},
	} {
		wantPeek(t, diskOf(c.files...), c.format, c.h, "some files")
	}
}

// P21.1: what is only buffered counts as if it were durable.
func TestPeekBuffered(t *testing.T) {
	d := diskOf(api.File{No: 3, Data: fileOf(1, promise(1, 1))})
	d.Add(3, frameOf(1, promise(2, 2)))
	wantPeek(t, d, 1, state(promise(2, 2)), "a buffered record")
	d.Make(4)
	wantPeek(t, d, 1, state(promise(2, 2)), "a buffered file that is empty")
	b := headOf(2, state(promise(3, 3)))
	d.Add(4, b[:9])
	wantPeek(t, d, 1, state(promise(2, 2)), "a buffered file that is torn")
	d.Add(4, b[9:])
	wantPeek(t, d, 2, state(promise(3, 3)), "a buffered file")
	d.Drop(3)
	wantPeek(t, d, 2, state(promise(3, 3)), "an older file that is dropped")
	d.Drop(4)
	wantPeek(t, d, 1, api.Hard{}, "all files dropped")
	d.Crash(0, 0)
	wantPeek(t, d, 1, state(promise(1, 1)), "after a crash")
}

// someRecord returns a valid record at random, which the format has.
func someRecord(r *rand.Rand, format int) api.Record {
	index := 1 + r.Intn(1<<r.Intn(5))
	round, node := 1+r.Intn(1<<r.Intn(7)), 1+r.Intn(9)
	c := []api.Cmd{nop, put, activate, cas}[r.Intn(2+format)]
	switch r.Intn(7) {
	case 0, 1:
		return promise(round, node)
	case 2, 3:
		return accept(round, node, index, c)
	case 4, 5:
		return chosen(index, c)
	}
	return image(1+r.Intn(index), strings.Repeat("i", 1+r.Intn(9)))
}

// someRecords returns valid records at random, which the format has.
func someRecords(r *rand.Rand, format int) []api.Record {
	l := make([]api.Record, r.Intn(5))
	for i := range l {
		l[i] = someRecord(r, format)
	}
	return l
}

// someDisk returns a disk with files at random, whole or not, of which some are only buffered, and some dropped.
func someDisk(r *rand.Rand) *disk.Disk {
	d := disk.New()
	for range r.Intn(8) {
		no := 1 + r.Intn(6)
		format := 1 + r.Intn(2)
		switch r.Intn(7) {
		case 0:
			d.Drop(no)
		case 1:
			d.Sync()
		case 2:
			d.Add(no, frameOf(format, someRecord(r, format)))
		default:
			b := append(headOf(format, state(someRecords(r, format)...)), fileOf(format, someRecords(r, format)...)[7:]...)
			d.Make(no)
			d.Add(no, b[:min(len(b), r.Intn(2*len(b)+1))])
		}
	}
	return d
}

// P21.1: whatever is on a disk, Peek returns what the definition says.
func TestPeekRandom(t *testing.T) {
	r := rand.New(rand.NewSource(21))
	seen := map[int]int{}
	for range 20000 {
		d := someDisk(r)
		format, h := peeked(d.View())
		wantPeek(t, d, format, h, "some disk")
		if !sameHard(h, api.Hard{}) {
			seen[format]++
		}
	}
	if seen[1] < 3000 || seen[2] < 3000 {
		t.Errorf("only %v logs by format had a state", seen)
	}
}

// P21.2: an empty disk gets file 1, with a head of F1 and the empty state, whatever the version; the example of the chapter.
func TestOpenEmpty(t *testing.T) {
	head, _ := hex.DecodeString("020100be23c258")
	for v := 1; v <= 2; v++ {
		d := disk.New()
		l := wantOpen(t, d, v, 1, api.Hard{}, "an empty disk")
		wantOps(t, d, []api.DiskOp{made(1), added(1, head)}, "an empty disk")
		if !l.Dirty() {
			t.Error("nothing is buffered")
		}
		if len(d.Files()) != 0 {
			t.Error("Open made something durable")
		}
		l.Sync()
		if f := d.Files(); !sameFiles(f, []api.File{{No: 1, Data: head}}) || l.Dirty() {
			t.Errorf("files %v", f)
		}
		if err := l.Renew(2, l.Hard()); err != api.OK {
			t.Fatal(err)
		}
		l.Sync()
		wantRefused(t, d, 1, api.ErrDowngrade, "after a Renew in F2 and a Sync")
		wantOpen(t, d, 2, 2, api.Hard{}, "after a Renew in F2 and a Sync")
	}
}

// P21.2: a file is begun in the format and with the state that the log has, behind all others, which are dropped by ascending numbers.
func TestOpenFiles(t *testing.T) {
	torn := headOf(2, state(promise(5, 5)))
	torn = torn[:len(torn)-1]
	for _, late := range []bool{false, true} {
		format := 1
		if late {
			format = 2
		}
		whole, h := fileOf(format, full(late)...), state(full(late)...)
		for _, c := range []struct {
			numbers []int
			log     int
		}{
			{[]int{1}, 1}, {[]int{2}, 2}, {[]int{7}, 7}, {[]int{1, 2}, 2}, {[]int{1, 2}, 1}, {[]int{9, 10, 11}, 9}, {[]int{2, 3, 5, 8, 13, 21}, 8},
			{[]int{100, 20, 3}, 3}, {[]int{100, 20, 3}, 100}, {[]int{indexes - 1}, indexes - 1}, {[]int{1, indexes - 1}, 1},
		} {
			var files []api.File
			for _, no := range c.numbers {
				data := torn
				if no == c.log {
					data = whole
				}
				files = append(files, api.File{No: no, Data: data})
			}
			d := diskOf(files...)
			durable := d.Files()
			wantOpen(t, d, 2, format, h, "some files")
			slices.Sort(c.numbers)
			last := c.numbers[len(c.numbers)-1]
			wantOps(t, d, begun(last+1, format, h, c.numbers...), "some files")
			if !sameFiles(d.Files(), durable) {
				t.Fatal("Open made something durable")
			}
			d.Sync()
			if f := d.Files(); !sameFiles(f, []api.File{{No: last + 1, Data: headOf(format, h)}}) {
				t.Fatalf("files %v", f)
			}
			wantPeek(t, d, format, h, "after Open and a Sync")
		}
	}
}

// P21.2: files that are only buffered have numbers as well, and are dropped too.
func TestOpenBuffered(t *testing.T) {
	d := disk.New()
	wantOpen(t, d, 1, 1, api.Hard{}, "an empty disk")
	first := begun(1, 1, api.Hard{})
	l := wantOpen(t, d, 1, 1, api.Hard{}, "a disk with a buffered file")
	second := begun(2, 1, api.Hard{}, 1)
	wantOps(t, d, slices.Concat(first, second), "two files")
	x := promise(4, 1)
	if err := l.Add(x); err != api.OK {
		t.Fatal(err)
	}
	wantOps(t, d, slices.Concat(first, second, []api.DiskOp{added(2, frameOf(1, x))}), "a record in the second file")
	wantPeek(t, d, 1, state(x), "a record in the second file")
	l = wantOpen(t, d, 2, 1, state(x), "a disk with two buffered files")
	if err := l.Renew(2, l.Hard()); err != api.OK {
		t.Fatal(err)
	}
	if f := d.View(); !sameFiles(f, []api.File{{No: 4, Data: headOf(2, state(x))}}) {
		t.Fatalf("there would be %v", f)
	}

	d = diskOf(api.File{No: 3, Data: fileOf(1, x)})
	d.Make(7)
	d.Add(7, []byte("no file"))
	d.Make(5)
	before := d.Buffered()
	wantOpen(t, d, 1, 1, state(x), "durable and buffered files")
	wantOps(t, d, slices.Concat(before, begun(8, 1, state(x), 3, 5, 7)), "durable and buffered files")

	d = diskOf(api.File{No: 6, Data: fileOf(1, x)}, api.File{No: 2, Data: fileOf(2, promise(5, 5))})
	d.Drop(6)
	l = wantOpen(t, d, 2, 2, state(promise(5, 5)), "a file whose drop is buffered")
	if ops := d.Buffered(); len(ops) < 3 || !sameOps(ops[1:3], begun(7, 2, l.Hard())) {
		t.Fatalf("a file whose drop is buffered still has its number: %v", ops)
	}
	l.Sync()
	if f := d.Files(); !sameFiles(f, []api.File{{No: 7, Data: headOf(2, l.Hard())}}) {
		t.Fatalf("files %v", f)
	}
}

// P21.2: the errors of Open, in their order, in which cases nothing is buffered.
func TestOpenErrors(t *testing.T) {
	for _, v := range append([]int{1, 2}, noNumbers...) {
		if l, h, err := Open(nil, v); l != nil || !sameHard(h, api.Hard{}) || err != api.ErrNone {
			t.Errorf("Open(nil, %d) = %v, %v, error %d", v, l, h, err)
		}
	}
	newer := diskOf(api.File{No: 1, Data: fileOf(1, promise(9, 9))}, api.File{No: 2, Data: fileOf(2, full(true)...)})
	older := diskOf(api.File{No: 1, Data: fileOf(2, promise(9, 9))}, api.File{No: 2, Data: fileOf(1, full(false)...)})
	buffered := diskOf(api.File{No: 1, Data: fileOf(1, promise(9, 9))})
	buffered.Make(2)
	buffered.Add(2, fileOf(2))
	for _, v := range noNumbers {
		for _, d := range []*disk.Disk{disk.New(), newer, older, buffered} {
			wantRefused(t, d, v, api.ErrVersion, "no version")
		}
	}
	wantRefused(t, newer, 1, api.ErrDowngrade, "a log of F2")
	wantRefused(t, buffered, 1, api.ErrDowngrade, "a buffered log of F2")
	wantOpen(t, newer, 2, 2, state(full(true)...), "a log of F2")
	wantOpen(t, older, 1, 1, state(full(false)...), "a log of F1")
	wantOpen(t, older, 2, 1, state(full(false)...), "a log of F1")
	buffered.Crash(1, 3)
	wantOpen(t, buffered, 1, 1, state(promise(9, 9)), "a log of F2 that a crash took")
}

// P21.2: the calls on a nil log.
func TestNilLog(t *testing.T) {
	var l *Log
	if l.Format() != 0 || l.Dirty() || !sameHard(l.Hard(), api.Hard{}) {
		t.Errorf("a nil log has format %d, state %+v, or is dirty", l.Format(), l.Hard())
	}
	l.Sync()
	for _, x := range []api.Record{promise(1, 1), {}, chosen(1, cas), chosen(0, nop)} {
		if err := l.Add(x); err != api.ErrNone {
			t.Errorf("Add: error %d", err)
		}
	}
	for _, format := range append([]int{1, 2}, noNumbers...) {
		for _, h := range []api.Hard{{}, {Base: -1}, state(full(true)...)} {
			if err := l.Renew(format, h); err != api.ErrNone {
				t.Errorf("Renew: error %d", err)
			}
		}
	}
}

// P21.2: a record is appended to the log's file as one operation, in the log's format, and counts in its state at once.
func TestAdd(t *testing.T) {
	for format := 1; format <= 2; format++ {
		d := diskOf(api.File{No: 4, Data: fileOf(format)})
		l := wantOpen(t, d, 2, format, api.Hard{}, "an empty state")
		l.Sync()
		var ops []api.DiskOp
		var h api.Hard
		for i, x := range append(full(format == 2), promise(1, 1), chosen(8, nop), image(3, "late"), promise(rounds, 9), chosen(indexes, put), image(indexes, strings.Repeat("\xff", longest))) {
			wantLog(t, l, format, h, "before a record")
			data := slices.Concat([]byte("ahead"), x.Image, []byte("behind"))
			x.Image = data[5 : 5+len(x.Image)]
			kept := api.Record{Kind: x.Kind, Ballot: x.Ballot, Index: x.Index, Cmd: x.Cmd, Image: slices.Clone(x.Image)}
			if err := l.Add(x); err != api.OK {
				t.Fatalf("Add of record %d: error %d", i, err)
			}
			if want := slices.Concat([]byte("ahead"), kept.Image, []byte("behind")); !bytes.Equal(data, want) {
				t.Fatalf("Add of record %d changed it", i)
			}
			clear(data)
			ops = append(ops, added(5, frameOf(format, kept)))
			wantOps(t, d, ops, "after a record")
			h = hard.Apply(h, kept)
			wantLog(t, l, format, h, "after a record")
			wantPeek(t, d, format, h, "after a record")
			if !l.Dirty() {
				t.Fatal("nothing is buffered")
			}
		}
		if f := d.Files(); len(f) != 1 || len(f[0].Data) != 7 {
			t.Fatal("Add made something durable")
		}
		l.Sync()
		if f := d.Files(); l.Dirty() || !sameFiles(f, d.View()) || len(f) != 1 || f[0].No != 5 {
			t.Fatalf("Sync left %v", f)
		}
		wantLog(t, l, format, h, "after a Sync")
	}
}

// P21.2: what cannot be added has the error of layer 20, and changes nothing.
func TestAddErrors(t *testing.T) {
	for format := 1; format <= 2; format++ {
		d := diskOf(api.File{No: 4, Data: fileOf(format, full(false)...)})
		l := wantOpen(t, d, 2, format, state(full(false)...), "some state")
		check := func() {
			t.Helper()
			for want, records := range wrong() {
				for _, x := range records {
					wantUnchanged(t, d, l, func() api.Errno { return l.Add(x) }, want, "a record that is not valid")
				}
			}
			if format == 1 {
				for _, x := range []api.Record{accept(9, 9, 9, cas), chosen(9, cas)} {
					wantUnchanged(t, d, l, func() api.Errno { return l.Add(x) }, api.ErrVersion, "a cas in F1")
				}
			}
		}
		check()
		l.Sync()
		check()
		if l.Dirty() {
			t.Error("an error buffered something")
		}
	}
	d := disk.New()
	l := wantOpen(t, d, 2, 1, api.Hard{}, "an empty disk")
	if err := l.Renew(2, l.Hard()); err != api.OK {
		t.Fatal(err)
	}
	if err := l.Add(chosen(1, cas)); err != api.OK {
		t.Errorf("a cas in F2: error %d", err)
	}
}

// P21.2: the example of Add: what a crash tore is not there any more.
func TestAddExample(t *testing.T) {
	for torn := -1; torn < len(frameOf(1, promise(5, 1))); torn++ {
		d := disk.New()
		l := wantOpen(t, d, 1, 1, api.Hard{}, "an empty disk")
		l.Add(promise(4, 1))
		l.Sync()
		l.Add(promise(5, 1))
		d.Crash(0, torn)
		l = wantOpen(t, d, 1, 1, state(promise(4, 1)), "after a crash")
		wantOps(t, d, begun(2, 1, state(promise(4, 1)), 1), "after a crash")
		if err := l.Add(promise(6, 1)); err != api.OK {
			t.Fatal(err)
		}
		wantPeek(t, d, 1, state(promise(6, 1)), "a record after a crash")
	}
}

// P21.2: Renew begins a file with any valid state, in either format; later records follow in that file.
func TestRenew(t *testing.T) {
	states := []api.Hard{{}, state(promise(1, 1)), state(full(false)...), state(image(indexes, strings.Repeat("\xff", longest)))}
	for _, from := range []int{1, 2} {
		for _, to := range []int{1, 2} {
			for _, h := range states {
				d := diskOf(api.File{No: 4, Data: fileOf(from, promise(7, 7))})
				l := wantOpen(t, d, 2, from, state(promise(7, 7)), "some state")
				l.Sync()
				given := hard.Clone(h)
				given.Image = slices.Concat([]byte("ahead"), h.Image, []byte("behind"))[5 : 5+len(h.Image)]
				whole := given.Image[:len(h.Image)+6]
				if err := l.Renew(to, given); err != api.OK {
					t.Fatalf("Renew(%d, %+v): error %d", to, h, err)
				}
				if !sameHard(given, h) || string(whole[len(h.Image):]) != "behind" {
					t.Fatal("Renew changed the state that it was given")
				}
				spoil(given)
				wantLog(t, l, to, h, "renewed")
				wantOps(t, d, begun(6, to, h, 5), "renewed")
				wantPeek(t, d, to, h, "renewed")
				x := promise(8, 8)
				if err := l.Add(x); err != api.OK {
					t.Fatal(err)
				}
				wantOps(t, d, append(begun(6, to, h, 5), added(6, frameOf(to, x))), "renewed, and a record")
				wantLog(t, l, to, hard.Apply(h, x), "renewed, and a record")
				l.Sync()
				if f := d.Files(); !sameFiles(f, []api.File{{No: 6, Data: append(headOf(to, h), frameOf(to, x)...)}}) {
					t.Fatalf("files %v", f)
				}
				wantPeek(t, d, to, hard.Apply(h, x), "renewed, a record, and a Sync")
			}
		}
	}
}

// P21.2: Renew has the errors of layer 20, in their order, and then changes nothing.
func TestRenewErrors(t *testing.T) {
	notValid := []api.Hard{{Base: -1}, {Base: 1}, {Image: []byte("i")}, {Promised: api.Ballot{Round: 1}}, {Chosen: []api.Entry{{Index: 1}}}, {Accepted: []api.Entry{{Index: 1, Ballot: api.Ballot{Round: 1, Node: 1}, Cmd: cas}}}}
	for format := 1; format <= 2; format++ {
		d := diskOf(api.File{No: 4, Data: fileOf(format, promise(7, 7))})
		l := wantOpen(t, d, 2, format, state(promise(7, 7)), "some state")
		l.Add(promise(8, 8))
		for range 2 {
			for _, h := range append(notValid, api.Hard{}, state(full(true)...)) {
				for _, no := range noNumbers {
					wantUnchanged(t, d, l, func() api.Errno { return l.Renew(no, h) }, api.ErrVersion, "no format")
				}
			}
			for _, h := range notValid {
				for to := 1; to <= 2; to++ {
					wantUnchanged(t, d, l, func() api.Errno { return l.Renew(to, h) }, api.ErrForm, "a state that is not valid")
				}
			}
			wantUnchanged(t, d, l, func() api.Errno { return l.Renew(1, state(full(true)...)) }, api.ErrVersion, "a cas in F1")
			l.Sync()
		}
		if err := l.Renew(2, state(full(true)...)); err != api.OK {
			t.Errorf("error %d", err)
		}
	}
}

// P21.2: Dirty asks for what is buffered on the disk, by whomever, and Sync makes that durable.
func TestSyncAndDirty(t *testing.T) {
	d, other := disk.New(), disk.New()
	l := wantOpen(t, d, 1, 1, api.Hard{}, "an empty disk")
	o := wantOpen(t, other, 1, 1, api.Hard{}, "another disk")
	is := func(want bool, what string) {
		t.Helper()
		if l.Dirty() != want {
			t.Errorf("%s: Dirty is not %v", what, want)
		}
	}
	is(true, "opened")
	l.Sync()
	is(false, "synchronized")
	if len(other.Files()) != 0 || !o.Dirty() {
		t.Error("Sync reaches another disk")
	}
	l.Add(promise(1, 1))
	is(true, "a record")
	l.Sync()
	is(false, "synchronized")
	d.Drop(9)
	is(true, "an operation of the disk's own")
	l.Sync()
	is(false, "synchronized")
	l.Renew(2, l.Hard())
	is(true, "renewed")
	d.Sync()
	is(false, "synchronized by the disk")
	l.Add(promise(2, 1))
	d.Crash(0, 0)
	is(false, "crashed")
	wantPeek(t, d, 2, state(promise(1, 1)), "crashed")
}

// point is what a log had at some time: it is there after a crash if so many of the operations are kept that were buffered since the last sync.
type point struct {
	ops    int
	format int
	h      api.Hard
}

// course is a log on a disk, with all that it had since its last sync.
type course struct {
	d      *disk.Disk
	l      *Log
	points []point
}

// now returns what the log has at last.
func (c *course) now() point {
	return c.points[len(c.points)-1]
}

// open opens the log, and has a point where the head of its new file is whole, which is its second operation.
func (c *course) open(t *testing.T, v int) {
	t.Helper()
	p := c.now()
	before := len(c.d.Buffered())
	c.l = wantOpen(t, c.d, v, p.format, p.h, "a course")
	c.points = append(c.points, point{before + 2, p.format, p.h})
}

// add adds a record.
func (c *course) add(t *testing.T, x api.Record) {
	t.Helper()
	p := c.now()
	if err := c.l.Add(x); err != api.OK {
		t.Fatalf("Add(%+v): error %d", x, err)
	}
	c.points = append(c.points, point{len(c.d.Buffered()), p.format, hard.Apply(p.h, x)})
	wantLog(t, c.l, p.format, c.now().h, "a course")
}

// renew renews the log in a format, with its state after a record.
func (c *course) renew(t *testing.T, format int, x api.Record) {
	t.Helper()
	h := hard.Apply(c.now().h, x)
	before := len(c.d.Buffered())
	if err := c.l.Renew(format, h); err != api.OK {
		t.Fatalf("Renew(%d, %+v): error %d", format, h, err)
	}
	c.points = append(c.points, point{before + 2, format, h})
	wantLog(t, c.l, format, h, "a course")
}

// sync synchronizes the log.
func (c *course) sync() {
	c.l.Sync()
	p := c.now()
	c.points = []point{{0, p.format, p.h}}
}

// crash crashes the disk: of the points since the last sync, the last one is left whose operations are whole.
func (c *course) crash(t *testing.T, keep, torn int) {
	t.Helper()
	keep = max(keep, 0)
	if ops := c.d.Buffered(); keep < len(ops) && ops[keep].Kind == api.DiskAdd && torn >= len(ops[keep].Data) {
		keep, torn = keep+1, 0
	}
	left := c.points[0]
	for _, p := range c.points[1:] {
		if p.ops <= keep {
			left = p
		}
	}
	c.d.Crash(keep, torn)
	wantPeek(t, c.d, left.format, left.h, "after a crash")
	c.points = []point{{0, left.format, left.h}}
}

// play returns the course of some records, renewals, syncs and crashes, which hangs on the seed alone.
func play(t *testing.T, seed int64) *course {
	t.Helper()
	r := rand.New(rand.NewSource(seed))
	c := &course{d: disk.New(), points: []point{{0, 1, api.Hard{}}}}
	c.open(t, 1+r.Intn(2))
	for range r.Intn(10) {
		p := c.now()
		switch r.Intn(12) {
		case 0, 1:
			c.sync()
		case 2:
			c.crash(t, r.Intn(4)-1, r.Intn(30)-1)
			c.open(t, c.now().format)
		case 3:
			c.open(t, 2)
		case 4:
			c.renew(t, p.format, someRecord(r, p.format))
		case 5:
			c.renew(t, 2, someRecord(r, 2))
		default:
			c.add(t, someRecord(r, p.format))
		}
	}
	return c
}

// eachCrash calls f for every crash of what is buffered: how many operations are kept, and how many bytes of the next one.
func eachCrash(ops []api.DiskOp, f func(keep, torn int)) {
	for keep := range len(ops) + 1 {
		most := 0
		if keep < len(ops) {
			most = len(ops[keep].Data)
		}
		for torn := range most + 1 {
			f(keep, torn)
		}
	}
	f(-1, 3)
	f(math.MinInt, math.MinInt)
	f(0, math.MaxInt)
	f(len(ops)+1, 0)
	f(math.MaxInt, math.MaxInt)
}

// P21.3: whatever a crash leaves, what is opened again is what the log had since its last sync; and what is opened then can be gone on with.
func TestCrashes(t *testing.T) {
	crashes, lost := 0, 0
	for seed := range int64(300) {
		eachCrash(play(t, seed).d.Buffered(), func(keep, torn int) {
			c := play(t, seed)
			before := c.points
			c.crash(t, keep, torn)
			crashes++
			if !sameHard(c.now().h, before[len(before)-1].h) {
				lost++
			}
			if !slices.ContainsFunc(before, func(p point) bool { return p.format == c.now().format && sameHard(p.h, c.now().h) }) {
				t.Fatal("what is left, the log never had")
			}
			c.open(t, c.now().format)
			c.add(t, promise(rounds, 9))
			c.sync()
			c.crash(t, 0, 0)
			c.open(t, 2)
			if f := c.d.View(); len(f) != 1 {
				t.Fatalf("%d files are left", len(f))
			}
		})
	}
	if crashes < 10000 || lost < 5000 {
		t.Errorf("only %d crashes, of which %d took something", crashes, lost)
	}
}

// P21.3: a second crash while the log that a crash left is opened again takes no more than the first one.
func TestCrashesTwice(t *testing.T) {
	build := func() *course {
		c := &course{d: disk.New(), points: []point{{0, 1, api.Hard{}}}}
		c.open(t, 1)
		c.sync()
		c.add(t, promise(1, 1))
		c.renew(t, 2, chosen(1, put))
		c.add(t, chosen(2, cas))
		return c
	}
	eachCrash(build().d.Buffered(), func(keep, torn int) {
		again := func() *course {
			c := build()
			c.crash(t, keep, torn)
			c.open(t, 2)
			return c
		}
		eachCrash(again().d.Buffered(), func(keep, torn int) {
			c := again()
			had := c.now()
			c.crash(t, keep, torn)
			if c.now().format != had.format || !sameHard(c.now().h, had.h) {
				t.Fatalf("of %+v there is only %+v left", had, c.now())
			}
			c.open(t, 2)
			c.add(t, promise(9, 9))
		})
	})
}

// P21.3: all short courses by their calls, with every crash behind them.
func TestShortCourses(t *testing.T) {
	const calls = 5
	run := func(code, size int) *course {
		c := &course{d: disk.New(), points: []point{{0, 1, api.Hard{}}}}
		c.open(t, 2)
		for i := range size {
			switch code % calls {
			case 0:
				c.add(t, promise(i+1, 1))
			case 1:
				c.sync()
			case 2:
				c.renew(t, c.now().format, image(i+1, "i"))
			case 3:
				c.renew(t, 2, chosen(i+1, cas))
			case 4:
				c.open(t, 2)
			}
			code /= calls
		}
		return c
	}
	for size, codes := 0, 1; size <= 4; size, codes = size+1, codes*calls {
		for code := range codes {
			ops := run(code, size).d.Buffered()
			for keep := range len(ops) + 1 {
				for _, torn := range []int{0, 7, 12} {
					c := run(code, size)
					c.crash(t, keep, torn)
					c.open(t, 2)
				}
			}
		}
	}
}

// P21.4: a log that was renewed in F2 has F2 after a crash, or what it was before; and V1 opens it in the second case alone.
func TestFormats(t *testing.T) {
	build := func(synced bool) *course {
		c := &course{d: disk.New(), points: []point{{0, 1, api.Hard{}}}}
		c.open(t, 1)
		c.add(t, promise(1, 1))
		c.sync()
		c.add(t, chosen(1, put))
		c.renew(t, 2, chosen(2, activate))
		if synced {
			c.sync()
		}
		c.add(t, chosen(3, cas))
		return c
	}
	seen := map[int]int{}
	for _, synced := range []bool{false, true} {
		eachCrash(build(synced).d.Buffered(), func(keep, torn int) {
			c := build(synced)
			c.crash(t, keep, torn)
			format := c.now().format
			seen[format]++
			switch {
			case format == 2:
				wantRefused(t, c.d, 1, api.ErrDowngrade, "renewed in F2")
			case synced:
				t.Fatal("F2 became F1, though it was durable")
			case !sameHard(c.now().h, state(promise(1, 1))) && !sameHard(c.now().h, state(promise(1, 1), chosen(1, put))):
				t.Fatalf("F1 has %+v", c.now().h)
			}
			for v := format; v <= 2; v++ {
				c.open(t, v)
				c.add(t, chosen(4, put))
				c.open(t, v)
			}
			if c.l.Format() != format {
				t.Fatalf("format %d became %d by Add and Open", format, c.l.Format())
			}
		})
	}
	if seen[1] < 20 || seen[2] < 20 {
		t.Errorf("only %v crashes by format", seen)
	}
}

// P21.4: neither Add nor Open, nor a crash of these, makes F1 of F2.
func TestStaysNew(t *testing.T) {
	for seed := range int64(2000) {
		r := rand.New(rand.NewSource(seed))
		c := &course{d: disk.New(), points: []point{{0, 1, api.Hard{}}}}
		c.open(t, 2)
		c.renew(t, 2, someRecord(r, 2))
		c.sync()
		for range r.Intn(8) {
			switch r.Intn(4) {
			case 0:
				c.open(t, 2)
			case 1:
				c.crash(t, r.Intn(5), r.Intn(20))
				wantRefused(t, c.d, 1, api.ErrDowngrade, "a log of F2")
				c.open(t, 2)
			default:
				c.add(t, someRecord(r, 2))
			}
			if c.l.Format() != 2 {
				t.Fatalf("seed %d: format %d", seed, c.l.Format())
			}
		}
	}
}

// P21.2 and general rule 3: a log keeps its disk, but shares no memory with the states that it is given and tells.
func TestMemory(t *testing.T) {
	d := diskOf(api.File{No: 1, Data: fileOf(2, full(true)...)})
	l, h, _ := Open(d, 2)
	spoil(h)
	spoil(l.Hard())
	wantLog(t, l, 2, state(full(true)...), "after what it told was overwritten")
	x := image(9, "nine")
	l.Add(x)
	clear(x.Image)
	wantLog(t, l, 2, state(append(full(true), image(9, "nine"))...), "after its record was overwritten")
	given := state(full(true)...)
	l.Renew(2, given)
	spoil(given)
	wantLog(t, l, 2, state(full(true)...), "after its state was overwritten")
	one, two := l.Hard(), l.Hard()
	spoil(one)
	if !sameHard(two, state(full(true)...)) {
		t.Error("two states share memory")
	}
	_, a := Peek(d)
	_, b := Peek(d)
	spoil(a)
	if !sameHard(b, state(full(true)...)) {
		t.Error("two states share memory")
	}
}

// P21.2: a long log is kept and opened in little time.
func TestMany(t *testing.T) {
	d := disk.New()
	l := wantOpen(t, d, 1, 1, api.Hard{}, "an empty disk")
	for i := range 2000 {
		if err := l.Add(accept(1+i, 1, 1+i, put)); err != api.OK {
			t.Fatal(err)
		}
		if err := l.Add(chosen(1+i, put)); err != api.OK {
			t.Fatal(err)
		}
		if i%50 == 49 {
			if err := l.Renew(1, hard.Apply(l.Hard(), image(i, "image"))); err != api.OK {
				t.Fatal(err)
			}
			l.Sync()
		}
	}
	h := l.Hard()
	wantOpen(t, d, 1, 1, h, "a long log")
	if h.Base != 1999 || len(h.Accepted) != 1 || len(d.Files()) != 1 || d.Files()[0].No != 41 {
		t.Errorf("%+v, files %v", h, d.Files())
	}
}
