package hard

import (
	"math"
	"math/rand"
	"slices"
	"sort"
	"testing"

	"changeover/api"
	"changeover/entry"
	"changeover/recone"
)

// The limits of the chapters, written out.
const (
	indexes = 1 << 32
	rounds  = 1 << 32
	nodes   = 9
	longest = 32768
)

// Commands of some kinds, all of them valid.
var (
	nop      = api.Cmd{Kind: api.CmdNop}
	put      = api.Cmd{Kind: api.CmdPut, Client: 1, Seq: 2, Key: "k", Val: "v"}
	cas      = api.Cmd{Kind: api.CmdCas, Client: 1, Seq: 3, Key: "k", Old: "a", Val: "b"}
	activate = api.Cmd{Kind: api.CmdActivate}
	add      = api.Cmd{Kind: api.CmdAdd, Node: 9}
)

// commands: all of them.
var commands = []api.Cmd{nop, put, cas, activate, add}

// numbersAround: numbers at the limits, beyond them, and at those of Go's types.
var numbersAround = []int{
	math.MinInt, math.MinInt + 1, -1 << 32, -1, 0, 1, 2, 9, 10, 255, 256, 257, math.MaxInt32, math.MaxUint32, 1 << 32, 1<<32 + 1,
	1<<32 + 2, math.MaxInt - 1, math.MaxInt,
}

// ballotOf returns a ballot.
func ballotOf(round, node int) api.Ballot {
	return api.Ballot{Round: round, Node: node}
}

// promise, accept, chosen and image return records.
func promise(round, node int) api.Record {
	return api.Record{Kind: api.RecPromise, Ballot: ballotOf(round, node)}
}

func accept(round, node, index int, c api.Cmd) api.Record {
	return api.Record{Kind: api.RecAccept, Ballot: ballotOf(round, node), Index: index, Cmd: c}
}

func chosen(index int, c api.Cmd) api.Record {
	return api.Record{Kind: api.RecChosen, Index: index, Cmd: c}
}

func imageAt(index int, text string) api.Record {
	return api.Record{Kind: api.RecImage, Index: index, Image: []byte(text)}
}

// taken returns an entry that was accepted.
func taken(index, round, node int, c api.Cmd) api.Entry {
	return api.Entry{Index: index, Ballot: ballotOf(round, node), Cmd: c}
}

// settled returns an entry that was chosen.
func settled(index int, c api.Cmd) api.Entry {
	return api.Entry{Index: index, Cmd: c}
}

// entries returns a list.
func entries(l ...api.Entry) []api.Entry {
	return l
}

// full returns a state that has everything.
func full() api.Hard {
	return api.Hard{
		Promised: ballotOf(3, 1), Base: 4, Image: []byte("img"),
		Accepted: entries(taken(5, 2, 2, put), taken(7, 3, 1, nop), taken(9, 1, 3, cas)),
		Chosen:   entries(settled(5, put), settled(8, activate)),
	}
}

// equal reports whether two states have equal contents, by the definition.
func equal(a, b api.Hard) bool {
	same := a.Promised.Round == b.Promised.Round && a.Promised.Node == b.Promised.Node && a.Base == b.Base && string(a.Image) == string(b.Image)
	return same && equalEntries(a.Accepted, b.Accepted) && equalEntries(a.Chosen, b.Chosen)
}

// equalEntries reports whether two lists have the same entries.
func equalEntries(a, b []api.Entry) bool {
	if len(a) != len(b) {
		return false
	}
	for i := range a {
		if a[i] != b[i] {
			return false
		}
	}
	return true
}

// equalRecords reports whether two lists have the same records.
func equalRecords(a, b []api.Record) bool {
	return slices.EqualFunc(a, b, func(x, y api.Record) bool {
		return x.Kind == y.Kind && x.Ballot == y.Ballot && x.Index == y.Index && x.Cmd == y.Cmd && string(x.Image) == string(y.Image)
	})
}

// brief returns h with a short piece of its image, to be told.
func brief(h api.Hard) api.Hard {
	h.Image = h.Image[:min(len(h.Image), 9)]
	return h
}

// exceeds reports whether a is greater than b.
func exceeds(a, b api.Ballot) bool {
	return a.Round > b.Round || a.Round == b.Round && a.Node > b.Node
}

// inOrder returns the entries of a map, by their indexes, those alone that are above the index base.
func inOrder(m map[int]api.Entry, base int) []api.Entry {
	var l []api.Entry
	for index, e := range m {
		if index > base {
			l = append(l, e)
		}
	}
	sort.Slice(l, func(i, j int) bool { return l[i].Index < l[j].Index })
	return l
}

// resulting returns the state that records make of the empty one, by the definitions, but of all records at once: of accepts at an index the last one counts, of choices the first one, of images the first one with the greatest index; below that there is nothing.
func resulting(l []api.Record) api.Hard {
	var h api.Hard
	accepted, settledAt := map[int]api.Entry{}, map[int]api.Entry{}
	for _, x := range l {
		if recone.Check(x) != api.OK {
			continue
		}
		if exceeds(x.Ballot, h.Promised) {
			h.Promised = x.Ballot
		}
		_, is := settledAt[x.Index]
		switch {
		case x.Kind == api.RecAccept:
			accepted[x.Index] = api.Entry{Index: x.Index, Ballot: x.Ballot, Cmd: x.Cmd}
		case x.Kind == api.RecChosen && !is:
			settledAt[x.Index] = api.Entry{Index: x.Index, Cmd: x.Cmd}
		case x.Kind == api.RecImage && x.Index > h.Base:
			h.Base, h.Image = x.Index, slices.Clone(x.Image)
		}
	}
	h.Accepted, h.Chosen = inOrder(accepted, h.Base), inOrder(settledAt, h.Base)
	return h
}

// recorded returns the records of a state, by the definition.
func recorded(h api.Hard) []api.Record {
	var l []api.Record
	if h.Base > 0 {
		l = append(l, imageAt(h.Base, string(h.Image)))
	}
	if h.Promised.Round != 0 || h.Promised.Node != 0 {
		l = append(l, promise(h.Promised.Round, h.Promised.Node))
	}
	for _, e := range h.Accepted {
		l = append(l, accept(e.Ballot.Round, e.Ballot.Node, e.Index, e.Cmd))
	}
	for _, e := range h.Chosen {
		l = append(l, chosen(e.Index, e.Cmd))
	}
	return l
}

// checked returns the error of a state, by the definition.
func checked(h api.Hard) api.Errno {
	zero := h.Promised.Round == 0 && h.Promised.Node == 0
	owned := h.Promised.Round >= 1 && h.Promised.Round <= rounds && h.Promised.Node >= 1 && h.Promised.Node <= nodes
	none := h.Base == 0 && len(h.Image) == 0
	some := h.Base >= 1 && h.Base <= indexes && len(h.Image) >= 1 && len(h.Image) <= longest
	ok := (zero || owned) && (none || some) && entry.Check(h.Accepted) == api.OK && entry.Check(h.Chosen) == api.OK
	for _, e := range h.Accepted {
		ok = ok && e.Index > h.Base && exceeds(e.Ballot, api.Ballot{}) && !exceeds(e.Ballot, h.Promised)
	}
	for _, e := range h.Chosen {
		ok = ok && e.Index > h.Base && e.Ballot.Round == 0 && e.Ballot.Node == 0
	}
	if !ok {
		return api.ErrForm
	}
	return api.OK
}

// roomy returns h with each of its lists as a piece of a longer one, with the function that tells whether anything of these was changed.
func roomy(h api.Hard) (api.Hard, func() bool) {
	ahead, behind := taken(1, 9, 9, nop), taken(1<<40, 9, 9, nop)
	img := slices.Concat([]byte("ahead"), h.Image, []byte("behind"))
	one := slices.Concat(entries(ahead), h.Accepted, entries(behind, behind))
	two := slices.Concat(entries(ahead), h.Chosen, entries(behind, behind))
	imgBefore, oneBefore, twoBefore := slices.Clone(img), slices.Clone(one), slices.Clone(two)
	h.Image, h.Accepted, h.Chosen = img[5:5+len(h.Image)], one[1:1+len(h.Accepted)], two[1:1+len(h.Chosen)]
	return h, func() bool {
		return !slices.Equal(img, imgBefore) || !slices.Equal(one, oneBefore) || !slices.Equal(two, twoBefore)
	}
}

// spoil overwrites all that the lists of h have, and have room for.
func spoil(h api.Hard) {
	clear(h.Image[:cap(h.Image)])
	clear(h.Accepted[:cap(h.Accepted)])
	clear(h.Chosen[:cap(h.Chosen)])
}

// wantApply fails the test unless the state h is this one after the record x, and both stay as they are.
func wantApply(t *testing.T, h api.Hard, x api.Record, want api.Hard) {
	t.Helper()
	given, changed := roomy(h)
	img := string(x.Image)
	if got := Apply(given, x); !equal(got, want) {
		t.Fatalf("Apply(%+v, kind %d, %v, index %d) = %+v, want %+v", brief(h), x.Kind, x.Ballot, x.Index, brief(got), brief(want))
	}
	if changed() || string(x.Image) != img {
		t.Fatalf("Apply(%+v, kind %d, %v, index %d) changed what it was given", brief(h), x.Kind, x.Ballot, x.Index)
	}
}

// wantOf fails the test unless the records l result in this state.
func wantOf(t *testing.T, l []api.Record, want api.Hard) {
	t.Helper()
	if got := Of(l); !equal(got, want) {
		t.Fatalf("Of(%+v) = %+v, want %+v", l, brief(got), brief(want))
	}
}

// wantCheck fails the test unless h has this error, and stays as it is.
func wantCheck(t *testing.T, h api.Hard, want api.Errno, what string) {
	t.Helper()
	given, changed := roomy(h)
	if got := Check(given); got != want {
		t.Fatalf("%s: Check(%+v) = %d, want %d", what, brief(h), got, want)
	}
	if changed() {
		t.Fatalf("%s: Check changed the state", what)
	}
}

// P19.1: after a promise of 3.1 and an accept of 2.1 at index 5, Promised is 3.1 and one entry is accepted.
func TestApplyExample(t *testing.T) {
	h := Apply(Apply(api.Hard{}, promise(3, 1)), accept(2, 1, 5, put))
	if !equal(h, api.Hard{Promised: ballotOf(3, 1), Accepted: entries(taken(5, 2, 1, put))}) {
		t.Errorf("%+v", h)
	}
}

// P19.1: each kind of record changes what its definition says, above the image alone.
func TestApplyKinds(t *testing.T) {
	changes := []struct {
		what   string
		x      api.Record
		change func(h *api.Hard)
	}{
		{"a greater promise", promise(3, 2), func(h *api.Hard) { h.Promised = ballotOf(3, 2) }},
		{"a promise of a greater round", promise(4, 1), func(h *api.Hard) { h.Promised = ballotOf(4, 1) }},
		{"the same promise", promise(3, 1), func(h *api.Hard) {}},
		{"a lesser promise", promise(2, 9), func(h *api.Hard) {}},
		{"an accept at the index of the image", accept(1, 1, 4, add), func(h *api.Hard) {}},
		{"an accept below the image, of a greater ballot", accept(9, 9, 1, add), func(h *api.Hard) { h.Promised = ballotOf(9, 9) }},
		{"an accept at the index of the image, of a greater ballot", accept(3, 9, 4, add), func(h *api.Hard) { h.Promised = ballotOf(3, 9) }},
		{"an accept of a greater ballot", accept(5, 5, 7, put), func(h *api.Hard) {
			h.Promised, h.Accepted[1] = ballotOf(5, 5), taken(7, 5, 5, put)
		}},
		{"an accept of a lesser ballot", accept(1, 1, 7, put), func(h *api.Hard) { h.Accepted[1] = taken(7, 1, 1, put) }},
		{"an accept of the same ballot", accept(3, 1, 7, cas), func(h *api.Hard) { h.Accepted[1] = taken(7, 3, 1, cas) }},
		{"an accept at the first index", accept(1, 1, 5, add), func(h *api.Hard) { h.Accepted[0] = taken(5, 1, 1, add) }},
		{"an accept at the last index", accept(1, 1, 9, add), func(h *api.Hard) { h.Accepted[2] = taken(9, 1, 1, add) }},
		{"an accept between", accept(1, 1, 6, add), func(h *api.Hard) { h.Accepted = slices.Insert(h.Accepted, 1, taken(6, 1, 1, add)) }},
		{"an accept behind", accept(1, 1, 10, add), func(h *api.Hard) { h.Accepted = append(h.Accepted, taken(10, 1, 1, add)) }},
		{"an accept far behind", accept(rounds, nodes, indexes, add), func(h *api.Hard) {
			h.Promised, h.Accepted = ballotOf(rounds, nodes), append(h.Accepted, taken(indexes, rounds, nodes, add))
		}},
		{"a choice below the image", chosen(3, add), func(h *api.Hard) {}},
		{"a choice at the index of the image", chosen(4, add), func(h *api.Hard) {}},
		{"a choice that there is, of another command", chosen(5, add), func(h *api.Hard) {}},
		{"the last choice that there is, of another command", chosen(8, nop), func(h *api.Hard) {}},
		{"the same choice", chosen(8, activate), func(h *api.Hard) {}},
		{"a choice between", chosen(7, add), func(h *api.Hard) { h.Chosen = slices.Insert(h.Chosen, 1, settled(7, add)) }},
		{"a choice of what was accepted", chosen(9, cas), func(h *api.Hard) { h.Chosen = append(h.Chosen, settled(9, cas)) }},
		{"a choice far behind", chosen(indexes, add), func(h *api.Hard) { h.Chosen = append(h.Chosen, settled(indexes, add)) }},
		{"an image below the image", imageAt(3, "new"), func(h *api.Hard) {}},
		{"an image at the index of the image", imageAt(4, "new"), func(h *api.Hard) {}},
		{"a newer image", imageAt(5, "new"), func(h *api.Hard) {
			h.Base, h.Image, h.Accepted, h.Chosen = 5, []byte("new"), h.Accepted[1:], h.Chosen[1:]
		}},
		{"an image at an index without an entry", imageAt(6, "n"), func(h *api.Hard) {
			h.Base, h.Image, h.Accepted, h.Chosen = 6, []byte("n"), h.Accepted[1:], h.Chosen[1:]
		}},
		{"an image at the index of an accept", imageAt(7, "new"), func(h *api.Hard) {
			h.Base, h.Image, h.Accepted, h.Chosen = 7, []byte("new"), h.Accepted[2:], h.Chosen[1:]
		}},
		{"an image at the last choice", imageAt(8, "longer"), func(h *api.Hard) {
			h.Base, h.Image, h.Accepted, h.Chosen = 8, []byte("longer"), h.Accepted[2:], nil
		}},
		{"an image at the last index", imageAt(9, "new"), func(h *api.Hard) {
			*h = api.Hard{Promised: ballotOf(3, 1), Base: 9, Image: []byte("new")}
		}},
		{"an image far behind", imageAt(indexes, "new"), func(h *api.Hard) {
			*h = api.Hard{Promised: ballotOf(3, 1), Base: indexes, Image: []byte("new")}
		}},
	}
	for _, c := range changes {
		want := full()
		c.change(&want)
		t.Log(c.what)
		wantApply(t, full(), c.x, want)
		if !equal(resulting(append(recorded(full()), c.x)), want) {
			t.Errorf("%s: the definition gives another state", c.what)
		}
	}
}

// P19.1: of the empty state, each kind of record makes what it has.
func TestApplyToNothing(t *testing.T) {
	long := make([]byte, longest)
	for i := range long {
		long[i] = byte(i % 251)
	}
	wantApply(t, api.Hard{}, promise(1, 1), api.Hard{Promised: ballotOf(1, 1)})
	wantApply(t, api.Hard{}, promise(rounds, nodes), api.Hard{Promised: ballotOf(rounds, nodes)})
	wantApply(t, api.Hard{}, accept(1, 2, 1, put), api.Hard{Promised: ballotOf(1, 2), Accepted: entries(taken(1, 1, 2, put))})
	wantApply(t, api.Hard{}, accept(1, 2, indexes, cas), api.Hard{Promised: ballotOf(1, 2), Accepted: entries(taken(indexes, 1, 2, cas))})
	wantApply(t, api.Hard{}, chosen(1, put), api.Hard{Chosen: entries(settled(1, put))})
	wantApply(t, api.Hard{}, chosen(indexes, activate), api.Hard{Chosen: entries(settled(indexes, activate))})
	wantApply(t, api.Hard{}, imageAt(1, "\x00"), api.Hard{Base: 1, Image: []byte{0}})
	wantApply(t, api.Hard{}, imageAt(indexes, string(long)), api.Hard{Base: indexes, Image: long})
}

// wrong returns records that are not valid, of all kinds of errors, each above everything in its effect if it had one.
func wrong() []api.Record {
	over := func(x api.Record, change func(x *api.Record)) api.Record {
		change(&x)
		return x
	}
	l := []api.Record{
		{}, {Kind: -1, Ballot: ballotOf(9, 9), Index: 6, Cmd: nop}, {Kind: 5, Ballot: ballotOf(9, 9), Index: 6, Cmd: nop, Image: []byte("i")},
		promise(0, 0), promise(9, 0), promise(0, 9), promise(9, 10), promise(rounds+1, 1), promise(-9, 1), promise(math.MaxInt, 1),
		accept(9, 9, 0, nop), accept(9, 9, -1, nop), accept(9, 9, indexes+1, nop), accept(9, 9, 6, api.Cmd{}), accept(0, 0, 6, nop), accept(9, 10, 6, nop),
		accept(9, 9, 7, api.Cmd{Kind: api.CmdNop, Node: 1}), accept(9, 9, 7, api.Cmd{Kind: api.CmdGet, Client: 1, Seq: 1, Key: "/"}),
		chosen(0, nop), chosen(-6, nop), chosen(indexes+1, nop), chosen(math.MaxInt, nop), chosen(6, api.Cmd{}), chosen(6, api.Cmd{Kind: api.CmdAdd, Node: 10}),
		imageAt(6, ""), imageAt(0, "i"), imageAt(-1, "i"), imageAt(indexes+1, "i"), imageAt(math.MaxInt, "i"), imageAt(6, string(make([]byte, longest+1))),
	}
	return append(l,
		over(promise(9, 9), func(x *api.Record) { x.Index = 6 }), over(promise(9, 9), func(x *api.Record) { x.Image = []byte("i") }),
		over(promise(9, 9), func(x *api.Record) { x.Cmd = nop }), over(accept(9, 9, 6, nop), func(x *api.Record) { x.Image = []byte("i") }),
		over(chosen(6, nop), func(x *api.Record) { x.Ballot = ballotOf(9, 9) }), over(chosen(6, nop), func(x *api.Record) { x.Image = []byte("i") }),
		over(imageAt(6, "i"), func(x *api.Record) { x.Ballot = ballotOf(9, 9) }), over(imageAt(6, "i"), func(x *api.Record) { x.Cmd = nop }),
	)
}

// P19.1: a record that is not valid has no effect.
func TestApplyWrong(t *testing.T) {
	for _, x := range wrong() {
		if recone.Check(x) == api.OK {
			t.Fatalf("%+v is valid", x)
		}
		wantApply(t, full(), x, full())
		wantApply(t, api.Hard{}, x, api.Hard{})
		wantOf(t, []api.Record{promise(1, 1), x, chosen(1, nop), x}, api.Hard{Promised: ballotOf(1, 1), Chosen: entries(settled(1, nop))})
	}
}

// P19.1: a number of any size, in a record or in a state, is held against the others as it is.
func TestApplyNumbers(t *testing.T) {
	for _, n := range numbersAround {
		for _, x := range []api.Record{promise(n, 1), promise(1, n), accept(n, 1, 2, nop), accept(1, n, 2, nop), accept(1, 1, n, nop), chosen(n, nop), imageAt(n, "i")} {
			wantApply(t, api.Hard{}, x, resulting([]api.Record{x}))
			wantApply(t, full(), x, resulting(append(recorded(full()), x)))
		}
		kept := api.Hard{Base: n}
		later := api.Hard{Promised: ballotOf(2, 2), Base: n}
		wantApply(t, kept, promise(2, 2), later)
		one, two, three := later, kept, kept
		if n < 300 {
			one.Accepted, two.Chosen = entries(taken(300, 2, 2, put)), entries(settled(300, put))
			three.Base, three.Image = 300, []byte("i")
		}
		wantApply(t, kept, accept(2, 2, 300, put), one)
		wantApply(t, kept, chosen(300, put), two)
		wantApply(t, kept, imageAt(300, "i"), three)
		for _, b := range []api.Ballot{ballotOf(n, 1), ballotOf(3, n), ballotOf(n, n)} {
			want := b
			if exceeds(ballotOf(3, 2), b) {
				want = ballotOf(3, 2)
			}
			wantApply(t, api.Hard{Promised: b}, promise(3, 2), api.Hard{Promised: want})
			wantApply(t, api.Hard{Promised: b}, accept(3, 2, 1, nop), api.Hard{Promised: want, Accepted: entries(taken(1, 3, 2, nop))})
			wantApply(t, api.Hard{Promised: b}, chosen(1, nop), api.Hard{Promised: b, Chosen: entries(settled(1, nop))})
			wantApply(t, api.Hard{Promised: b}, promise(0, 0), api.Hard{Promised: b})
		}
	}
}

// P19.1: of two choices at index 3 the first one counts; an image at 2 removes what is at 1 and 2, and a later accept at 2 does not bring an entry.
func TestOfExamples(t *testing.T) {
	wantOf(t, nil, api.Hard{})
	wantOf(t, []api.Record{}, api.Hard{})
	wantOf(t, []api.Record{chosen(3, put), chosen(3, nop)}, api.Hard{Chosen: entries(settled(3, put))})
	l := []api.Record{accept(1, 1, 1, nop), accept(1, 1, 2, put), accept(1, 1, 3, cas), chosen(1, nop), chosen(2, put), chosen(3, cas)}
	want := api.Hard{
		Promised: ballotOf(1, 1), Accepted: entries(taken(1, 1, 1, nop), taken(2, 1, 1, put), taken(3, 1, 1, cas)),
		Chosen: entries(settled(1, nop), settled(2, put), settled(3, cas)),
	}
	wantOf(t, l, want)
	l = append(l, imageAt(2, "i"))
	want.Base, want.Image, want.Accepted, want.Chosen = 2, []byte("i"), want.Accepted[2:], want.Chosen[2:]
	wantOf(t, l, want)
	l = append(l, accept(2, 1, 2, nop), chosen(1, add))
	want.Promised = ballotOf(2, 1)
	wantOf(t, l, want)
	l = append(l, imageAt(1, "old"), imageAt(2, "other"), accept(1, 3, 3, add), promise(1, 9))
	want.Accepted = entries(taken(3, 1, 3, add))
	wantOf(t, l, want)
}

// P19.1: all short lists of a few records result in what the definitions say, each record in its turn.
func TestOfAll(t *testing.T) {
	few := []api.Record{
		promise(2, 1), promise(1, 3), accept(1, 1, 1, put), accept(2, 2, 2, nop), accept(1, 2, 2, cas), accept(3, 1, 3, nop),
		chosen(1, put), chosen(2, nop), chosen(2, cas), chosen(3, add), imageAt(1, "1"), imageAt(2, "2"), imageAt(2, "two"), accept(9, 9, 9, api.Cmd{}),
	}
	for size := range 5 {
		total := 1
		for range size {
			total *= len(few)
		}
		for i := range total {
			var l []api.Record
			for range size {
				l = append(l, few[i%len(few)])
				i /= len(few)
			}
			wantOf(t, l, resulting(l))
		}
	}
}

// someBallot returns a ballot at random.
func someBallot(r *rand.Rand) api.Ballot {
	return ballotOf(1+r.Intn(1<<r.Intn(5)), 1+r.Intn(nodes))
}

// someRecord returns a record at random, seldom one that is not valid, with an index around that of the others.
func someRecord(r *rand.Rand, most int) api.Record {
	index := 1 + r.Intn(most)
	x := api.Record{Kind: 1 + r.Intn(3), Ballot: someBallot(r), Index: index, Cmd: commands[r.Intn(len(commands))]}
	if r.Intn(40) == 0 {
		return x
	}
	switch x.Kind {
	case api.RecPromise:
		return api.Record{Kind: x.Kind, Ballot: x.Ballot}
	case api.RecChosen:
		x.Ballot = api.Ballot{}
	}
	if r.Intn(12) > 0 {
		return x
	}
	return imageAt(1+r.Intn(index), "image "+string(rune('a'+r.Intn(26))))
}

// someRecords returns records at random.
func someRecords(r *rand.Rand) []api.Record {
	l := make([]api.Record, r.Intn(60))
	most := 1 << r.Intn(6)
	for i := range l {
		l[i] = someRecord(r, most)
	}
	return l
}

// P19.1: many records result in what the definitions say; Of is Apply for each of them, in order, and changes none.
func TestOfMany(t *testing.T) {
	r := rand.New(rand.NewSource(19))
	entriesSeen, imagesSeen := 0, 0
	for range 2000 {
		l := someRecords(r)
		before := slices.Clone(l)
		var h api.Hard
		for i, x := range l {
			want := resulting(l[:i+1])
			wantApply(t, h, x, want)
			h = Apply(h, x)
		}
		wantOf(t, l, h)
		if !equalRecords(l, before) {
			t.Fatalf("Of changed its records %+v", before)
		}
		entriesSeen += len(h.Accepted) + len(h.Chosen)
		imagesSeen += min(h.Base, 1)
	}
	if entriesSeen < 4000 || imagesSeen < 400 {
		t.Errorf("only %d entries and %d images resulted", entriesSeen, imagesSeen)
	}
}

// P19.1 and general rule 3: the answer and what it was made of share no memory, even where nothing changed.
func TestApplyMemory(t *testing.T) {
	for _, x := range append(wrong(), promise(9, 9), promise(1, 1), accept(3, 1, 6, put), accept(3, 1, 7, put), accept(3, 1, 1, put), accept(1, 1, 10, put),
		chosen(5, nop), chosen(6, nop), chosen(9, nop), chosen(1, nop), imageAt(1, "i"), imageAt(5, "other"), imageAt(10, "other")) {
		given, changed := roomy(full())
		img := string(x.Image)
		want := resulting(append(recorded(full()), x))
		spoil(Apply(given, x))
		if changed() || string(x.Image) != img {
			t.Fatalf("the state after kind %d at %d shares its memory", x.Kind, x.Index)
		}
		got := Apply(given, x)
		spoil(given)
		clear(x.Image)
		if !equal(got, want) {
			t.Fatalf("the state after kind %d at %d changes with what it was made of", x.Kind, x.Index)
		}
	}
	l := []api.Record{imageAt(1, "one"), accept(1, 1, 2, put), chosen(2, put)}
	spoil(Of(l))
	if string(l[0].Image) != "one" {
		t.Error("the state of records shares their memory")
	}
	got := Of(l)
	clear(l[0].Image)
	if string(got.Image) != "one" {
		t.Error("the state of records changes with them")
	}
}

// P19.2: a state is valid just if it keeps all that the definition names.
func TestCheck(t *testing.T) {
	for _, c := range []struct {
		what   string
		want   api.Errno
		change func(h *api.Hard)
	}{
		{"a whole state", api.OK, func(h *api.Hard) {}},
		{"the empty state", api.OK, func(h *api.Hard) { *h = api.Hard{} }},
		{"empty lists", api.OK, func(h *api.Hard) {
			*h = api.Hard{Image: []byte{}, Accepted: entries(), Chosen: []api.Entry{}}
		}},
		{"a promise alone", api.OK, func(h *api.Hard) { *h = api.Hard{Promised: ballotOf(rounds, nodes)} }},
		{"an image alone", api.OK, func(h *api.Hard) { *h = api.Hard{Base: indexes, Image: make([]byte, longest)} }},
		{"choices without a promise", api.OK, func(h *api.Hard) { h.Promised, h.Accepted = api.Ballot{}, nil }},
		{"no image", api.OK, func(h *api.Hard) { h.Base, h.Image = 0, nil }},
		{"an entry just above the image", api.OK, func(h *api.Hard) { h.Base = 4 }},
		{"a promise of nobody", api.ErrForm, func(h *api.Hard) { h.Promised.Node = 0 }},
		{"a promise of a node that there is not", api.ErrForm, func(h *api.Hard) { h.Promised.Node = 10 }},
		{"a promise of a round that is too great", api.ErrForm, func(h *api.Hard) { h.Promised.Round = rounds + 1 }},
		{"a promise of the round 0", api.ErrForm, func(h *api.Hard) { *h = api.Hard{Promised: ballotOf(0, 1)} }},
		{"a promise of a negative round", api.ErrForm, func(h *api.Hard) { *h = api.Hard{Promised: ballotOf(-1, 1)} }},
		{"an index without an image", api.ErrForm, func(h *api.Hard) { h.Image = nil }},
		{"an index with an empty image", api.ErrForm, func(h *api.Hard) { *h = api.Hard{Base: 1, Image: []byte{}} }},
		{"an image without an index", api.ErrForm, func(h *api.Hard) { h.Base = 0 }},
		{"an image with a negative index", api.ErrForm, func(h *api.Hard) { h.Base = -1 }},
		{"a negative index without an image", api.ErrForm, func(h *api.Hard) { *h = api.Hard{Base: -1} }},
		{"an image with an index that is too great", api.ErrForm, func(h *api.Hard) { *h = api.Hard{Base: indexes + 1, Image: []byte{1}} }},
		{"an image that is too long", api.ErrForm, func(h *api.Hard) { h.Image = make([]byte, longest+1) }},
		{"an image at the index of an accept", api.ErrForm, func(h *api.Hard) { h.Base, h.Chosen = 5, nil }},
		{"an image above an accept", api.ErrForm, func(h *api.Hard) { h.Base, h.Chosen = 6, nil }},
		{"an image at the index of a choice", api.ErrForm, func(h *api.Hard) { h.Base, h.Accepted = 5, nil }},
		{"an image above a choice", api.ErrForm, func(h *api.Hard) { h.Base, h.Accepted = 6, nil }},
		{"an accept at index 0", api.ErrForm, func(h *api.Hard) { *h = api.Hard{Promised: ballotOf(9, 9), Accepted: entries(taken(0, 1, 1, nop))} }},
		{"an accept at an index that is too great", api.ErrForm, func(h *api.Hard) { h.Accepted[2].Index = indexes + 1 }},
		{"an accept of no command", api.ErrForm, func(h *api.Hard) { h.Accepted[1].Cmd = api.Cmd{} }},
		{"accepts at one index", api.ErrForm, func(h *api.Hard) { h.Accepted[1].Index = 5 }},
		{"accepts in descending order", api.ErrForm, func(h *api.Hard) { h.Accepted[2].Index = 6 }},
		{"an accept of the zero ballot", api.ErrForm, func(h *api.Hard) { h.Accepted[1].Ballot = api.Ballot{} }},
		{"an accept of a ballot that is not valid", api.ErrForm, func(h *api.Hard) { h.Accepted[1].Ballot = ballotOf(1, 0) }},
		{"an accept of a lesser ballot that is not valid", api.ErrForm, func(h *api.Hard) { h.Accepted[1].Ballot = ballotOf(-1, 1) }},
		{"an accept of a greater ballot", api.ErrForm, func(h *api.Hard) { h.Accepted[2].Ballot = ballotOf(3, 2) }},
		{"an accept of a greater round", api.ErrForm, func(h *api.Hard) { h.Accepted[0].Ballot = ballotOf(4, 1) }},
		{"an accept of the ballot that was promised", api.OK, func(h *api.Hard) { h.Accepted[0].Ballot = ballotOf(3, 1) }},
		{"an accept without a promise", api.ErrForm, func(h *api.Hard) { h.Promised = api.Ballot{} }},
		{"a choice at index 0", api.ErrForm, func(h *api.Hard) { *h = api.Hard{Chosen: entries(settled(0, nop))} }},
		{"a choice at an index that is too great", api.ErrForm, func(h *api.Hard) { h.Chosen[1].Index = indexes + 1 }},
		{"a choice of no command", api.ErrForm, func(h *api.Hard) { h.Chosen[0].Cmd = api.Cmd{} }},
		{"a choice of a command that is not valid", api.ErrForm, func(h *api.Hard) { h.Chosen[1].Cmd.Client = 1 }},
		{"choices at one index", api.ErrForm, func(h *api.Hard) { h.Chosen[1].Index = 5 }},
		{"choices in descending order", api.ErrForm, func(h *api.Hard) { h.Chosen[0].Index = 9 }},
		{"a choice with a ballot", api.ErrForm, func(h *api.Hard) { h.Chosen[0].Ballot = ballotOf(1, 1) }},
		{"the last choice with a ballot", api.ErrForm, func(h *api.Hard) { h.Chosen[1].Ballot = ballotOf(3, 1) }},
		{"a choice with a ballot that is not valid", api.ErrForm, func(h *api.Hard) { h.Chosen[1].Ballot = ballotOf(0, 1) }},
	} {
		h := full()
		c.change(&h)
		wantCheck(t, h, c.want, c.what)
		if checked(h) != c.want {
			t.Errorf("%s: the definition gives error %d, want %d", c.what, checked(h), c.want)
		}
	}
}

// P19.2: each number of a state may be of any size, and is valid just if the definition says so.
func TestCheckNumbers(t *testing.T) {
	for _, n := range numbersAround {
		for _, change := range []func(h *api.Hard){
			func(h *api.Hard) { h.Promised.Round = n },
			func(h *api.Hard) { h.Promised.Node = n },
			func(h *api.Hard) { h.Promised = ballotOf(n, n) },
			func(h *api.Hard) { h.Base = n },
			func(h *api.Hard) { h.Accepted[0].Index = n },
			func(h *api.Hard) { h.Accepted[2].Index = n },
			func(h *api.Hard) { h.Accepted[1].Ballot.Round = n },
			func(h *api.Hard) { h.Accepted[1].Ballot.Node = n },
			func(h *api.Hard) { h.Accepted[1].Cmd.Kind = n },
			func(h *api.Hard) { h.Chosen[0].Index = n },
			func(h *api.Hard) { h.Chosen[1].Index = n },
			func(h *api.Hard) { h.Chosen[1].Ballot.Round = n },
			func(h *api.Hard) { h.Chosen[1].Ballot.Node = n },
			func(h *api.Hard) { h.Chosen[1].Cmd.Node = n },
		} {
			h := full()
			change(&h)
			wantCheck(t, h, checked(h), "a whole state with a number")
			h.Base, h.Image = 0, nil
			wantCheck(t, h, checked(h), "a state without an image, with a number")
			h.Accepted = nil
			wantCheck(t, h, checked(h), "a state without accepts, with a number")
			h.Promised, h.Chosen = ballotOf(n, 1), nil
			wantCheck(t, h, checked(h), "a promise with a number")
		}
		wantCheck(t, api.Hard{Base: n}, checked(api.Hard{Base: n}), "an index alone")
	}
}

// spoilt returns a state that records resulted in, changed in up to two places.
func spoilt(r *rand.Rand) api.Hard {
	h := Of(someRecords(r))
	for range r.Intn(3) {
		l := &h.Accepted
		if r.Intn(2) == 0 {
			l = &h.Chosen
		}
		switch i := r.Intn(len(*l) + 1); r.Intn(8) {
		case 0:
			h.Promised = ballotOf(r.Intn(4), r.Intn(11))
		case 1:
			h.Base += r.Intn(5) - 2
		case 2:
			h.Image = h.Image[:min(len(h.Image), r.Intn(2))]
		case 3:
			*l = slices.Insert(*l, i, taken(r.Intn(20), r.Intn(3), r.Intn(11), nop))
		case 4:
			*l = slices.Delete(*l, 0, i)
		case 5:
			*l, h.Chosen = h.Chosen, *l
		case 6:
			*l = slices.Insert(*l, i, settled(r.Intn(20), put))
		case 7:
			*l = append(*l, (*l)[:min(i, 1)]...)
		}
	}
	return h
}

// P19.2: whatever state there is, Check, Records and Clone return what the definitions say.
func TestSpoilt(t *testing.T) {
	r := rand.New(rand.NewSource(192))
	seen := map[api.Errno]int{}
	for range 20000 {
		h := spoilt(r)
		want := checked(h)
		wantCheck(t, h, want, "spoilt")
		if got := Records(h); !equalRecords(got, recorded(h)) {
			t.Fatalf("Records(%+v) = %+v, want %+v", h, got, recorded(h))
		}
		if got := Clone(h); !equal(got, h) || !Same(got, h) {
			t.Fatalf("Clone(%+v) = %+v", h, got)
		}
		seen[want]++
	}
	if seen[api.OK] < 3000 || seen[api.ErrForm] < 3000 {
		t.Errorf("only %d states are valid, and %d are not", seen[api.OK], seen[api.ErrForm])
	}
}

// P19.2: Records returns the image, the promise, the accepts and the choices, in this order, and none for what there is not.
func TestRecords(t *testing.T) {
	for _, c := range []struct {
		h    api.Hard
		want []api.Record
	}{
		{api.Hard{}, nil},
		{api.Hard{Image: []byte{}, Accepted: entries(), Chosen: entries()}, nil},
		{full(), []api.Record{
			imageAt(4, "img"), promise(3, 1), accept(2, 2, 5, put), accept(3, 1, 7, nop), accept(1, 3, 9, cas), chosen(5, put), chosen(8, activate),
		}},
		{api.Hard{Promised: ballotOf(1, 9)}, []api.Record{promise(1, 9)}},
		{api.Hard{Base: 1, Image: []byte("i")}, []api.Record{imageAt(1, "i")}},
		{api.Hard{Base: indexes, Image: []byte("i"), Chosen: entries(settled(1, nop))}, []api.Record{imageAt(indexes, "i"), chosen(1, nop)}},
		{api.Hard{Promised: ballotOf(2, 1), Accepted: entries(taken(1, 2, 1, add))}, []api.Record{promise(2, 1), accept(2, 1, 1, add)}},
		{api.Hard{Chosen: entries(settled(2, cas), settled(3, nop))}, []api.Record{chosen(2, cas), chosen(3, nop)}},
		{api.Hard{Base: 1}, []api.Record{imageAt(1, "")}},
		{api.Hard{Base: 0, Image: []byte("i")}, nil},
		{api.Hard{Base: -1, Image: []byte("i")}, nil},
		{api.Hard{Base: math.MinInt}, nil},
		{api.Hard{Base: math.MaxInt, Image: []byte("i")}, []api.Record{imageAt(math.MaxInt, "i")}},
		{api.Hard{Promised: ballotOf(0, 1)}, []api.Record{promise(0, 1)}},
		{api.Hard{Promised: ballotOf(1, 0)}, []api.Record{promise(1, 0)}},
		{api.Hard{Promised: ballotOf(-1, math.MinInt)}, []api.Record{promise(-1, math.MinInt)}},
		{api.Hard{Accepted: entries(taken(9, 0, 0, nop), taken(1, 1, 1, api.Cmd{}))}, []api.Record{accept(0, 0, 9, nop), accept(1, 1, 1, api.Cmd{})}},
		{api.Hard{Chosen: entries(taken(9, 4, 5, nop), settled(-1, put))}, []api.Record{chosen(9, nop), chosen(-1, put)}},
	} {
		given, changed := roomy(c.h)
		got := Records(given)
		if !equalRecords(got, c.want) {
			t.Errorf("Records(%+v) = %+v, want %+v", c.h, got, c.want)
		}
		for _, x := range got {
			clear(x.Image[:cap(x.Image)])
		}
		if changed() {
			t.Errorf("Records(%+v) shares its memory", c.h)
		}
		got = Records(given)
		spoil(given)
		if !equalRecords(got, c.want) {
			t.Errorf("Records(%+v) changes with it", c.h)
		}
	}
}

// P19.2: states are the same just if all their fields are equal; a nil list equals an empty one.
func TestSame(t *testing.T) {
	changes := []func(h *api.Hard){
		func(h *api.Hard) {},
		func(h *api.Hard) { *h = api.Hard{} },
		func(h *api.Hard) { h.Promised.Round++ },
		func(h *api.Hard) { h.Promised.Node++ },
		func(h *api.Hard) { h.Base++ },
		func(h *api.Hard) { h.Base = -h.Base },
		func(h *api.Hard) { h.Image = []byte("imh") },
		func(h *api.Hard) { h.Image = []byte("im") },
		func(h *api.Hard) { h.Image = []byte("imgs") },
		func(h *api.Hard) { h.Image = nil },
		func(h *api.Hard) { h.Accepted[0].Index-- },
		func(h *api.Hard) { h.Accepted[1].Ballot.Round = 1 },
		func(h *api.Hard) { h.Accepted[1].Ballot.Node = 2 },
		func(h *api.Hard) { h.Accepted[2].Cmd = nop },
		func(h *api.Hard) { h.Accepted[2].Cmd.Old = "b" },
		func(h *api.Hard) { h.Accepted = h.Accepted[:2] },
		func(h *api.Hard) { h.Accepted = h.Accepted[1:] },
		func(h *api.Hard) { h.Accepted = nil },
		func(h *api.Hard) { h.Accepted = append(h.Accepted, taken(10, 1, 1, nop)) },
		func(h *api.Hard) { h.Accepted = h.Chosen },
		func(h *api.Hard) { h.Chosen[0].Index = 6 },
		func(h *api.Hard) { h.Chosen[0].Ballot = ballotOf(1, 1) },
		func(h *api.Hard) { h.Chosen[0].Cmd.Val = "w" },
		func(h *api.Hard) { h.Chosen[1].Cmd = nop },
		func(h *api.Hard) { h.Chosen = h.Chosen[:1] },
		func(h *api.Hard) { h.Chosen = nil },
		func(h *api.Hard) { h.Chosen = append(h.Chosen, settled(10, nop)) },
		func(h *api.Hard) { h.Accepted, h.Chosen = h.Chosen, h.Accepted },
		func(h *api.Hard) { h.Accepted[0], h.Accepted[1] = h.Accepted[1], h.Accepted[0] },
	}
	for i, one := range changes {
		for j, two := range changes {
			a, b := full(), full()
			one(&a)
			two(&b)
			givenA, changedA := roomy(a)
			givenB, changedB := roomy(b)
			if got := Same(givenA, givenB); got != (i == j) {
				t.Errorf("Same(%+v, %+v) = %t", a, b, got)
			}
			if changedA() || changedB() {
				t.Errorf("Same(%+v, %+v) changed one of them", a, b)
			}
		}
	}
	empty := api.Hard{Image: []byte{}, Accepted: entries(), Chosen: []api.Entry{}}
	if !Same(empty, api.Hard{}) || !Same(api.Hard{}, empty) || !Same(api.Hard{}, api.Hard{}) || !Same(empty, empty) {
		t.Error("empty lists are not the same as none")
	}
}

// P19.2: Clone returns the same in new memory, of which no two lists share any.
func TestClone(t *testing.T) {
	odd := api.Hard{
		Promised: ballotOf(-1, 99), Base: math.MinInt, Image: []byte("odd"),
		Accepted: entries(taken(9, 0, 0, nop), taken(-1, 1, 1, api.Cmd{})), Chosen: entries(taken(3, 3, 3, put), settled(3, put)),
	}
	same := entries(taken(5, 1, 1, nop), taken(6, 1, 1, put))
	for _, h := range []api.Hard{full(), odd, {}, {Base: 1}, {Image: []byte("i")}, {Promised: ballotOf(1, 1), Accepted: same, Chosen: same}} {
		given, changed := roomy(h)
		got := Clone(given)
		if !equal(got, h) || Check(got) != Check(h) {
			t.Errorf("Clone(%+v) = %+v", h, got)
		}
		spoil(got)
		if changed() {
			t.Errorf("Clone(%+v) shares its memory", h)
		}
		got = Clone(given)
		want := recorded(h)
		spoil(given)
		if got.Base != h.Base || got.Promised != h.Promised || !equalRecords(recorded(got), want) {
			t.Errorf("Clone(%+v) changes with it", h)
		}
	}
	got := Clone(api.Hard{Accepted: same, Chosen: same})
	clear(got.Accepted[:cap(got.Accepted)])
	if !equalEntries(got.Chosen, same) {
		t.Error("two lists of a copy share their memory")
	}
}

// P19.3: the state that records result in is valid, and its own records result in it; the promise never decreases; what was chosen stays till an image has it.
func TestConsequences(t *testing.T) {
	r := rand.New(rand.NewSource(193))
	bad := wrong()
	for range 2000 {
		var h api.Hard
		for _, x := range append(someRecords(r), bad[r.Intn(len(bad))]) {
			next := Apply(h, x)
			if Check(next) != api.OK || checked(next) != api.OK {
				t.Fatalf("%+v after %+v is %+v, which is not valid", h, x, next)
			}
			if got := Of(Records(next)); !equal(got, next) || !Same(got, next) {
				t.Fatalf("the records of %+v result in %+v", next, got)
			}
			if exceeds(h.Promised, next.Promised) || h.Base > next.Base {
				t.Fatalf("%+v after %+v is %+v", h, x, next)
			}
			for _, e := range h.Chosen {
				if !slices.Contains(next.Chosen, e) && e.Index > next.Base {
					t.Fatalf("%+v after %+v is %+v, without the choice at %d", h, x, next, e.Index)
				}
			}
			h = next
		}
	}
	for _, h := range []api.Hard{full(), {}, {Base: indexes, Image: make([]byte, longest)}, {Promised: ballotOf(rounds, nodes), Accepted: entries(taken(indexes, rounds, nodes, cas))}} {
		if got := Of(Records(h)); !equal(got, h) {
			t.Errorf("the records of %+v result in %+v", brief(h), brief(got))
		}
	}
}
