package ballot

import (
	"fmt"
	"math"
	"math/big"
	"math/rand"
	"slices"
	"testing"

	"changeover/api"
)

// The limits of the chapter, written out.
const (
	rounds = 1 << 32
	nodes  = 9
)

// of returns the ballot of a round and a node.
func of(round, node int) api.Ballot {
	return api.Ballot{Round: round, Node: node}
}

// edges: rounds at and beyond the limits, and at those of Go's number types.
var edges = []int{
	math.MinInt, math.MinInt + 1, -1 << 32, -2, -1, 0, 1, 2, 3, 9, 10, 255, 256, 257, 65536,
	math.MaxInt32, math.MaxInt32 + 1, math.MaxUint32 - 1, math.MaxUint32, rounds, rounds + 1, rounds + 2, 1<<33 + 1, math.MaxInt - 1, math.MaxInt,
}

// owners: nodes, those beside them, and numbers that have one of theirs in their lowest bits.
var owners = []int{
	math.MinInt, math.MinInt + 1, -256 + 1, -9, -2, -1, 0, 1, 2, 3, 4, 5, 6, 7, 8, 9, 10, 11, 255, 256, 257, 1<<16 + 3, 1 << 32, 1<<32 + 1, 1<<32 + 9, math.MaxInt - 1, math.MaxInt,
}

// ballots returns those of all edges and owners, valid and not.
func ballots() []api.Ballot {
	var l []api.Ballot
	for _, round := range edges {
		for _, node := range owners {
			l = append(l, of(round, node))
		}
	}
	return l
}

// random returns a ballot that is near others as often as far from them.
func random(r *rand.Rand) api.Ballot {
	switch r.Intn(4) {
	case 0:
		return of(edges[r.Intn(len(edges))], owners[r.Intn(len(owners))])
	case 1:
		return of(r.Intn(rounds)+1, r.Intn(nodes)+1)
	case 2:
		return of(int(r.Uint64()), int(r.Uint64()))
	}
	return of(r.Intn(5)-1, r.Intn(12)-1)
}

// valid reports whether b is, by the definitions.
func valid(b api.Ballot) bool {
	if b.Round == 0 && b.Node == 0 {
		return true
	}
	return b.Round >= 1 && b.Round <= rounds && b.Node >= 1 && b.Node <= nodes
}

// place returns where b stands among all ballots: its round and its node as one number, without a bound.
func place(b api.Ballot) *big.Int {
	n := new(big.Int).Lsh(big.NewInt(int64(b.Round)), 64)
	return n.Add(n, big.NewInt(int64(b.Node)))
}

// less reports whether a is less than b, by their places.
func less(a, b api.Ballot) bool {
	return place(a).Cmp(place(b)) < 0
}

// after returns what Next is to return: the first valid ballot of the node beyond b, tried round by round.
func after(b api.Ballot, node int) (api.Ballot, api.Errno) {
	if !valid(b) || node < 1 || node > nodes {
		return api.Ballot{}, api.ErrRange
	}
	for round := b.Round; round <= rounds; round++ {
		if next := of(round, node); valid(next) && less(b, next) {
			return next, api.OK
		}
	}
	return api.Ballot{}, api.ErrRange
}

// P10.1: the example of the chapter; the zero ballot, the limits of both numbers, and what is beyond them.
func TestMay(t *testing.T) {
	for _, x := range []struct {
		b    api.Ballot
		want bool
	}{
		{of(0, 0), true},
		{of(1, 0), false}, // the chapter's
		{of(0, 1), false},
		{of(0, 9), false},
		{of(0, -1), false},
		{of(-1, 0), false},
		{of(1, 1), true},
		{of(1, 9), true},
		{of(1, 10), false},
		{of(1, -1), false},
		{of(-1, 1), false},
		{of(-1, -1), false},
		{of(3, 2), true},
		{of(rounds-1, 9), true},
		{of(rounds, 0), false},
		{of(rounds, 1), true},
		{of(rounds, 9), true},
		{of(rounds, 10), false},
		{of(rounds+1, 1), false},
		{of(rounds+1, 9), false},
		{of(rounds+1, 0), false},
		{of(1, 257), false},
		{of(1, 1<<32+1), false},
		{of(1<<33+1, 1), false},
		{of(math.MaxInt, 1), false},
		{of(math.MinInt, 1), false},
		{of(1, math.MaxInt), false},
		{of(1, math.MinInt), false},
		{of(math.MinInt, math.MinInt), false},
		{of(math.MaxInt, math.MaxInt), false},
	} {
		if got := May(x.b); got != x.want {
			t.Errorf("May(%v) = %v", x.b, got)
		}
	}
	good := 0
	for _, b := range ballots() {
		if got := May(b); got != valid(b) {
			t.Errorf("May(%v) = %v", b, got)
		} else if got {
			good++
		}
	}
	if want := 1 + 14*9; good != want { // the zero ballot, and fourteen rounds of nine nodes
		t.Errorf("%d ballots are valid, want %d", good, want)
	}
}

// P10.1: by rounds first, by nodes in one round; not less than itself; valid or not.
func TestLess(t *testing.T) {
	for _, x := range []struct {
		a, b api.Ballot
		want bool
	}{
		{of(0, 0), of(0, 0), false},
		{of(0, 0), of(1, 1), true},
		{of(1, 1), of(0, 0), false},
		{of(1, 1), of(1, 1), false},
		{of(1, 1), of(1, 2), true},
		{of(1, 2), of(1, 1), false},
		{of(1, 9), of(2, 1), true},
		{of(2, 1), of(1, 9), false},
		{of(1, 9), of(3, 2), true},
		{of(3, 2), of(1, 9), false},
		{of(2, 2), of(3, 2), true},
		{of(3, 2), of(2, 2), false},
		{of(9, 1), of(10, 1), true},
		{of(rounds, 9), of(rounds, 9), false},
		{of(rounds, 8), of(rounds, 9), true},
		{of(rounds-1, 9), of(rounds, 1), true},
		{of(1, 9), of(rounds+1, 1), true},
		{of(rounds+1, 1), of(1, 9), false},
		{of(1, 0), of(1, 1), true}, // not valid from here on
		{of(0, 0), of(0, 1), true},
		{of(0, -1), of(0, 0), true},
		{of(-1, 9), of(0, 0), true},
		{of(0, 0), of(-1, 9), false},
		{of(1, 10), of(1, 9), false},
		{of(1, 100), of(2, 0), true},
		{of(math.MinInt, 0), of(math.MaxInt, 0), true},
		{of(math.MaxInt, 0), of(math.MinInt, 0), false},
		{of(0, math.MinInt), of(0, math.MaxInt), true},
		{of(0, math.MaxInt), of(0, math.MinInt), false},
		{of(math.MaxInt, math.MaxInt), of(math.MaxInt, math.MaxInt), false},
		{of(1, math.MaxInt), of(2, math.MinInt), true},
		{of(2, math.MinInt), of(1, math.MaxInt), false},
	} {
		if got := Less(x.a, x.b); got != x.want {
			t.Errorf("Less(%v, %v) = %v", x.a, x.b, got)
		}
	}
	r := rand.New(rand.NewSource(10))
	for range 200000 {
		a, b := random(r), random(r)
		if got := Less(a, b); got != less(a, b) {
			t.Fatalf("Less(%v, %v) = %v", a, b, got)
		}
	}
}

// P10.1: the example of the chapter; wherever the greatest one stands, and none.
func TestMax(t *testing.T) {
	for _, x := range []struct {
		l    []api.Ballot
		want api.Ballot
	}{
		{nil, of(0, 0)},
		{[]api.Ballot{}, of(0, 0)},
		{[]api.Ballot{of(0, 0)}, of(0, 0)},
		{[]api.Ballot{of(3, 2)}, of(3, 2)},
		{[]api.Ballot{of(1, 9), of(3, 2)}, of(3, 2)}, // the chapter's
		{[]api.Ballot{of(3, 2), of(1, 9)}, of(3, 2)},
		{[]api.Ballot{of(3, 2), of(3, 2)}, of(3, 2)},
		{[]api.Ballot{of(0, 0), of(1, 1)}, of(1, 1)},
		{[]api.Ballot{of(1, 1), of(0, 0)}, of(1, 1)},
		{[]api.Ballot{of(2, 3), of(2, 1), of(2, 4), of(2, 2)}, of(2, 4)},
		{[]api.Ballot{of(4, 1), of(3, 9), of(2, 9)}, of(4, 1)},
		{[]api.Ballot{of(2, 9), of(4, 1), of(3, 9)}, of(4, 1)},
		{[]api.Ballot{of(2, 9), of(3, 9), of(4, 1)}, of(4, 1)},
		{[]api.Ballot{of(rounds, 9), of(rounds-1, 9), of(rounds, 8)}, of(rounds, 9)},
		{[]api.Ballot{of(-1, 2)}, of(-1, 2)}, // not valid, and less than the zero ballot
		{[]api.Ballot{of(-3, 1), of(-2, 1), of(-2, -5)}, of(-2, 1)},
		{[]api.Ballot{of(0, -1), of(0, -2)}, of(0, -1)},
		{[]api.Ballot{of(math.MinInt, math.MinInt)}, of(math.MinInt, math.MinInt)},
		{[]api.Ballot{of(math.MinInt, 9), of(math.MaxInt, 0)}, of(math.MaxInt, 0)},
		{[]api.Ballot{of(1, 100), of(1, 9)}, of(1, 100)},
	} {
		if got := Max(x.l...); got != x.want {
			t.Errorf("Max(%v) = %v, want %v", x.l, got, x.want)
		}
	}
	if got := Max(); got != of(0, 0) {
		t.Errorf("Max() = %v", got)
	}
	if got := Max(of(1, 9), of(3, 2), of(2, 5)); got != of(3, 2) {
		t.Errorf("Max(1.9, 3.2, 2.5) = %v", got)
	}
}

// P10.1: it is one of the list and no other of it is greater; the list, and what stands behind it, stays.
func TestMaxOfMany(t *testing.T) {
	r := rand.New(rand.NewSource(101))
	for range 20000 {
		room := make([]api.Ballot, 1+r.Intn(20))
		for i := range room {
			room[i] = random(r)
		}
		before := slices.Clone(room)
		l := room[:r.Intn(len(room)+1)]
		got := Max(l...)
		if !slices.Equal(room, before) {
			t.Fatalf("Max changed %v to %v", before, room)
		}
		if len(l) > 0 && !slices.Contains(l, got) || len(l) == 0 && got != of(0, 0) {
			t.Fatalf("Max(%v) = %v, which is none of them", l, got)
		}
		for _, b := range l {
			if less(got, b) {
				t.Fatalf("Max(%v) = %v, which is less than %v", l, got, b)
			}
		}
	}
}

// wantNext fails the test unless Next returns this ballot, or this error and the zero ballot.
func wantNext(t *testing.T, b api.Ballot, node int, want api.Ballot, err api.Errno) {
	t.Helper()
	if got, e := Next(b, node); got != want || e != err {
		t.Fatalf("Next(%v, %d) = %v, %d, want %v, %d", b, node, got, e, want, err)
	}
}

// P10.1: the examples of the chapter; in the same round where the node is behind the owner, otherwise in the next one.
func TestNext(t *testing.T) {
	for _, x := range []struct {
		b    api.Ballot
		node int
		want api.Ballot
	}{
		{of(3, 2), 3, of(3, 3)}, // the chapter's three
		{of(3, 2), 1, of(4, 1)},
		{of(0, 0), 5, of(1, 5)},
		{of(3, 2), 2, of(4, 2)},
		{of(3, 2), 9, of(3, 9)},
		{of(0, 0), 1, of(1, 1)},
		{of(0, 0), 9, of(1, 9)},
		{of(1, 1), 1, of(2, 1)},
		{of(1, 1), 2, of(1, 2)},
		{of(1, 9), 9, of(2, 9)},
		{of(1, 9), 1, of(2, 1)},
		{of(9, 9), 8, of(10, 8)},
		{of(math.MaxUint32, 4), 4, of(rounds, 4)},
		{of(math.MaxUint32, 4), 3, of(rounds, 3)},
		{of(math.MaxUint32, 4), 5, of(math.MaxUint32, 5)},
		{of(rounds, 4), 5, of(rounds, 5)},
		{of(rounds, 1), 9, of(rounds, 9)},
	} {
		wantNext(t, x.b, x.node, x.want, api.OK)
	}
}

// P10.1: a ballot that is not valid, a node that there is not, and no round left.
func TestNextErrors(t *testing.T) {
	for _, x := range []struct {
		b    api.Ballot
		node int
	}{
		{of(1, 0), 1},
		{of(0, 1), 2},
		{of(0, -1), 2},
		{of(-1, 1), 2},
		{of(3, 10), 2},
		{of(3, 10), 11},
		{of(3, -1), 2},
		{of(rounds+1, 1), 2},
		{of(rounds+1, 0), 1},
		{of(math.MaxInt, 1), 1},
		{of(math.MaxInt, 9), 1},
		{of(math.MinInt, 1), 2},
		{of(1, math.MaxInt), 2},
		{of(1, math.MinInt), 2},
		{of(3, 2), 0},
		{of(3, 2), -1},
		{of(3, 2), 10},
		{of(3, 2), 257},
		{of(3, 2), 1<<32 + 3},
		{of(3, 2), math.MaxInt},
		{of(3, 2), math.MinInt},
		{of(0, 0), 0},
		{of(0, 0), 10},
		{of(0, 0), -1},
		{of(rounds, 5), 5},
		{of(rounds, 5), 4},
		{of(rounds, 5), 1},
		{of(rounds, 1), 1},
		{of(rounds, 9), 9},
		{of(rounds, 9), 10},
		{of(rounds, 9), 0},
	} {
		wantNext(t, x.b, x.node, api.Ballot{}, api.ErrRange)
	}
}

// P10.1: it is the first one of the node that is found beyond b.
func TestNextOfAll(t *testing.T) {
	good := 0
	try := func(b api.Ballot, node int) {
		want, err := after(b, node)
		wantNext(t, b, node, want, err)
		if err == api.OK {
			good++
		}
	}
	for _, b := range ballots() {
		for _, node := range owners {
			try(b, node)
		}
	}
	r := rand.New(rand.NewSource(102))
	for range 200000 {
		try(random(r), r.Intn(13)-1)
	}
	if good < 50000 {
		t.Errorf("only %d ballots had a next one", good)
	}
}

// P10.1: the example of the chapter; the digits of both numbers; none for what is not valid.
func TestText(t *testing.T) {
	for _, x := range []struct {
		b    api.Ballot
		want string
	}{
		{of(0, 0), "0.0"}, // the chapter's
		{of(1, 1), "1.1"},
		{of(3, 2), "3.2"},
		{of(10, 9), "10.9"},
		{of(1000000, 5), "1000000.5"},
		{of(math.MaxUint32, 1), "4294967295.1"},
		{of(rounds, 9), "4294967296.9"},
		{of(1, 0), ""},
		{of(0, 1), ""},
		{of(1, 10), ""},
		{of(1, -1), ""},
		{of(-1, 1), ""},
		{of(-1, -1), ""},
		{of(rounds+1, 1), ""},
		{of(rounds+1, 9), ""},
		{of(math.MaxInt, math.MaxInt), ""},
		{of(math.MinInt, math.MinInt), ""},
	} {
		if got := Text(x.b); got != x.want {
			t.Errorf("Text(%v) = %q, want %q", x.b, got, x.want)
		}
	}
	r := rand.New(rand.NewSource(103))
	l := ballots()
	for range 20000 {
		l = append(l, random(r))
	}
	for _, b := range l {
		want := ""
		if valid(b) {
			want = fmt.Sprintf("%d.%d", b.Round, b.Node)
		}
		if got := Text(b); got != want {
			t.Fatalf("Text(%v) = %q, want %q", b, got, want)
		}
	}
}

// P10.2: of two different ballots, valid or not, exactly one is less than the other; none is less than itself.
func TestOneIsLess(t *testing.T) {
	try := func(a, b api.Ballot) {
		if a == b && Less(a, b) {
			t.Fatalf("%v is less than itself", a)
		}
		if a != b && Less(a, b) == Less(b, a) {
			t.Fatalf("Less of %v and %v is %v both ways", a, b, Less(a, b))
		}
	}
	l := ballots()
	for _, a := range l {
		for _, b := range l {
			try(a, b)
		}
	}
	r := rand.New(rand.NewSource(104))
	for range 200000 {
		try(random(r), random(r))
	}
}

// P10.2: what is less than a lesser ballot is less than the greater one; the greatest of several is the same in any order.
func TestOrder(t *testing.T) {
	r := rand.New(rand.NewSource(105))
	chains := 0
	for range 300000 {
		a, b, c := random(r), random(r), random(r)
		if Less(a, b) && Less(b, c) {
			chains++
			if !Less(a, c) {
				t.Fatalf("%v is less than %v, and that than %v, but the first is not less than the last", a, b, c)
			}
		}
		if x := Max(a, b, c); x != Max(c, b, a) || x != Max(b, c, a) || x != Max(Max(a, b), c) || x != Max(a, Max(b, c)) {
			t.Fatalf("the greatest one of %v, %v and %v depends on their order", a, b, c)
		}
	}
	if chains < 10000 {
		t.Errorf("only %d chains of three", chains)
	}
}

// P10.2: the next ballot is a greater one, valid and the node's own, and so for different nodes never the same.
func TestNextIsGreater(t *testing.T) {
	l := ballots()
	r := rand.New(rand.NewSource(106))
	for range 20000 {
		l = append(l, random(r))
	}
	good := 0
	for _, b := range l {
		owner := map[api.Ballot]int{}
		for node := 1; node <= nodes; node++ {
			next, err := Next(b, node)
			if err != api.OK {
				continue
			}
			good++
			if !Less(b, next) || Less(next, b) || !May(next) || next.Node != node || Max(b, next) != next {
				t.Fatalf("Next(%v, %d) = %v", b, node, next)
			}
			if other := owner[next]; other != 0 {
				t.Fatalf("Next(%v) = %v for node %d and for node %d", b, next, other, node)
			}
			owner[next] = node
		}
	}
	if good < 50000 {
		t.Errorf("only %d ballots had a next one", good)
	}
}

// P10.2: nodes that overtake one another in any order never own the same ballot, and none is passed twice.
func TestNextAndNext(t *testing.T) {
	r := rand.New(rand.NewSource(107))
	for range 200 {
		b := api.Ballot{}
		var passed []api.Ballot
		for range 100 {
			node := 1 + r.Intn(nodes)
			next, err := Next(b, node)
			if err != api.OK || next.Node != node {
				t.Fatalf("Next(%v, %d) = %v, %d", b, node, next, err)
			}
			for _, x := range append(passed, b) {
				if !Less(x, next) {
					t.Fatalf("%v comes after %v", next, x)
				}
			}
			passed = append(passed, b)
			b = next
		}
	}
}
