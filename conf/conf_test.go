package conf

import (
	"math"
	"math/rand"
	"slices"
	"testing"

	"changeover/api"
)

// The limits and kinds of the chapter, written out.
const (
	indexes = 1 << 32
	nodes   = 9
	ahead   = 4
	add     = 7
	drop    = 8
)

// is returns a configuration.
func is(from int, members ...int) api.Conf {
	return api.Conf{From: from, Members: members}
}

// list returns a list of configurations.
func list(l ...api.Conf) []api.Conf {
	return l
}

// same reports whether two lists have the same configurations.
func same(a, b []api.Conf) bool {
	return slices.EqualFunc(a, b, func(x, y api.Conf) bool {
		return x.From == y.From && slices.Equal(x.Members, y.Members)
	})
}

// clone returns l in new memory.
func clone(l []api.Conf) []api.Conf {
	var out []api.Conf
	for _, c := range l {
		out = append(out, is(c.From, slices.Clone(c.Members)...))
	}
	return out
}

// roomy returns l and its members as pieces of longer lists, with the function that tells whether anything of all that was changed.
func roomy(l []api.Conf) ([]api.Conf, func() bool) {
	var whole []api.Conf
	for _, c := range l {
		members := append(slices.Clone(c.Members), -7, -8, -9)
		whole = append(whole, is(c.From, members...))
	}
	whole = append(whole, is(-1, 100), is(-2, 200))
	before := clone(whole)
	given := slices.Clone(whole)
	for i, c := range l {
		given[i].Members = given[i].Members[:len(c.Members)]
	}
	return given[:len(l)], func() bool {
		now := slices.Clone(given)
		for i, c := range l {
			if len(now[i].Members) != len(c.Members) {
				return true
			}
			now[i].Members = now[i].Members[:len(c.Members)+3]
		}
		return !same(now, before)
	}
}

// spoil changes all of l, and of its members up to their capacity.
func spoil(l []api.Conf) {
	l = l[:cap(l)]
	for i := range l {
		members := l[i].Members[:cap(l[i].Members)]
		for j := range members {
			members[j] = -5
		}
		l[i].From = -5
	}
}

// indices: at and beyond the limits, and those of Go's number types.
var indices = []int{
	math.MinInt, math.MinInt + 1, math.MinInt + 4, -1 << 32, -5, -4, -3, -1, 0, 1, 2, 3, 4, 5, 6, 7, 8, 9, 10, 11, 12, 13, 100,
	math.MaxInt32, math.MaxUint32 - 4, math.MaxUint32, indexes - 5, indexes - 4, indexes - 3, indexes, indexes + 1, indexes + 5, math.MaxInt - 4, math.MaxInt - 3, math.MaxInt - 1, math.MaxInt,
}

// owners: nodes, those beside them, and numbers that have one of theirs in their lowest bits.
var owners = []int{
	math.MinInt, math.MinInt + 1, -256 + 1, -9, -2, -1, 0, 1, 2, 3, 4, 5, 6, 7, 8, 9, 10, 11, 63, 64, 65, 256, 257, 1<<16 + 3, 1 << 32, 1<<32 + 1, math.MaxInt - 1, math.MaxInt,
}

// kinds: those of a change, other commands, and what is none.
var kinds = []int{math.MinInt, -8, -7, -1, 0, 1, 2, 3, 4, 5, 6, add, drop, 9, 10, 256 + add, 1<<32 + drop, math.MaxInt}

// areNodes reports whether l are members, by the definition.
func areNodes(l []int) bool {
	if len(l) == 0 {
		return false
	}
	for i, node := range l {
		if node < 1 || node > nodes || i > 0 && l[i-1] >= node {
			return false
		}
	}
	return true
}

// valid reports whether l is, by the definition.
func valid(l []api.Conf) bool {
	if len(l) == 0 || l[0].From != 1 {
		return false
	}
	for i, c := range l {
		if c.From > indexes || i > 0 && l[i-1].From >= c.From || !areNodes(c.Members) {
			return false
		}
	}
	return true
}

// at returns the members at an index by the definition: of all configurations, in order, the last one that has begun.
func at(l []api.Conf, index int) []int {
	var members []int
	if valid(l) && index >= 1 {
		for _, c := range l {
			if c.From <= index {
				members = c.Members
			}
		}
	}
	return members
}

// changes returns what Change is to return, by the definitions, with the members as bits.
func changes(l []api.Conf, index, kind, node int) ([]api.Conf, api.Errno) {
	if !valid(l) {
		return nil, api.ErrForm
	}
	if index < 1 || index > indexes-ahead {
		return nil, api.ErrRange
	}
	if kind != add && kind != drop || node < 1 || node > nodes {
		return nil, api.ErrMember
	}
	last := l[len(l)-1]
	bits := 0
	for _, m := range last.Members {
		bits |= 1 << m
	}
	if kind == add && bits&(1<<node) != 0 || kind == drop && bits&(1<<node) == 0 || kind == drop && len(last.Members) == 1 {
		return nil, api.ErrMember
	}
	next := api.Conf{From: index + ahead, Members: ofBits(bits ^ 1<<node)}
	if next.From < last.From {
		next.From = last.From
	}
	out := clone(l)
	if next.From == last.From {
		out[len(out)-1] = next
		return out, api.OK
	}
	return append(out, next), api.OK
}

// trims returns what Trim is to return: the members of all indexes from the given one on are kept, and no configuration more.
func trims(l []api.Conf, index int) []api.Conf {
	if !valid(l) || index < 1 {
		return l
	}
	out := list(is(1, at(l, index)...))
	for _, c := range l {
		if c.From > index {
			out = append(out, c)
		}
	}
	return out
}

// ofBits returns the nodes whose bits are set.
func ofBits(bits int) []int {
	var l []int
	for node := 1; node <= nodes; node++ {
		if bits&(1<<node) != 0 {
			l = append(l, node)
		}
	}
	return l
}

// someMembers returns members at random.
func someMembers(r *rand.Rand) []int {
	return ofBits(2 * (1 + r.Intn(1<<nodes-1)))
}

// someList returns a valid list of configurations at random.
func someList(r *rand.Rand) []api.Conf {
	l := list(is(1, someMembers(r)...))
	from := 1
	for range r.Intn(6) {
		from += 1 + r.Intn(1+r.Intn(6))
		if r.Intn(12) == 0 {
			from += r.Intn(indexes)
		}
		if r.Intn(12) == 0 {
			from = max(from, indexes-r.Intn(6))
		}
		if from > indexes {
			break
		}
		l = append(l, is(from, someMembers(r)...))
	}
	return l
}

// broken returns a list that is often not valid any more, by one change.
func broken(r *rand.Rand, l []api.Conf) []api.Conf {
	l = clone(l)
	c := &l[r.Intn(len(l))]
	switch r.Intn(8) {
	case 0:
		c.From += r.Intn(7) - 3
	case 1:
		c.From = indices[r.Intn(len(indices))]
	case 2:
		c.Members[r.Intn(len(c.Members))] = owners[r.Intn(len(owners))]
	case 3:
		i := r.Intn(len(c.Members))
		c.Members = slices.Insert(c.Members, i, c.Members[i])
	case 4:
		slices.Reverse(c.Members)
	case 5:
		c.Members = nil
	case 6:
		slices.Reverse(l)
	case 7:
		l = l[:len(l)-1]
	}
	return l
}

// somewhere returns an index near those of l, or any.
func somewhere(r *rand.Rand, l []api.Conf) int {
	if len(l) == 0 || r.Intn(4) == 0 {
		return indices[r.Intn(len(indices))]
	}
	return l[r.Intn(len(l))].From + r.Intn(13) - 6
}

// example: the chapter's list, of two configurations.
func example() []api.Conf {
	return list(is(1, 1, 2), is(7, 2))
}

// full: nine members, and the greatest index.
func full() []api.Conf {
	return list(is(1, 1, 2, 3, 4, 5, 6, 7, 8, 9), is(indexes, 9))
}

// bad: lists that are not valid.
func bad() [][]api.Conf {
	return [][]api.Conf{
		nil,
		{},
		{is(0, 1)},
		{is(2, 1)},
		{is(-1, 1)},
		{is(math.MinInt, 1)},
		{is(1)},
		{is(1, []int{}...)},
		{is(1, 0)},
		{is(1, -1)},
		{is(1, 10)},
		{is(1, 9, 10)},
		{is(1, 0, 1)},
		{is(1, math.MinInt, 1)},
		{is(1, 1, math.MaxInt)},
		{is(1, 257)},
		{is(1, 1<<32+1)},
		{is(1, 1, 1)},
		{is(1, 2, 1)},
		{is(1, 1, 3, 2)},
		{is(1, 1, 2, 2)},
		{is(1, 1, 2, 3, 4, 5, 6, 7, 8, 9, 9)},
		{is(1, 1, 2, 3, 4, 5, 6, 7, 8, 9, 10)},
		{is(1, 1), is(1, 1)},
		{is(1, 1), is(0, 1)},
		{is(1, 1), is(-1, 1)},
		{is(1, 1), is(7, 1), is(7, 2)},
		{is(1, 1), is(7, 1), is(6, 2)},
		{is(1, 1), is(7, 1), is(1, 2)},
		{is(1, 1), is(7)},
		{is(1, 1), is(7, 10)},
		{is(1, 1), is(7, 2, 1)},
		{is(1), is(7, 1)},
		{is(1, 1), is(7), is(8, 1)},
		{is(7, 1), is(1, 1)},
		{is(0, 1), is(1, 1)},
		{is(1, 1), is(indexes+1, 1)},
		{is(1, 1), is(indexes, 1), is(indexes+1, 1)},
		{is(1, 1), is(math.MaxInt, 1)},
		{is(1, 1), is(1<<33+1, 1)},
		{is(1, 1), is(math.MinInt, 1)},
	}
}

// P11.1: what the definition asks for, its limits, and what breaks it.
func TestCheck(t *testing.T) {
	for _, l := range [][]api.Conf{
		example(),
		full(),
		{is(1, 1)},
		{is(1, 9)},
		{is(1, 1, 9)},
		{is(1, 1, 2, 3, 4, 5, 6, 7, 8)},
		{is(1, 1), is(2, 1)},
		{is(1, 1), is(2, 2), is(3, 3), is(4, 1, 9)},
		{is(1, 1), is(indexes-1, 1), is(indexes, 1)},
		{is(1, 1), is(math.MaxUint32, 1)},
	} {
		if err := Check(l); err != api.OK {
			t.Errorf("Check(%v) = %d", l, err)
		}
	}
	for _, l := range bad() {
		if err := Check(l); err != api.ErrForm {
			t.Errorf("Check(%v) = %d", l, err)
		}
	}
}

// P11.1: every list of up to four members out of a few numbers, at the first place and at a later one; random lists, whole and broken.
func TestCheckOfAll(t *testing.T) {
	good := 0
	try := func(l []api.Conf) {
		want := api.ErrForm
		if valid(l) {
			want = api.OK
			good++
		}
		given, changed := roomy(l)
		if err := Check(given); err != want || changed() {
			t.Fatalf("Check(%v) = %d, want %d", l, err, want)
		}
	}
	var all func(members []int)
	all = func(members []int) {
		try(list(is(1, members...)))
		try(list(is(1, 3, 5), is(2, members...)))
		try(list(is(1, members...), is(4, 1)))
		if len(members) < 4 {
			for _, node := range []int{-1, 0, 1, 2, 5, 8, 9, 10, 257} {
				all(append(slices.Clone(members), node))
			}
		}
	}
	all(nil)
	if want := 3 * 30; good != want { // any of five nodes but four at most: 31 sets that are not empty, less one
		t.Errorf("%d lists are valid, want %d", good, want)
	}
	for _, from := range indices {
		for _, after := range indices {
			try(list(is(from, 1)))
			try(list(is(1, 1), is(from, 2), is(after, 3)))
		}
	}
	r := rand.New(rand.NewSource(11))
	good = 0
	for range 100000 {
		l := someList(r)
		try(l)
		try(broken(r, l))
	}
	if good < 110000 || good > 190000 {
		t.Errorf("%d of 200000 lists are valid", good)
	}
}

// P11.1: the example of the chapter; the first and the last index of each configuration; no members where there are none.
func TestAt(t *testing.T) {
	three := list(is(1, 1, 2), is(2, 1, 2, 3), is(9, 3))
	for _, x := range []struct {
		l     []api.Conf
		index int
		want  []int
	}{
		{example(), 6, []int{1, 2}}, // the chapter's two
		{example(), 7, []int{2}},
		{example(), 1, []int{1, 2}},
		{example(), 2, []int{1, 2}},
		{example(), 8, []int{2}},
		{example(), indexes, []int{2}},
		{example(), indexes + 1, []int{2}},
		{example(), math.MaxInt, []int{2}},
		{example(), 0, nil},
		{example(), -1, nil},
		{example(), -7, nil},
		{example(), math.MinInt, nil},
		{three, 1, []int{1, 2}},
		{three, 2, []int{1, 2, 3}},
		{three, 3, []int{1, 2, 3}},
		{three, 8, []int{1, 2, 3}},
		{three, 9, []int{3}},
		{three, 10, []int{3}},
		{full(), indexes - 1, []int{1, 2, 3, 4, 5, 6, 7, 8, 9}},
		{full(), indexes, []int{9}},
		{full(), indexes + 1, []int{9}},
	} {
		if got := At(x.l, x.index); !slices.Equal(got, x.want) {
			t.Errorf("At(%v, %d) = %v, want %v", x.l, x.index, got, x.want)
		}
	}
	for _, l := range bad() {
		for _, index := range indices {
			if got := At(l, index); len(got) != 0 {
				t.Errorf("At(%v, %d) = %v", l, index, got)
			}
		}
	}
}

// P11.1: the members found by going through all configurations, in new memory; Is asks for one of these.
func TestAtAndIsOfAll(t *testing.T) {
	r := rand.New(rand.NewSource(111))
	found := 0
	for range 60000 {
		l := someList(r)
		if r.Intn(5) == 0 {
			l = broken(r, l)
		}
		given, changed := roomy(l)
		index := somewhere(r, l)
		want := at(l, index)
		got := At(given, index)
		if !slices.Equal(got, want) || changed() {
			t.Fatalf("At(%v, %d) = %v, want %v", l, index, got, want)
		}
		for _, node := range owners {
			has := slices.Contains(want, node)
			if Is(given, index, node) != has || changed() {
				t.Fatalf("Is(%v, %d, %d) = %v", l, index, node, !has)
			}
			if has {
				found++
			}
		}
		got = got[:cap(got)]
		for i := range got {
			got[i] = -5
		}
		if changed() {
			t.Fatalf("At(%v, %d) is not new memory", l, index)
		}
	}
	if found < 50000 {
		t.Errorf("only %d members were found", found)
	}
}

// P11.1: members before and after a change; others, and no indexes.
func TestIs(t *testing.T) {
	for _, x := range []struct {
		l           []api.Conf
		index, node int
		want        bool
	}{
		{example(), 6, 1, true},
		{example(), 6, 2, true},
		{example(), 7, 1, false},
		{example(), 7, 2, true},
		{example(), 1, 1, true},
		{example(), 6, 3, false},
		{example(), 6, 0, false},
		{example(), 6, -1, false},
		{example(), 6, 10, false},
		{example(), 6, 257, false},
		{example(), 0, 1, false},
		{example(), -1, 1, false},
		{example(), math.MaxInt, 2, true},
		{example(), math.MaxInt, 1, false},
		{example(), math.MinInt, 2, false},
		{full(), 5, 9, true},
		{full(), 5, 10, false},
		{full(), 5, 0, false},
		{full(), indexes, 8, false},
		{full(), indexes, 9, true},
		{nil, 1, 1, false},
		{list(is(2, 1)), 2, 1, false},
		{list(is(1, 2, 1)), 1, 1, false},
		{list(is(1, 0, 1)), 1, 0, false},
		{list(is(1, 1, 10)), 1, 10, false},
		{list(is(1, 1), is(1, 2)), 1, 2, false},
	} {
		if got := Is(x.l, x.index, x.node); got != x.want {
			t.Errorf("Is(%v, %d, %d) = %v", x.l, x.index, x.node, got)
		}
	}
}

// P11.1: the examples of the chapter; halves and one more; what is there twice, in another order, or no member.
func TestMajority(t *testing.T) {
	for _, x := range []struct {
		members, of []int
		want        bool
	}{
		{[]int{1, 2, 3}, []int{3, 1}, true}, // the chapter's two
		{[]int{1, 2}, []int{1}, false},
		{nil, nil, false},
		{[]int{}, []int{}, false},
		{nil, []int{1, 2, 3}, false},
		{[]int{1}, nil, false},
		{[]int{1}, []int{}, false},
		{[]int{1}, []int{1}, true},
		{[]int{1}, []int{2}, false},
		{[]int{1, 2}, []int{1, 2}, true},
		{[]int{1, 2}, []int{1, 1}, false},
		{[]int{1, 2, 3}, []int{2}, false},
		{[]int{1, 2, 3}, []int{2, 2, 2}, false},
		{[]int{1, 2, 3}, []int{2, 4, 5}, false},
		{[]int{1, 2, 3}, []int{9, 2, 4, 1, 5}, true},
		{[]int{1, 2, 3, 4}, []int{1, 4}, false},
		{[]int{1, 2, 3, 4}, []int{1, 4, 2}, true},
		{[]int{1, 2, 3, 4, 5}, []int{1, 5}, false},
		{[]int{1, 2, 3, 4, 5}, []int{5, 4, 1}, true},
		{[]int{1, 2, 3, 4, 5, 6, 7, 8, 9}, []int{9, 8, 7, 6}, false},
		{[]int{1, 2, 3, 4, 5, 6, 7, 8, 9}, []int{9, 8, 7, 6, 5}, true},
		{[]int{3, 1, 2}, []int{1, 3}, true},
		{[]int{3, 1, 2}, []int{1}, false},
		{[]int{1, 1, 2}, []int{1}, false},
		{[]int{1, 1, 1, 2}, []int{1}, false},
		{[]int{2, 1, 2, 3, 2}, []int{2}, false},
		{[]int{2, 1, 2, 3, 2}, []int{1, 3}, true},
		{[]int{1, 1}, []int{1}, true},
		{[]int{2, 2, 1, 1}, []int{1, 2}, true},
		{[]int{0}, []int{0}, true},
		{[]int{0, -1, 100}, []int{100, 0}, true},
		{[]int{1, 65}, []int{1}, false},
		{[]int{1}, []int{65}, false},
		{[]int{1}, []int{1<<32 + 1}, false},
		{[]int{math.MinInt, math.MaxInt}, []int{math.MaxInt}, false},
		{[]int{math.MinInt, math.MaxInt, 0}, []int{math.MaxInt, math.MinInt}, true},
	} {
		if got := Majority(x.members, x.of); got != x.want {
			t.Errorf("Majority(%v, %v) = %v", x.members, x.of, got)
		}
	}
}

// P11.1: all sets of nodes; random lists, whose numbers are counted in a set; both lists stay as they are.
func TestMajorityOfAll(t *testing.T) {
	r := rand.New(rand.NewSource(112))
	yes := 0
	try := func(members, of []int) {
		all, in := map[int]bool{}, map[int]bool{}
		for _, m := range members {
			all[m] = true
			if slices.Contains(of, m) {
				in[m] = true
			}
		}
		want := len(in)+len(in) > len(all)
		a, b := append(slices.Clone(members), -7, -7)[:len(members)], append(slices.Clone(of), -7, -7)[:len(of)]
		if got := Majority(a, b); got != want {
			t.Fatalf("Majority(%v, %v) = %v", members, of, got)
		}
		if want {
			yes++
		}
		if !slices.Equal(a[:len(a)+2], append(slices.Clone(members), -7, -7)) || !slices.Equal(b[:len(b)+2], append(slices.Clone(of), -7, -7)) {
			t.Fatalf("Majority changed %v to %v, or %v to %v", members, a, of, b)
		}
	}
	for members := range 1 << nodes {
		for range 40 {
			try(ofBits(2*members), ofBits(2*r.Intn(1<<nodes)))
		}
	}
	some := func() []int {
		var l []int
		near := r.Intn(8) > 0
		for range r.Intn(12) {
			if near {
				l = append(l, 1+r.Intn(6))
			} else {
				l = append(l, owners[r.Intn(len(owners))])
			}
		}
		return l
	}
	for range 100000 {
		try(some(), some())
	}
	if yes < 30000 {
		t.Errorf("only %d majorities", yes)
	}
}

// wantChange fails the test unless Change returns these configurations, or this error and none.
func wantChange(t *testing.T, l []api.Conf, index, kind, node int, want []api.Conf, err api.Errno) {
	t.Helper()
	if got, e := Change(l, index, kind, node); !same(got, want) || e != err {
		t.Fatalf("Change(%v, %d, %d, %d) = %v, %d, want %v, %d", l, index, kind, node, got, e, want, err)
	}
}

// P11.2: the examples of the chapter; a configuration that is appended, or takes the place of the last one, at the window's edges.
func TestChange(t *testing.T) {
	first := list(is(1, 1, 2))
	late := list(is(1, 1, 2), is(20, 1, 2, 3))
	for _, x := range []struct {
		l                 []api.Conf
		index, kind, node int
		want              []api.Conf
	}{
		{first, 3, drop, 1, example()}, // the chapter's two
		{example(), 2, add, 5, list(is(1, 1, 2), is(7, 2, 5))},
		{list(is(1, 1, 2, 3)), 5, add, 4, list(is(1, 1, 2, 3), is(9, 1, 2, 3, 4))}, // the document's ninth example
		{first, 1, add, 9, list(is(1, 1, 2), is(5, 1, 2, 9))},
		{first, 1, drop, 2, list(is(1, 1, 2), is(5, 1))},
		{list(is(1, 5)), 1, add, 1, list(is(1, 5), is(5, 1, 5))},
		{list(is(1, 1, 9)), 1, add, 5, list(is(1, 1, 9), is(5, 1, 5, 9))},
		{list(is(1, 1, 5, 9)), 8, drop, 5, list(is(1, 1, 5, 9), is(12, 1, 9))},
		{list(is(1, 1, 5, 9)), 8, drop, 9, list(is(1, 1, 5, 9), is(12, 1, 5))},
		{example(), 1, add, 1, list(is(1, 1, 2), is(7, 1, 2))}, // earlier, the same, later
		{example(), 3, add, 1, list(is(1, 1, 2), is(7, 1, 2))},
		{example(), 4, add, 1, list(is(1, 1, 2), is(7, 2), is(8, 1, 2))},
		{late, 1, drop, 3, list(is(1, 1, 2), is(20, 1, 2))},
		{late, 15, drop, 1, list(is(1, 1, 2), is(20, 2, 3))},
		{late, 16, drop, 1, list(is(1, 1, 2), is(20, 2, 3))},
		{late, 17, drop, 1, list(is(1, 1, 2), is(20, 1, 2, 3), is(21, 2, 3))},
		{late, 100, add, 7, list(is(1, 1, 2), is(20, 1, 2, 3), is(104, 1, 2, 3, 7))},
		{first, indexes - 4, add, 3, list(is(1, 1, 2), is(indexes, 1, 2, 3))},
		{first, indexes - 5, add, 3, list(is(1, 1, 2), is(indexes-1, 1, 2, 3))},
		{full(), indexes - 4, add, 1, list(is(1, 1, 2, 3, 4, 5, 6, 7, 8, 9), is(indexes, 1, 9))},
		{full(), 1, add, 1, list(is(1, 1, 2, 3, 4, 5, 6, 7, 8, 9), is(indexes, 1, 9))},
		{list(is(1, 1, 2, 3, 4, 5, 6, 7)), 1, add, 8, list(is(1, 1, 2, 3, 4, 5, 6, 7), is(5, 1, 2, 3, 4, 5, 6, 7, 8))}, // more than MaxMembers
		{list(is(1, 1, 2, 3, 4, 5, 6, 7, 8)), 1, add, 9, list(is(1, 1, 2, 3, 4, 5, 6, 7, 8), is(5, 1, 2, 3, 4, 5, 6, 7, 8, 9))},
	} {
		wantChange(t, x.l, x.index, x.kind, x.node, x.want, api.OK)
	}
}

// P11.2: the example of the chapter; what is no change, no index, or no list; the first one of several errors.
func TestChangeErrors(t *testing.T) {
	all := list(is(1, 1, 2, 3, 4, 5, 6, 7, 8, 9))
	for _, x := range []struct {
		l                 []api.Conf
		index, kind, node int
		err               api.Errno
	}{
		{example(), 4, drop, 2, api.ErrMember}, // the chapter's
		{example(), 4, drop, 1, api.ErrMember},
		{example(), 4, add, 2, api.ErrMember},
		{example(), 4, add, 0, api.ErrMember},
		{example(), 4, add, -1, api.ErrMember},
		{example(), 4, add, 10, api.ErrMember},
		{example(), 4, add, 257, api.ErrMember},
		{example(), 4, add, 1<<32 + 1, api.ErrMember},
		{example(), 4, add, math.MaxInt, api.ErrMember},
		{example(), 4, add, math.MinInt, api.ErrMember},
		{all, 4, add, 5, api.ErrMember},
		{all, 4, add, 10, api.ErrMember},
		{all, 4, drop, 10, api.ErrMember},
		{all, 4, drop, 0, api.ErrMember},
		{all, 4, drop, -5, api.ErrMember},
		{all, 4, drop, 257, api.ErrMember},
		{list(is(1, 3)), 1, drop, 3, api.ErrMember},
		{list(is(1, 3)), 1, drop, 1, api.ErrMember},
		{list(is(1, 3)), 1, 6, 1, api.ErrMember},
		{list(is(1, 3)), 1, 9, 1, api.ErrMember},
		{list(is(1, 3)), 1, 0, 1, api.ErrMember},
		{list(is(1, 3)), 1, -7, 1, api.ErrMember},
		{list(is(1, 3)), 1, 1, 3, api.ErrMember},
		{all, 4, 6, 5, api.ErrMember},
		{all, 4, 9, 5, api.ErrMember},
		{example(), 0, add, 5, api.ErrRange},
		{example(), -1, add, 5, api.ErrRange},
		{example(), indexes - 3, add, 5, api.ErrRange},
		{example(), indexes, add, 5, api.ErrRange},
		{example(), indexes + 1, add, 5, api.ErrRange},
		{example(), math.MaxInt, add, 5, api.ErrRange},
		{example(), math.MaxInt - 3, add, 5, api.ErrRange},
		{example(), math.MinInt, add, 5, api.ErrRange},
		{full(), indexes - 3, add, 5, api.ErrRange},
		{full(), indexes, add, 5, api.ErrRange},
		{example(), 0, 1, 5, api.ErrRange}, // nor a change
		{example(), 0, drop, 2, api.ErrRange},
		{example(), indexes - 3, add, 10, api.ErrRange},
		{nil, 1, add, 5, api.ErrForm},
		{list(is(2, 1)), 1, add, 5, api.ErrForm},
		{list(is(1)), 1, add, 5, api.ErrForm},
		{list(is(1)), 0, add, 5, api.ErrForm}, // nor an index
		{list(is(1)), 1, 1, 5, api.ErrForm},   // nor a change
		{nil, math.MaxInt, 0, 0, api.ErrForm},
	} {
		wantChange(t, x.l, x.index, x.kind, x.node, nil, x.err)
	}
	for _, l := range bad() {
		for _, index := range indices {
			wantChange(t, l, index, add, 5, nil, api.ErrForm)
			wantChange(t, l, index, drop, 1, nil, api.ErrForm)
			wantChange(t, l, index, 0, 0, nil, api.ErrForm)
		}
	}
}

// P11.2: all indexes, kinds and nodes at and beyond their limits, and random lists, against the definitions written out.
func TestChangeOfAll(t *testing.T) {
	good := 0
	try := func(l []api.Conf, index, kind, node int) {
		want, err := changes(l, index, kind, node)
		wantChange(t, l, index, kind, node, want, err)
		if err == api.OK {
			good++
		}
	}
	for _, l := range [][]api.Conf{example(), full(), list(is(1, 2, 4, 6)), list(is(1, 9), is(7, 1), is(9, 1, 2))} {
		for _, index := range indices {
			for _, kind := range kinds {
				for _, node := range owners {
					try(l, index, kind, node)
				}
			}
		}
	}
	r := rand.New(rand.NewSource(113))
	for range 100000 {
		l := someList(r)
		if r.Intn(10) == 0 {
			l = broken(r, l)
		}
		kind, node := add+r.Intn(2), 1+r.Intn(nodes)
		if r.Intn(10) == 0 {
			kind = kinds[r.Intn(len(kinds))]
		}
		if r.Intn(10) == 0 {
			node = owners[r.Intn(len(owners))]
		}
		try(l, somewhere(r, l), kind, node)
	}
	if good < 20000 {
		t.Errorf("only %d changes were valid", good)
	}
}

// P11.2: the example of the chapter; at, before and beyond the beginning of each configuration; what is not valid stays as it is.
func TestTrim(t *testing.T) {
	three := list(is(1, 1, 2), is(7, 1, 2, 3), is(9, 3))
	for _, x := range []struct {
		l     []api.Conf
		index int
		want  []api.Conf
	}{
		{example(), 8, list(is(1, 2))}, // the chapter's
		{example(), 7, list(is(1, 2))},
		{example(), 6, example()},
		{example(), 1, example()},
		{example(), 0, example()},
		{example(), -1, example()},
		{example(), math.MinInt, example()},
		{example(), indexes, list(is(1, 2))},
		{example(), indexes + 1, list(is(1, 2))},
		{example(), math.MaxInt, list(is(1, 2))},
		{three, 6, three},
		{three, 7, list(is(1, 1, 2, 3), is(9, 3))},
		{three, 8, list(is(1, 1, 2, 3), is(9, 3))},
		{three, 9, list(is(1, 3))},
		{full(), indexes - 1, full()},
		{full(), indexes, list(is(1, 9))},
		{list(is(1, 4)), 1, list(is(1, 4))},
		{list(is(1, 4)), 100, list(is(1, 4))},
		{list(is(1, 1), is(2, 2), is(3, 3)), 2, list(is(1, 2), is(3, 3))},
		{list(is(1, 1), is(7, 1)), 7, list(is(1, 1))},
	} {
		if got := Trim(x.l, x.index); !same(got, x.want) {
			t.Errorf("Trim(%v, %d) = %v, want %v", x.l, x.index, got, x.want)
		}
	}
	for _, l := range bad() {
		for _, index := range indices {
			want := clone(l)
			got := Trim(l, index)
			if !same(got, want) || !same(l, want) || (got == nil) != (l == nil) {
				t.Errorf("Trim(%v, %d) = %v", want, index, got)
			}
			if len(l) > 0 && (len(got) == 0 || &got[0] != &l[0]) {
				t.Errorf("Trim(%v, %d) is another list", want, index)
			}
		}
	}
}

// P11.2: random lists against the definition written out; what is left is valid, and has the same members from the index on.
func TestTrimOfAll(t *testing.T) {
	r := rand.New(rand.NewSource(114))
	shorter := 0
	for range 100000 {
		l := someList(r)
		if r.Intn(10) == 0 {
			l = broken(r, l)
		}
		index := somewhere(r, l)
		want := trims(l, index)
		given, changed := roomy(l)
		got := Trim(given, index)
		if !same(got, want) || changed() {
			t.Fatalf("Trim(%v, %d) = %v, want %v", l, index, got, want)
		}
		if len(got) < len(l) {
			shorter++
		}
		if !valid(l) {
			continue
		}
		for range 5 {
			later := max(somewhere(r, l), index)
			if Check(got) != api.OK || !slices.Equal(At(got, later), At(l, later)) {
				t.Fatalf("Trim(%v, %d) = %v has other members at %d", l, index, got, later)
			}
		}
	}
	if shorter < 20000 {
		t.Errorf("only %d lists became shorter", shorter)
	}
}

// P11.2: arguments stay as they are, what stands behind them too; the configurations that are returned are new memory, of which no two share any.
func TestNewMemory(t *testing.T) {
	r := rand.New(rand.NewSource(115))
	try := func(l []api.Conf, do func(l []api.Conf) []api.Conf) {
		given, changed := roomy(l)
		got := do(given)
		if changed() {
			t.Fatalf("%v was changed to %v", l, given)
		}
		before := clone(got)
		for i := range got {
			members := got[i].Members[:cap(got[i].Members)]
			kept := slices.Clone(members)
			for j := range members {
				members[j] = -5
			}
			for j := range got {
				if j != i && !slices.Equal(got[j].Members, before[j].Members) {
					t.Fatalf("of %v, two share their members", before)
				}
			}
			copy(members, kept)
		}
		spoil(got)
		if changed() {
			t.Fatalf("%v shares memory with %v", before, l)
		}
	}
	for range 20000 {
		l := someList(r)
		index, kind, node := 1+r.Intn(30), add+r.Intn(2), 1+r.Intn(nodes)
		try(l, func(l []api.Conf) []api.Conf {
			out, _ := Change(l, index, kind, node)
			return out
		})
		try(l, func(l []api.Conf) []api.Conf { return Trim(l, index) })
		try(l, func(l []api.Conf) []api.Conf { return Trim(l, -index) })
	}
}

// differ returns how many nodes are members of one list and not of the other.
func differ(a, b []int) int {
	n := 0
	for node := 1; node <= nodes; node++ {
		if slices.Contains(a, node) != slices.Contains(b, node) {
			n++
		}
	}
	return n
}

// P11.3: a change leaves what is in the window as it was; from its beginning on, exactly one node has come or gone.
func TestChangeIsAhead(t *testing.T) {
	r := rand.New(rand.NewSource(116))
	good := 0
	for range 60000 {
		l := someList(r)
		index := somewhere(r, l)
		got, err := Change(l, index, add+r.Intn(2), 1+r.Intn(nodes))
		if err != api.OK {
			continue
		}
		good++
		near := []int{1, 2, index - 1, index, index + 1, index + 2, index + 3, index + 4, index + 5}
		for _, c := range l {
			near = append(near, c.From-1, c.From, c.From+1)
		}
		begin := max(index+ahead, l[len(l)-1].From)
		for _, i := range near {
			want := 0
			if i >= begin {
				want = 1
			}
			if i >= 1 && differ(At(l, i), At(got, i)) != want {
				t.Fatalf("a change of %v at %d to %v: at %d, the members were %v and are %v", l, index, got, i, At(l, i), At(got, i))
			}
		}
		if Check(got) != api.OK {
			t.Fatalf("a change of %v at %d to %v, which is not valid", l, index, got)
		}
	}
	if good < 15000 {
		t.Errorf("only %d changes were valid", good)
	}
}

// P11.3: of any number of changes, two successive configurations differ by at most one node for each that led from one to the other; trimmed or not.
func TestChangesInARow(t *testing.T) {
	r := rand.New(rand.NewSource(117))
	good, replaced := 0, 0
	for range 3000 {
		l := list(is(1, someMembers(r)...))
		led := []int{0} // how many changes led to a configuration
		index := 1
		for range 30 {
			index += r.Intn(3)
			if r.Intn(8) == 0 {
				short := Trim(l, index)
				led = led[len(l)-len(short):]
				l = short
			}
			next, err := Change(l, index, add+r.Intn(2), 1+r.Intn(nodes))
			if err != api.OK {
				continue
			}
			good++
			if len(next) == len(l) {
				led[len(led)-1]++
				replaced++
			} else {
				led = append(led, 1)
			}
			l = next
			if Check(l) != api.OK || len(l) != len(led) {
				t.Fatalf("%v after %d changes to the last one", l, led[len(led)-1])
			}
			for i := range l[1:] {
				if differ(l[i].Members, l[i+1].Members) > led[i+1] {
					t.Fatalf("%v: %d changes led to configuration %d", l, led[i+1], i+1)
				}
			}
		}
	}
	if good < 20000 || replaced < 5000 {
		t.Errorf("only %d changes, %d of which replaced a configuration", good, replaced)
	}
}

// P11.3: two majorities of one configuration have a member in common; all members together are one.
func TestMajoritiesMeet(t *testing.T) {
	for members := 1; members < 1<<nodes; members++ {
		all := ofBits(2 * members)
		var most []int
		for of := members; of > 0; of = (of - 1) & members {
			if Majority(all, ofBits(2*of)) {
				most = append(most, of)
			}
		}
		if len(most) == 0 || most[0] != members {
			t.Fatalf("%v are no majority of themselves", all)
		}
		for _, a := range most {
			for _, b := range most {
				if a&b == 0 {
					t.Fatalf("of %v, both %v and %v are a majority", all, ofBits(2*a), ofBits(2*b))
				}
			}
		}
	}
}
