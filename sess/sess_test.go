package sess

import (
	"fmt"
	"maps"
	"math"
	"math/rand"
	"slices"
	"strings"
	"testing"

	"changeover/api"
)

// The limits of the chapters, written out.
const (
	clients = 8
	seqs    = 1 << 32
	indexes = 1 << 32
	errors  = 17
	bytes   = 48
)

// of returns the answer to the command of a client.
func of(client, seq int, val string) api.Answer {
	return api.Answer{Client: client, Seq: seq, Val: val}
}

// session returns the one of which a is the last answer.
func session(a api.Answer) api.Session {
	return api.Session{Client: a.Client, Seq: a.Seq, Last: a}
}

// numbers: those at the limits of clients and of their commands, beside and beyond them, and at those of Go's number types.
var numbers = []int{
	math.MinInt, math.MinInt + 1, -1 << 32, -256 + 1, -8, -1, 0, 1, 2, 3, 7, 8, 9, 10, 255, 256, 257, 1<<16 + 3,
	math.MaxInt32, math.MaxInt32 + 1, math.MaxUint32 - 1, math.MaxUint32, seqs, seqs + 1, seqs + 2, 1<<33 + 1, math.MaxInt - 1, math.MaxInt,
}

// values, and strings that are none.
var (
	values = []string{"", "x", " ", "a b", "~", "é", "€", "\u00a0", "\ufffd", "\U0010ffff", strings.Repeat("v", bytes), strings.Repeat("é", bytes/2)}
	others = []string{"\x00", "\n", "\x1f", "\x7f", "a\x7f", "\xff", "\x80", "a\xe2\x82", "\xed\xa0\x80", "\xc0\x80", "\xf4\x90\x80\x80", strings.Repeat("v", bytes+1), strings.Repeat("é", bytes/2) + "v"}
)

// isAnswer reports whether a is valid, by its definition.
func isAnswer(a api.Answer) bool {
	return a.Client >= 1 && a.Client <= clients &&
		a.Seq >= 1 && a.Seq <= seqs &&
		a.Err >= 0 && a.Err <= errors &&
		a.Rev >= 0 && a.Rev <= indexes &&
		!slices.Contains(others, a.Val)
}

// checked returns what Check is to return: every session is tried against the definition, and each against all behind it.
func checked(l []api.Session) api.Errno {
	for i, s := range l {
		if s.Client < 1 || s.Client > clients || s.Seq < 1 || s.Seq > seqs {
			return api.ErrForm
		}
		if !isAnswer(s.Last) || s.Last.Client != s.Client || s.Last.Seq != s.Seq {
			return api.ErrForm
		}
		for _, behind := range l[i+1:] {
			if behind.Client <= s.Client {
				return api.ErrForm
			}
		}
	}
	return api.OK
}

// valids returns sessions that are valid by themselves, at the limits of every field.
func valids() []api.Session {
	var l []api.Session
	for _, client := range []int{1, 2, 7, 8} {
		for _, seq := range []int{1, 2, math.MaxInt32, seqs - 1, seqs} {
			for _, val := range values {
				a := of(client, seq, val)
				l = append(l, session(a))
				a.Found = true
				a.Err = errors
				a.Rev = indexes
				l = append(l, session(a))
			}
		}
	}
	return l
}

// random returns a valid answer to the command of a client.
func random(r *rand.Rand, client, seq int) api.Answer {
	return api.Answer{
		Client: client,
		Seq:    seq,
		Err:    api.Errno(r.Intn(errors + 1)),
		Found:  r.Intn(2) == 0,
		Val:    values[r.Intn(len(values))],
		Rev:    r.Intn(1 << r.Intn(33)),
	}
}

// spread returns random sessions of strictly ascending clients of any number, with answers that are theirs or not.
func spread(r *rand.Rand) []api.Session {
	chosen := map[int]bool{}
	for range r.Intn(10) {
		switch r.Intn(3) {
		case 0:
			chosen[numbers[r.Intn(len(numbers))]] = true
		case 1:
			chosen[int(r.Uint64())] = true
		default:
			chosen[r.Intn(12)-2] = true
		}
	}
	var l []api.Session
	for _, client := range slices.Sorted(maps.Keys(chosen)) {
		s := session(random(r, client, numbers[r.Intn(len(numbers))]))
		if r.Intn(3) == 0 {
			s.Last = random(r, r.Intn(9), r.Intn(9))
		}
		l = append(l, s)
	}
	return l
}

// wanted returns clients to be asked for: all of l and those beside them, and the numbers.
func wanted(l []api.Session) []int {
	out := slices.Clone(numbers)
	for _, s := range l {
		out = append(out, s.Client-1, s.Client, s.Client+1)
	}
	return out
}

// which returns what Which is to return, by the definitions.
func which(l []api.Session, client, seq int) (int, api.Answer) {
	for _, s := range l {
		if s.Client == client && s.Seq == seq {
			return 1, s.Last
		}
		if s.Client == client && s.Seq > seq {
			return 2, api.Answer{}
		}
	}
	return 0, api.Answer{}
}

// with returns what With is to return: the sessions of all other clients and the new one, sorted by their clients.
func with(l []api.Session, a api.Answer) []api.Session {
	by := map[int]api.Session{}
	for _, s := range l {
		by[s.Client] = s
	}
	by[a.Client] = session(a)
	var out []api.Session
	for _, client := range slices.Sorted(maps.Keys(by)) {
		out = append(out, by[client])
	}
	return out
}

// mark stands in memory that nothing may write to.
var mark = api.Session{Client: 77, Seq: 78, Last: of(79, 80, "mark")}

// roomy returns a copy of l with room beyond its end, and what tells whether anything in it has changed.
func roomy(l []api.Session) ([]api.Session, func() bool) {
	all := append(slices.Clone(l), mark, mark, mark)
	before := slices.Clone(all)
	return all[:len(l)], func() bool { return !slices.Equal(all, before) }
}

// spoil overwrites a result, and the memory beyond its end.
func spoil(l []api.Session) {
	l = l[:cap(l)]
	for i := range l {
		l[i] = api.Session{Client: -5, Seq: -6, Last: of(-7, -8, "spoilt")}
	}
}

// wantCheck fails if Check of l is not as it is to be, or changes l.
func wantCheck(t *testing.T, l []api.Session, want api.Errno) {
	t.Helper()
	given, changed := roomy(l)
	if got := Check(given); got != want {
		t.Fatalf("Check(%+v) = %d, want %d", l, got, want)
	}
	if changed() {
		t.Fatalf("Check changed %+v", l)
	}
}

// P22.1: the names of the three kinds are the chapter's numbers.
func TestKinds(t *testing.T) {
	if New != 0 || Again != 1 || Stale != 2 {
		t.Error(New, Again, Stale)
	}
}

// P22.1: no sessions are valid, and so is each single one with all fields at their limits.
func TestCheckValid(t *testing.T) {
	wantCheck(t, nil, api.OK)
	wantCheck(t, []api.Session{}, api.OK)
	for _, s := range valids() {
		wantCheck(t, []api.Session{s}, api.OK)
	}
	var all []api.Session
	for client := 1; client <= clients; client++ {
		all = append(all, session(of(client, seqs+1-client, "v")))
	}
	wantCheck(t, all, api.OK)
	for i := range all {
		wantCheck(t, all[i:], api.OK)
		wantCheck(t, slices.Delete(slices.Clone(all), i, i+1), api.OK)
	}
}

// P22.1: a client, a number of a command, or an answer that is not valid is found, wherever it stands, though all else is valid.
func TestCheckFields(t *testing.T) {
	good := session(of(2, 5, "v"))
	for _, x := range []struct {
		name string
		s    api.Session
	}{
		{"client 0", session(of(0, 5, "v"))},
		{"client -1", session(of(-1, 5, "v"))},
		{"client 9", session(of(clients+1, 5, "v"))},
		{"client 257", session(of(257, 5, "v"))},
		{"client 2^32 + 2", session(of(1<<32+2, 5, "v"))},
		{"Seq 0", session(of(2, 0, "v"))},
		{"Seq -1", session(of(2, -1, "v"))},
		{"Seq 2^32 + 1", session(of(2, seqs+1, "v"))},
		{"greatest Seq", session(of(2, math.MaxInt, "v"))},
		{"least Seq", session(of(2, math.MinInt, "v"))},
		{"zero session", api.Session{}},
		{"no answer", api.Session{Client: 2, Seq: 5}},
		{"another client's answer", api.Session{Client: 2, Seq: 5, Last: of(3, 5, "v")}},
		{"an earlier client's answer", api.Session{Client: 2, Seq: 5, Last: of(1, 5, "v")}},
		{"an earlier answer", api.Session{Client: 2, Seq: 5, Last: of(2, 4, "v")}},
		{"a later answer", api.Session{Client: 2, Seq: 5, Last: of(2, 6, "v")}},
		{"client 0, a valid answer", api.Session{Client: 0, Seq: 5, Last: of(2, 5, "v")}},
		{"client 9, a valid answer", api.Session{Client: 9, Seq: 5, Last: of(2, 5, "v")}},
		{"Seq 0, a valid answer", api.Session{Client: 2, Seq: 0, Last: of(2, 5, "v")}},
		{"Seq 2^32 + 5, a valid answer", api.Session{Client: 2, Seq: 1<<32 + 5, Last: of(2, 5, "v")}},
		{"error 18", session(api.Answer{Client: 2, Seq: 5, Err: errors + 1})},
		{"error -1", session(api.Answer{Client: 2, Seq: 5, Err: -1})},
		{"Rev -1", session(api.Answer{Client: 2, Seq: 5, Rev: -1})},
		{"Rev 2^32 + 1", session(api.Answer{Client: 2, Seq: 5, Rev: indexes + 1})},
		{"a newline", session(of(2, 5, "\n"))},
		{"no UTF-8", session(of(2, 5, "\xff"))},
		{"49 bytes", session(of(2, 5, strings.Repeat("v", bytes+1)))},
	} {
		t.Run(x.name, func(t *testing.T) {
			wantCheck(t, []api.Session{good}, api.OK)
			wantCheck(t, []api.Session{x.s}, api.ErrForm)
			wantCheck(t, []api.Session{session(of(1, 1, "")), x.s}, api.ErrForm)
			wantCheck(t, []api.Session{x.s, session(of(8, 1, ""))}, api.ErrForm)
			wantCheck(t, []api.Session{session(of(1, 1, "")), x.s, session(of(8, 1, ""))}, api.ErrForm)
		})
	}
}

// P22.1: values are valid in a last answer, and other strings are not.
func TestCheckVal(t *testing.T) {
	for _, val := range values {
		wantCheck(t, []api.Session{session(of(1, 1, val))}, api.OK)
	}
	for _, val := range others {
		wantCheck(t, []api.Session{session(of(1, 1, val))}, api.ErrForm)
	}
}

// P22.1: clients that do not ascend strictly are found: every order of up to four of them.
func TestCheckOrder(t *testing.T) {
	count := 0
	for n := range 9 * 9 * 9 * 9 {
		var l []api.Session
		for rest := n; rest > 0; rest /= 9 {
			if rest%9 > 0 {
				l = append(l, session(of(rest%9, 10-rest%9, "v")))
			}
		}
		ascends := slices.IsSortedFunc(l, func(a, b api.Session) int { return a.Client - b.Client })
		for i := range l {
			ascends = ascends && (i == 0 || l[i-1].Client != l[i].Client)
		}
		want := api.OK
		if !ascends {
			want = api.ErrForm
		} else {
			count++
		}
		wantCheck(t, l, want)
	}
	if count < 163 {
		t.Errorf("%d lists ascend", count)
	}
}

// P22.1: every pair of numbers, in the session, in its answer, or in both.
func TestCheckNumbers(t *testing.T) {
	count := 0
	for _, client := range numbers {
		for _, seq := range numbers {
			for _, s := range []api.Session{
				session(of(client, seq, "v")),
				{Client: client, Seq: seq, Last: of(3, 7, "v")},
				{Client: 3, Seq: 7, Last: of(client, seq, "v")},
			} {
				want := checked([]api.Session{s})
				wantCheck(t, []api.Session{s}, want)
				if want == api.OK {
					count++
				}
			}
		}
	}
	if count < 50 {
		t.Errorf("%d sessions are valid", count)
	}
}

// P22.1: random sessions, of which one field is changed or two are exchanged.
func TestCheckRandom(t *testing.T) {
	r := rand.New(rand.NewSource(1))
	counts := map[api.Errno]int{}
	for range 30000 {
		l := someSessions(r)
		if len(l) > 0 && r.Intn(2) == 0 {
			disturb(r, l)
		}
		want := checked(l)
		wantCheck(t, l, want)
		counts[want]++
	}
	if counts[api.OK] < 10000 || counts[api.ErrForm] < 8000 {
		t.Errorf("too few of a kind: %v", counts)
	}
}

// someSessions returns random valid ones.
func someSessions(r *rand.Rand) []api.Session {
	var l []api.Session
	for client := 1; client <= clients; client++ {
		if r.Intn(2) == 0 {
			l = append(l, session(random(r, client, 1+r.Intn(1<<(1+r.Intn(32))))))
		}
	}
	return l
}

// disturb changes something in l, which may be valid still.
func disturb(r *rand.Rand, l []api.Session) {
	i, j := r.Intn(len(l)), r.Intn(len(l))
	n := numbers[r.Intn(len(numbers))]
	switch r.Intn(9) {
	case 0:
		l[i].Client = n
	case 1:
		l[i].Seq = n
	case 2:
		l[i].Last.Client = n
	case 3:
		l[i].Last.Seq = n
	case 4:
		l[i].Last.Err = api.Errno(n)
	case 5:
		l[i].Last.Rev = n
	case 6:
		l[i].Last.Val = others[r.Intn(len(others))]
	case 7:
		l[i], l[j] = l[j], l[i]
	case 8:
		l[i] = l[j]
	}
}

// P22.1: the example of the chapter, and what is returned beside the kind.
func TestWhichExample(t *testing.T) {
	last := api.Answer{Client: 1, Seq: 7, Err: api.ErrFull, Found: true, Val: "x", Rev: 3}
	l := []api.Session{session(last)}
	for _, x := range []struct {
		client, seq, kind int
		a                 api.Answer
	}{
		{1, 6, Stale, api.Answer{}},
		{1, 7, Again, last},
		{1, 8, New, api.Answer{}},
		{2, 6, New, api.Answer{}},
		{2, 7, New, api.Answer{}},
		{2, 8, New, api.Answer{}},
		{0, 7, New, api.Answer{}},
		{1, 1, Stale, api.Answer{}},
		{1, 0, Stale, api.Answer{}},
		{1, math.MinInt, Stale, api.Answer{}},
		{1, 1<<32 + 7, New, api.Answer{}},
		{1, math.MaxInt, New, api.Answer{}},
		{257, 7, New, api.Answer{}},
		{1<<32 + 1, 7, New, api.Answer{}},
	} {
		if kind, a := Which(l, x.client, x.seq); kind != x.kind || a != x.a {
			t.Errorf("Which %d, %d = %d, %+v, want %d, %+v", x.client, x.seq, kind, a, x.kind, x.a)
		}
	}
}

// P22.1: of no sessions at all, every command is new, and no client has a last one.
func TestNone(t *testing.T) {
	for _, l := range [][]api.Session{nil, {}} {
		for _, client := range numbers {
			for _, seq := range numbers {
				if kind, a := Which(l, client, seq); kind != New || a != (api.Answer{}) {
					t.Errorf("Which %d, %d = %d, %+v", client, seq, kind, a)
				}
			}
			if got := Last(l, client); got != 0 {
				t.Errorf("Last %d = %d", client, got)
			}
		}
	}
}

// P22.1: the session is told by its own number, and its answer is returned whole, whatever it is.
func TestWhichOdd(t *testing.T) {
	odd := api.Answer{Client: -1, Seq: 4, Err: -9, Found: true, Val: "\xff", Rev: -2}
	l := []api.Session{{Client: 3, Seq: 7, Last: odd}}
	for seq, want := range map[int]int{3: Stale, 4: Stale, 5: Stale, 6: Stale, 7: Again, 8: New} {
		kind, a := Which(l, 3, seq)
		if kind != want || a != (odd) && want == Again || a != (api.Answer{}) && want != Again {
			t.Errorf("Which %d = %d, %+v", seq, kind, a)
		}
	}
	if got := Last(l, 3); got != 7 {
		t.Errorf("Last = %d", got)
	}
	if got := Last(l, -1); got != 0 {
		t.Errorf("Last of the answer's client = %d", got)
	}
}

// P22.1: each command of each client, by sessions of clients with any numbers.
func TestWhichLast(t *testing.T) {
	r := rand.New(rand.NewSource(2))
	counts := map[int]int{}
	for range 500 {
		l := spread(r)
		given, changed := roomy(l)
		for _, client := range wanted(l) {
			last := 0
			for _, s := range l {
				if s.Client == client {
					last = s.Seq
				}
			}
			if got := Last(given, client); got != last {
				t.Fatalf("Last(%+v, %d) = %d, want %d", l, client, got, last)
			}
			for _, seq := range append([]int{last - 1, last, last + 1}, numbers...) {
				kind, a := Which(given, client, seq)
				wantKind, wantAnswer := which(l, client, seq)
				if kind != wantKind || a != wantAnswer {
					t.Fatalf("Which(%+v, %d, %d) = %d, %+v, want %d, %+v", l, client, seq, kind, a, wantKind, wantAnswer)
				}
				counts[kind]++
			}
		}
		if changed() {
			t.Fatalf("%+v is changed", l)
		}
	}
	if counts[New] < 100000 || counts[Again] < 3000 || counts[Stale] < 20000 {
		t.Errorf("too few of a kind: %v", counts)
	}
}

// P22.1: a client's session is found wherever it stands.
func TestNoOrder(t *testing.T) {
	last := map[int]int{8: 3, 1: 5, 7: 4, 2: 9}
	l := []api.Session{session(of(8, 3, "")), session(of(1, 5, "")), session(of(7, 4, "")), session(of(2, 9, ""))}
	for client := range 10 {
		if got := Last(l, client); got != last[client] {
			t.Errorf("Last %d = %d, want %d", client, got, last[client])
		}
		for seq := range 11 {
			kind, a := Which(l, client, seq)
			wantKind, wantAnswer := which(l, client, seq)
			if kind != wantKind || a != wantAnswer {
				t.Errorf("Which %d, %d = %d, %+v, want %d", client, seq, kind, a, wantKind)
			}
		}
	}
}

// P22.2: the example of the chapter.
func TestWithExample(t *testing.T) {
	three, one := of(3, 2, "y"), api.Answer{Client: 1, Seq: 7, Err: api.ErrNone, Found: true, Val: "x", Rev: 5}
	want := []api.Session{session(one), session(three)}
	if got := With(With(nil, three), one); !slices.Equal(got, want) {
		t.Errorf("%+v", got)
	}
	if got := With(With(nil, one), three); !slices.Equal(got, want) {
		t.Errorf("the other way round: %+v", got)
	}
}

// P22.2: ahead of all, between two, behind all, and in place of each.
func TestWithPlaces(t *testing.T) {
	two, four, six := session(of(2, 9, "b")), session(of(4, 9, "d")), session(of(6, 9, "f"))
	for _, x := range []struct {
		l    []api.Session
		a    api.Answer
		want string
	}{
		{nil, of(1, 1, "n"), "n"},
		{[]api.Session{}, of(8, 1, "n"), "n"},
		{[]api.Session{two, four, six}, of(1, 1, "n"), "nbdf"},
		{[]api.Session{two, four, six}, of(2, 1, "n"), "ndf"},
		{[]api.Session{two, four, six}, of(3, 1, "n"), "bndf"},
		{[]api.Session{two, four, six}, of(4, 1, "n"), "bnf"},
		{[]api.Session{two, four, six}, of(5, 1, "n"), "bdnf"},
		{[]api.Session{two, four, six}, of(6, 1, "n"), "bdn"},
		{[]api.Session{two, four, six}, of(7, 1, "n"), "bdfn"},
		{[]api.Session{four}, of(4, 9, "n"), "n"},
		{[]api.Session{four}, of(4, 10, "n"), "n"},
		{[]api.Session{four}, of(math.MinInt, 1, "n"), "nd"},
		{[]api.Session{four}, of(math.MaxInt, 1, "n"), "dn"},
	} {
		t.Run(fmt.Sprint(len(x.l), x.a.Client, x.a.Seq), func(t *testing.T) {
			vals := ""
			for _, s := range With(x.l, x.a) {
				vals += s.Last.Val
				if s.Client != s.Last.Client || s.Seq != s.Last.Seq {
					t.Errorf("%+v", s)
				}
			}
			if vals != x.want {
				t.Errorf("%s, want %s", vals, x.want)
			}
		})
	}
}

// P22.2: any answer to any client, valid or not, newer or not, by sessions of clients with any numbers; in new memory.
func TestWith(t *testing.T) {
	r := rand.New(rand.NewSource(3))
	replaced := 0
	for range 1000 {
		l := spread(r)
		for _, client := range wanted(l) {
			a := random(r, client, numbers[r.Intn(len(numbers))])
			switch r.Intn(4) {
			case 0:
				a.Val = others[r.Intn(len(others))]
			case 1:
				a.Err, a.Rev = api.Errno(r.Uint64()), int(r.Uint64())
			}
			given, changed := roomy(l)
			got := With(given, a)
			if want := with(l, a); !slices.Equal(got, want) {
				t.Fatalf("With(%+v, %+v) = %+v, want %+v", l, a, got, want)
			}
			if len(got) == len(l) {
				replaced++
			}
			spoil(got)
			if changed() {
				t.Fatalf("With(%+v, %+v) shares the list's memory", l, a)
			}
		}
	}
	if replaced < 4000 {
		t.Errorf("%d sessions were replaced", replaced)
	}
}

// P22.2: for clients in no order nothing is promised but that the call ends and leaves the list as it is.
func TestWithNoOrder(t *testing.T) {
	r := rand.New(rand.NewSource(4))
	for range 2000 {
		var l []api.Session
		for range r.Intn(9) {
			l = append(l, session(random(r, numbers[r.Intn(len(numbers))], r.Intn(9))))
		}
		given, changed := roomy(l)
		for _, client := range wanted(l) {
			spoil(With(given, of(client, 1, "")))
			Which(given, client, 1)
			Last(given, client)
		}
		Check(given)
		if changed() {
			t.Fatalf("%+v is changed", l)
		}
	}
}

// wantAfter fails if, after With of a, its command is not again, smaller ones not stale, greater ones not new, or another client's session is not as before.
func wantAfter(t *testing.T, before []api.Session, a api.Answer) {
	t.Helper()
	l := With(before, a)
	for _, seq := range append([]int{a.Seq - 2, a.Seq - 1, a.Seq, a.Seq + 1, a.Seq + 2}, numbers...) {
		want, answer := New, api.Answer{}
		if seq < a.Seq {
			want = Stale
		} else if seq == a.Seq {
			want, answer = Again, a
		}
		if kind, got := Which(l, a.Client, seq); kind != want || got != answer {
			t.Fatalf("after %+v in %+v, Which %d = %d, %+v, want %d", a, before, seq, kind, got, want)
		}
	}
	if got := Last(l, a.Client); got != a.Seq {
		t.Fatalf("after %+v in %+v, Last = %d", a, before, got)
	}
	others := func(s api.Session) bool { return s.Client == a.Client }
	if got, want := slices.DeleteFunc(slices.Clone(l), others), slices.DeleteFunc(slices.Clone(before), others); !slices.Equal(got, want) {
		t.Fatalf("after %+v, the others of %+v become %+v", a, before, got)
	}
}

// P22.3: after With, the command is again and every smaller one stale; the sessions of the others stay.
func TestAfterWith(t *testing.T) {
	r := rand.New(rand.NewSource(5))
	for range 300 {
		l := spread(r)
		for _, client := range wanted(l) {
			wantAfter(t, l, random(r, client, numbers[r.Intn(len(numbers))]))
		}
	}
}

// P22.3: a course of commands, some sent again or late: each is carried out once, its answer stays until the client's next one, and the sessions are valid all the time.
func TestCourse(t *testing.T) {
	r := rand.New(rand.NewSource(6))
	counts := map[int]int{}
	for range 300 {
		var l []api.Session
		last := map[int]api.Answer{}
		for range 100 {
			client := 1 + r.Intn(clients)
			seq := max(1, last[client].Seq-2+r.Intn(5))
			kind, got := Which(l, client, seq)
			counts[kind]++
			switch {
			case seq > last[client].Seq:
				if kind != New || got != (api.Answer{}) {
					t.Fatalf("%d, %d is %d, %+v in %+v", client, seq, kind, got, l)
				}
				last[client] = random(r, client, seq)
				wantAfter(t, l, last[client])
				l = With(l, last[client])
			case seq == last[client].Seq:
				if kind != Again || got != last[client] {
					t.Fatalf("%d, %d is %d, %+v in %+v", client, seq, kind, got, l)
				}
			default:
				if kind != Stale || got != (api.Answer{}) {
					t.Fatalf("%d, %d is %d, %+v in %+v", client, seq, kind, got, l)
				}
			}
			if Check(l) != api.OK || len(l) != len(last) {
				t.Fatalf("%+v is not valid", l)
			}
			for client := range clients + 2 {
				if Last(l, client) != last[client].Seq {
					t.Fatalf("Last(%+v, %d) = %d", l, client, Last(l, client))
				}
			}
		}
	}
	if counts[New] < 5000 || counts[Again] < 3000 || counts[Stale] < 3000 {
		t.Errorf("too few of a kind: %v", counts)
	}
}
