package vers

import (
	"math"
	"math/rand"
	"testing"

	"changeover/api"
)

// numbers: all from well below to well above what means something, and what is at the edges of Go's number types, or one of our numbers in its lowest bits.
func numbers() []int {
	var l []int
	for n := -20; n <= 300; n++ {
		l = append(l, n)
	}
	for shift := 9; shift < 63; shift++ {
		for n := -2; n <= 9; n++ {
			l = append(l, 1<<shift+n, -1<<shift+n)
		}
	}
	for n := range 10 {
		l = append(l, math.MinInt+n, math.MaxInt-n)
	}
	return l
}

// kinds: who supports a kind, written out from the definitions: the least version that does.
var kinds = map[int]int{
	api.CmdNop:      1,
	api.CmdPut:      1,
	api.CmdGet:      1,
	api.CmdDel:      1,
	api.CmdCas:      2,
	api.CmdActivate: 1,
	api.CmdAdd:      1,
	api.CmdDrop:     1,
}

// P7.1: V1 and V2 are versions, and no other number is.
func TestMay(t *testing.T) {
	for _, v := range numbers() {
		if got, want := May(v), v == 1 || v == 2; got != want {
			t.Errorf("May(%d) = %v", v, got)
		}
	}
	if !May(api.V1) || !May(api.V2) {
		t.Error("V1 or V2 is not a version")
	}
}

// P7.1: the example of the chapter; the lesser of two versions in either order, 0 where one, or both, are none.
func TestLeast(t *testing.T) {
	for _, c := range []struct{ a, b, want int }{
		{1, 1, 1},
		{1, 2, 1},
		{2, 1, 1},
		{2, 2, 2},
		{1, 3, 0},
		{3, 1, 0},
		{2, 3, 0},
		{3, 2, 0},
		{3, 3, 0},
		{0, 1, 0},
		{1, 0, 0},
		{0, 2, 0},
		{2, 0, 0},
		{0, 0, 0},
		{-1, 1, 0},
		{2, -2, 0},
		{math.MinInt, 2, 0},
		{1, math.MaxInt, 0},
	} {
		if got := Least(c.a, c.b); got != c.want {
			t.Errorf("Least(%d, %d) = %d, want %d", c.a, c.b, got, c.want)
		}
	}
}

// P7.1: one that is no version makes it 0, whatever the other is.
func TestLeastOfNone(t *testing.T) {
	for _, a := range numbers() {
		if a == 1 || a == 2 {
			continue
		}
		for _, b := range numbers() {
			if Least(a, b) != 0 || Least(b, a) != 0 {
				t.Fatalf("Least of %d and %d: %d, %d", a, b, Least(a, b), Least(b, a))
			}
		}
	}
}

// P7.1: the examples of the chapter; every kind with every version.
func TestHas(t *testing.T) {
	for kind, least := range kinds {
		for v := 1; v <= 2; v++ {
			if got := Has(v, kind); got != (v >= least) {
				t.Errorf("Has(%d, %d) = %v", v, kind, got)
			}
		}
	}
	if Has(1, api.CmdCas) || !Has(2, api.CmdCas) || Has(2, 9) {
		t.Error("an example of the chapter does not hold")
	}
}

// P7.1: false for what is no version, or no kind.
func TestHasOther(t *testing.T) {
	for _, v := range numbers() {
		for _, kind := range numbers() {
			least, is := kinds[kind]
			want := is && (v == 1 || v == 2) && v >= least
			if got := Has(v, kind); got != want {
				t.Fatalf("Has(%d, %d) = %v", v, kind, got)
			}
		}
	}
}

// P7.2: the examples of the chapter; 2 from the index 1 on, 1 below it.
func TestFormat(t *testing.T) {
	for active, want := range map[int]int{
		0:                1,
		1:                2,
		2:                2,
		7:                2,
		api.MaxIndex:     2,
		api.MaxIndex + 1: 2,
		math.MaxInt:      2,
		-1:               1,
		-2:               1,
		math.MinInt:      1,
	} {
		if got := Format(active); got != want {
			t.Errorf("Format(%d) = %d, want %d", active, got, want)
		}
	}
	for _, active := range numbers() {
		if got := Format(active); (got == 2) != (active > 0) || (got == 1) != (active <= 0) {
			t.Errorf("Format(%d) = %d", active, got)
		}
	}
}

// P7.2: the examples of the chapter; ErrVersion comes before ErrDowngrade.
func TestOpens(t *testing.T) {
	for _, c := range []struct {
		v, format int
		want      api.Errno
	}{
		{1, 1, api.OK},
		{2, 1, api.OK},
		{2, 2, api.OK},
		{1, 2, api.ErrDowngrade},
		{0, 1, api.ErrVersion},
		{0, 2, api.ErrVersion}, // the format is greater than the version, too
		{-1, 1, api.ErrVersion},
		{3, 1, api.ErrVersion},
		{3, 2, api.ErrVersion},
		{1, 3, api.ErrVersion}, // likewise
		{2, 3, api.ErrVersion},
		{3, 3, api.ErrVersion},
		{1, 0, api.ErrVersion},
		{2, 0, api.ErrVersion},
		{0, 0, api.ErrVersion},
		{1, -1, api.ErrVersion},
		{2, math.MinInt, api.ErrVersion},
		{1, math.MaxInt, api.ErrVersion},
		{math.MaxInt, 1, api.ErrVersion},
		{math.MinInt, 2, api.ErrVersion},
	} {
		if got := Opens(c.v, c.format); got != c.want {
			t.Errorf("Opens(%d, %d) = %d, want %d", c.v, c.format, got, c.want)
		}
	}
}

// P7.2: ErrVersion for all that is no version, or no format.
func TestOpensOther(t *testing.T) {
	for _, v := range numbers() {
		for _, format := range numbers() {
			want := api.ErrVersion
			if (v == 1 || v == 2) && (format == 1 || format == 2) {
				want = api.OK
				if v == 1 && format == 2 {
					want = api.ErrDowngrade
				}
			}
			if got := Opens(v, format); got != want {
				t.Fatalf("Opens(%d, %d) = %d, want %d", v, format, got, want)
			}
		}
	}
}

// P7.2: every version opens what stood before the activation; after it, only one that supports every kind does.
func TestOpensFormat(t *testing.T) {
	for v := 1; v <= 2; v++ {
		if got := Opens(v, Format(0)); got != api.OK {
			t.Errorf("version %d before the activation: %d", v, got)
		}
		want := api.ErrDowngrade
		if Has(v, api.CmdCas) {
			want = api.OK
		}
		if got := Opens(v, Format(1)); got != want {
			t.Errorf("version %d after the activation: %d, want %d", v, got, want)
		}
	}
}

// wantBoth fails the test unless the lesser of a and b supports the kind exactly if both do.
func wantBoth(t *testing.T, a, b, kind int) {
	t.Helper()
	if got, want := Has(Least(a, b), kind), Has(a, kind) && Has(b, kind); got != want {
		t.Fatalf("versions %d and %d, kind %d: the lesser supports it: %v, both do: %v", a, b, kind, got, want)
	}
}

// P7.3: what the lesser of two versions supports, both support; and here, as versions only add, the other way round too.
func TestBoth(t *testing.T) {
	for a := -2; a <= 5; a++ {
		for b := -2; b <= 5; b++ {
			for _, kind := range numbers() {
				wantBoth(t, a, b, kind)
			}
		}
	}
	some := 0
	for kind := range kinds {
		for _, pair := range [][2]int{{1, 1}, {1, 2}, {2, 1}, {2, 2}} {
			if Has(Least(pair[0], pair[1]), kind) {
				some++
			}
		}
	}
	if some != 7*4+1 { // seven kinds with each pair, and CmdCas where both are V2
		t.Errorf("the lesser supports a kind in %d cases, want 29", some)
	}
	l := numbers()
	r := rand.New(rand.NewSource(7))
	for range 100000 {
		wantBoth(t, l[r.Intn(len(l))], l[r.Intn(len(l))], r.Intn(12)-1)
	}
}
