package conv

import (
	"math"
	"math/bits"
	"slices"
	"testing"

	"goldmill/api"
	"goldmill/ntt"
)

const p = api.P

// words are n words of a fixed rule, spread over all 64 bits.
func words(n int, seed uint64) []uint64 {
	l := make([]uint64, n)
	x := seed
	for i := range l {
		x = x*6364136223846793005 + 1442695040888963407
		l[i] = x ^ x>>29
	}
	return l
}

func filled(n int, x uint64) []uint64 {
	return slices.Repeat([]uint64{x}, n)
}

// single is a list of n numbers, all 0 but the one at a place.
func single(n, at int, x uint64) []uint64 {
	l := make([]uint64, n)
	l[at] = x
	return l
}

func product(a, b uint64) uint64 {
	hi, lo := bits.Mul64(a, b)
	return bits.Rem64(hi, lo, p)
}

func sum(a, b uint64) uint64 {
	lo, hi := bits.Add64(a, b, 0)
	return bits.Rem64(hi, lo, p)
}

// pair is what a product is made of.
type pair struct{ a, b []uint64 }

// forms are two lists of n and m numbers, in many forms: zeros, numbers from P on, single
// numbers at either end, and words of all kinds.
func forms(n, m int) []pair {
	x, y := words(n, uint64(n)), words(m, uint64(m)+1000)
	return []pair{
		{x, y},
		{make([]uint64, n), y},
		{x, filled(m, p)},
		{filled(n, p-1), filled(m, p-1)},
		{filled(n, math.MaxUint64), filled(m, math.MaxUint64)},
		{single(n, n-1, p-1), y},
		{x, single(m, 0, p+3)},
		{single(n, n-1, math.MaxUint64), single(m, m-1, 2)},
	}
}

// even are pairs of lists that have as many numbers, and may be transformed, of all sizes.
func even() []pair {
	var l []pair
	for k := range api.MaxLog + 1 {
		l = append(l, forms(1<<k, 1<<k)...)
	}
	same := words(64, 9)
	return append(l, pair{same, same})
}

// uneven are pairs for which there is neither Cyclic nor Skew.
func uneven() []pair {
	l := []pair{
		{nil, nil}, {nil, []uint64{}}, {nil, []uint64{1}}, {[]uint64{1}, nil},
		{words(1, 1), words(2, 1)}, {words(2, 1), words(1, 1)},
		{words(4, 1), words(3, 1)}, {words(3, 1), words(4, 1)},
		{words(4, 1), words(8, 1)}, {words(1024, 1), words(512, 1)}, {words(512, 1), words(1024, 1)},
		{words(1024, 1), words(1023, 1)}, {words(1024, 1), words(2048, 1)}, {nil, words(1024, 1)},
	}
	for _, n := range []int{3, 5, 6, 7, 9, 12, 100, 513, 1000, 1023, 1025, 1536, 2047, 2048, 4096, 1 << 16} {
		l = append(l, pair{words(n, 2), words(n, 3)})
	}
	return l
}

// small are pairs whose product Linear may tell.
func small() []pair {
	l := []pair{
		{nil, nil}, {[]uint64{}, []uint64{}}, {nil, []uint64{7}}, {[]uint64{7}, []uint64{}},
		{nil, words(1024, 1)}, {words(1024, 1), nil}, {[]uint64{}, words(1024, 1)}, {words(1023, 1), nil},
	}
	for _, c := range [][2]int{
		{1, 1}, {1, 2}, {2, 1}, {2, 2}, {2, 3}, {3, 2}, {3, 3}, {4, 2}, {4, 4}, {4, 5}, {5, 5}, {1, 8}, {1, 9},
		{8, 2}, {7, 2}, {17, 40}, {63, 2}, {64, 2}, {64, 64}, {65, 64}, {65, 65}, {257, 256}, {300, 200},
		{1, 1024}, {1024, 1}, {2, 1023}, {1023, 2}, {512, 513}, {513, 512}, {512, 512}, {1000, 25}, {1, 1000},
	} {
		l = append(l, forms(c[0], c[1])...)
	}
	return l
}

// great are pairs whose product Linear may not tell.
func great() []pair {
	var l []pair
	for _, c := range [][2]int{
		{1025, 0}, {0, 1025}, {1025, 1}, {1, 1025}, {1025, 1025}, {2048, 0}, {0, 1 << 16}, {1 << 16, 1},
		{1024, 2}, {2, 1024}, {1023, 3}, {513, 513}, {514, 512}, {512, 514}, {1000, 26}, {1024, 1024},
	} {
		l = append(l, pair{words(c[0], 4), words(c[1], 5)})
	}
	return l
}

// wantLinear sums number by number, as the promise tells it.
func wantLinear(a, b []uint64) []uint64 {
	if len(a) == 0 || len(b) == 0 {
		return nil
	}
	l := make([]uint64, len(a)+len(b)-1)
	for i, x := range a {
		for j, y := range b {
			l[i+j] = sum(l[i+j], product(x, y))
		}
	}
	return l
}

// wantRound brings round what stands behind as many numbers as both lists have, times by.
func wantRound(a, b []uint64, by uint64) []uint64 {
	n := len(a)
	l := make([]uint64, n)
	for k, x := range wantLinear(a, b) {
		if k >= n {
			x = product(x, by)
		}
		l[k%n] = sum(l[k%n], x)
	}
	return l
}

func check(t *testing.T, name string, got []uint64, e api.Errno, want []uint64) {
	t.Helper()
	if e != api.OK || !slices.Equal(got, want) {
		t.Errorf("%s: %v, %d, want %v, OK", name, got, e, want)
	}
}

func TestP8Cyclic(t *testing.T) {
	for _, c := range [][3][]uint64{
		{{3}, {5}, {15}},
		{{p + 3}, {p - 1}, {p - 3}},
		{{p}, {7}, {0}},
		{{1, 2}, {3, 4}, {11, 10}},
		{{0, 1}, {0, 1}, {1, 0}},
		{{1, 2, 3, 4}, {5, 6, 7, 8}, {66, 68, 66, 60}},
		{{0, 0, 0, 1}, {1, 2, 3, 4}, {2, 3, 4, 1}},
		{{p, p + 1, p, p}, {1, 2, 3, math.MaxUint64}, {1<<32 - 2, 1, 2, 3}},
	} {
		got, e := Cyclic(c[0], c[1])
		check(t, "Cyclic", got, e, c[2])
	}
	for _, c := range even() {
		got, e := Cyclic(c.a, c.b)
		check(t, "Cyclic", got, e, wantRound(c.a, c.b, 1))
	}
}

func TestP8Skew(t *testing.T) {
	for _, c := range [][3][]uint64{
		{{3}, {5}, {15}},
		{{p + 3}, {p - 1}, {p - 3}},
		{{p}, {7}, {0}},
		{{1, 2}, {3, 4}, {p - 5, 10}},
		{{0, 1}, {0, 1}, {p - 1, 0}},
		{{1, 2, 3, 4}, {5, 6, 7, 8}, {p - 56, p - 36, 2, 60}},
		{{0, 0, 0, 1}, {1, 2, 3, 4}, {p - 2, p - 3, p - 4, 1}},
		{{p, p + 1, p, p}, {1, 2, 3, math.MaxUint64}, {p - (1<<32 - 2), 1, 2, 3}},
	} {
		got, e := Skew(c[0], c[1])
		check(t, "Skew", got, e, c[2])
	}
	for _, c := range even() {
		got, e := Skew(c.a, c.b)
		check(t, "Skew", got, e, wantRound(c.a, c.b, p-1))
	}
}

func TestP8CyclicAndSkewWrong(t *testing.T) {
	for _, c := range uneven() {
		if got, e := Cyclic(c.a, c.b); got != nil || e != api.ErrForm {
			t.Errorf("Cyclic of %d and %d numbers: %d numbers, error %d", len(c.a), len(c.b), len(got), e)
		}
		if got, e := Skew(c.a, c.b); got != nil || e != api.ErrForm {
			t.Errorf("Skew of %d and %d numbers: %d numbers, error %d", len(c.a), len(c.b), len(got), e)
		}
	}
}

// Each place of one list and each of the other meet where the promise says, with its sign.
func TestP8EachPlace(t *testing.T) {
	for k := range 5 {
		n := 1 << k
		for i := range n {
			for j := range n {
				a, b := single(n, i, 3), single(n, j, 5)
				sign := uint64(15)
				if i+j >= n {
					sign = p - 15
				}
				got, e := Cyclic(a, b)
				check(t, "Cyclic", got, e, single(n, (i+j)%n, 15))
				got, e = Skew(a, b)
				check(t, "Skew", got, e, single(n, (i+j)%n, sign))
				got, e = Linear(a, b)
				check(t, "Linear", got, e, single(2*n-1, i+j, 15))
			}
		}
	}
}

func TestP8Linear(t *testing.T) {
	for _, c := range [][3][]uint64{
		{{3}, {5}, {15}},
		{{1, 2}, {3, 4}, {3, 10, 8}},
		{{1, 2, 3, 4}, {5, 6}, {5, 16, 27, 38, 24}},
		{{5, 6}, {1, 2, 3, 4}, {5, 16, 27, 38, 24}},
		// Zeros at the end are told, too.
		{{1, 0}, {1, p, 0}, {1, 0, 0, 0}},
		{{0}, {0, 0, 0}, {0, 0, 0}},
		{{p + 1, p - 1}, {1, 1}, {1, 0, p - 1}},
	} {
		got, e := Linear(c[0], c[1])
		check(t, "Linear", got, e, c[2])
	}
	for _, c := range small() {
		got, e := Linear(c.a, c.b)
		check(t, "Linear", got, e, wantLinear(c.a, c.b))
	}
}

func TestP8LinearTooLarge(t *testing.T) {
	for _, c := range great() {
		if got, e := Linear(c.a, c.b); got != nil || e != api.ErrLarge {
			t.Errorf("Linear of %d and %d numbers: %d numbers, error %d", len(c.a), len(c.b), len(got), e)
		}
	}
}

// The transform of a product is the product of transforms.
func TestP8TransformOfAProduct(t *testing.T) {
	for _, c := range even() {
		x, _ := ntt.Forward(c.a)
		y, _ := ntt.Forward(c.b)
		for i := range x {
			x[i] = product(x[i], y[i])
		}
		round, _ := Cyclic(c.a, c.b)
		got, e := ntt.Forward(round)
		check(t, "the transform of a product", got, e, x)
	}
}

// answers are what all three products of two lists are.
type answers struct {
	lists  [3][]uint64
	errors [3]api.Errno
}

func all(a, b []uint64) answers {
	var x answers
	for i, f := range []func(a, b []uint64) ([]uint64, api.Errno){Cyclic, Skew, Linear} {
		x.lists[i], x.errors[i] = f(a, b)
	}
	return x
}

func same(x, y answers) bool {
	for i := range x.lists {
		if !slices.Equal(x.lists[i], y.lists[i]) {
			return false
		}
	}
	return x.errors == y.errors
}

// spoil writes over a list, its spare room included.
func spoil(a []uint64) {
	a = a[:cap(a)]
	for i := range a {
		a[i] = 0xdead
	}
}

func everything() []pair {
	return slices.Concat(even(), uneven(), small(), great())
}

// A panic in any of the calls fails the test.
func TestP1AnswersWhateverIsGiven(t *testing.T) {
	sizes := []int{0, 1, 2, 3, 4, 5, 7, 8, 9, 511, 512, 513, 514, 1022, 1023, 1024, 1025, 1026, 2048, 5000}
	for _, n := range sizes {
		for _, m := range sizes {
			got := all(words(n, uint64(n)), words(m, uint64(m)))
			for _, x := range slices.Concat(got.lists[:]...) {
				if x >= p {
					t.Errorf("%d and %d numbers: %d is told", n, m, x)
				}
			}
		}
	}
}

// What is handed in stays as it is, the room behind it included, and what is told is written
// over without harm.
func TestP2MemoryOfItsOwn(t *testing.T) {
	for _, c := range everything() {
		n, m := len(c.a), len(c.b)
		wholeA := append(slices.Clone(c.a), 11, 12, 13, 14, 15)
		wholeB := append(slices.Clone(c.b), 21, 22, 23, 24, 25)
		keptA, keptB := slices.Clone(wholeA), slices.Clone(wholeB)
		got, again := all(wholeA[:n], wholeB[:m]), all(c.a, c.b)
		if !same(got, again) {
			t.Errorf("%d and %d numbers: room behind them makes another answer", n, m)
		}
		for _, l := range got.lists {
			spoil(l)
		}
		if !slices.Equal(wholeA, keptA) || !slices.Equal(wholeB, keptB) {
			t.Errorf("%d and %d numbers: what was handed in is changed", n, m)
		}
		if !same(all(c.a, c.b), again) {
			t.Errorf("%d and %d numbers: what was told is kept", n, m)
		}
	}
}

// Both lists may be one and the same memory.
func TestP2OneListTwice(t *testing.T) {
	for _, n := range []int{1, 2, 4, 64, 512, 1024, 3, 100} {
		a := words(n, 31)
		got := all(a, a)
		if !same(got, all(a, slices.Clone(a))) {
			t.Errorf("%d numbers by themselves: another answer", n)
		}
		if !slices.Equal(a, words(n, 31)) {
			t.Errorf("%d numbers by themselves: what was handed in is changed", n)
		}
	}
}

// The same lists, gone through from both ends: what came ahead must not be seen in an answer.
func TestP2NothingIsKept(t *testing.T) {
	l := everything()
	var first []answers
	for _, c := range l {
		first = append(first, all(c.a, c.b))
	}
	for i := len(l) - 1; i >= 0; i-- {
		if !same(all(l[i].a, l[i].b), first[i]) {
			t.Errorf("%d and %d numbers: another answer", len(l[i].a), len(l[i].b))
		}
	}
}
