package ntt

import (
	"math"
	"math/big"
	"math/bits"
	"slices"
	"strconv"
	"testing"

	"goldmill/api"
)

const p = api.P

// words are n words of a fixed rule, spread over all 64 bits.
func words(n int, seed uint64) []uint64 {
	l := make([]uint64, n)
	x := seed
	for i := range l {
		x = x*6364136223846793005 + 1442695040888963407
		l[i] = x ^ x>>29
	}
	return l
}

func filled(n int, x uint64) []uint64 {
	return slices.Repeat([]uint64{x}, n)
}

// single is a list of n numbers, all 0 but the one at a place.
func single(n, at int, x uint64) []uint64 {
	l := make([]uint64, n)
	l[at] = x
	return l
}

// samples are lists that may be transformed, of all sizes: zeros, numbers from P on, single
// numbers, and words of all kinds.
func samples() [][]uint64 {
	l := [][]uint64{{3, 5}, {p, p + 4}, {1, 2, 3, 4}, {1, 2, 3, 4, 5, 6, 7, p + 8}}
	for k := range api.MaxLog + 1 {
		n := 1 << k
		l = append(l, make([]uint64, n), filled(n, p), filled(n, p-1), filled(n, math.MaxUint64),
			single(n, 0, 1), single(n, n-1, p-1), single(n, n/2, math.MaxUint64),
			words(n, uint64(k)), words(n, 77))
	}
	return l
}

// wrong are lists that may not be transformed.
func wrong() [][]uint64 {
	l := [][]uint64{nil, {}}
	for k := 1; k <= api.MaxLog+1; k++ {
		for _, n := range []int{1<<k - 1, 1<<k + 1, 3 << k} {
			if n&(n-1) != 0 {
				l = append(l, words(n, 5))
			}
		}
	}
	return append(l, make([]uint64, 1000), words(2048, 1), make([]uint64, 4096), make([]uint64, 1<<16))
}

func product(a, b uint64) uint64 {
	hi, lo := bits.Mul64(a, b)
	return bits.Rem64(hi, lo, p)
}

func sum(a, b uint64) uint64 {
	lo, hi := bits.Add64(a, b, 0)
	return bits.Rem64(hi, lo, p)
}

// powers are the powers of field.Root(k), all 2^k of them, told by numbers without a bound.
func powers(k int) []uint64 {
	prime := new(big.Int).SetUint64(p)
	exponent := new(big.Int).SetUint64((p - 1) >> k)
	root := new(big.Int).Exp(big.NewInt(7), exponent, prime).Uint64()
	l := []uint64{1}
	for len(l) < 1<<k {
		l = append(l, product(l[len(l)-1], root))
	}
	return l
}

// wantForward sums number by number, as the promise tells it.
func wantForward(a []uint64) []uint64 {
	n := len(a)
	roots := powers(bits.Len(uint(n)) - 1)
	l := make([]uint64, n)
	for j := range l {
		for i, x := range a {
			l[j] = sum(l[j], product(x, roots[i*j%n]))
		}
	}
	return l
}

func rests(a []uint64) []uint64 {
	l := slices.Clone(a)
	for i := range l {
		l[i] %= p
	}
	return l
}

func check(t *testing.T, name string, got []uint64, e api.Errno, want []uint64) {
	t.Helper()
	if e != api.OK || !slices.Equal(got, want) {
		t.Errorf("%s: %v, %d, want %v, OK", name, got, e, want)
	}
}

func TestP7Forward(t *testing.T) {
	// 2^48 is field.Root(2).
	for _, c := range [][2][]uint64{
		{{9}, {9}},
		{{p + 4}, {4}},
		{{p}, {0}},
		{{math.MaxUint64}, {1<<32 - 2}},
		{{3, 5}, {8, p - 2}},
		{{p + 3, p}, {3, 3}},
		{{1, 0, 0, 0}, {1, 1, 1, 1}},
		{{0, 1, 0, 0}, {1, 1 << 48, p - 1, p - 1<<48}},
		{{0, 0, 0, 1}, {1, p - 1<<48, p - 1, 1 << 48}},
		{{1, 1, 1, 1}, {4, 0, 0, 0}},
	} {
		got, e := Forward(c[0])
		check(t, "Forward", got, e, c[1])
	}
	for _, a := range samples() {
		got, e := Forward(a)
		check(t, "Forward", got, e, wantForward(a))
	}
}

func TestP7Inverse(t *testing.T) {
	for _, c := range [][2][]uint64{
		{{9}, {9}},
		{{p + 4}, {4}},
		{{8, p - 2}, {3, 5}},
		{{1, 1, 1, 1}, {1, 0, 0, 0}},
		{{p + 4, p, 0, p}, {1, 1, 1, 1}},
		{{1, 1 << 48, p - 1, p - 1<<48}, {0, 1, 0, 0}},
	} {
		got, e := Inverse(c[0])
		check(t, "Inverse", got, e, c[1])
	}
	for _, a := range samples() {
		got, e := Inverse(a)
		if e != api.OK {
			t.Errorf("Inverse of %d numbers: error %d", len(a), e)
			continue
		}
		check(t, "the transform of the inverse", wantForward(got), api.OK, rests(a))
	}
}

// Forward and back is what was, and back and forward, too.
func TestP7ForwardAndBack(t *testing.T) {
	for _, a := range samples() {
		there, _ := Forward(a)
		got, e := Inverse(there)
		check(t, "forward and back", got, e, rests(a))
		there, _ = Inverse(a)
		got, e = Forward(there)
		check(t, "back and forward", got, e, rests(a))
	}
}

// Each number that goes in alone comes out as the powers of a root.
func TestP7EachPlace(t *testing.T) {
	for k := range 7 {
		n := 1 << k
		roots := powers(k)
		for at := range n {
			want := make([]uint64, n)
			for j := range want {
				want[j] = product(3, roots[at*j%n])
			}
			got, e := Forward(single(n, at, 3))
			check(t, "one number", got, e, want)
		}
	}
}

func TestP7WrongSizes(t *testing.T) {
	for _, a := range wrong() {
		if got, e := Forward(a); got != nil || e != api.ErrForm {
			t.Errorf("Forward of %d numbers: %d numbers, error %d", len(a), len(got), e)
		}
		if got, e := Inverse(a); got != nil || e != api.ErrForm {
			t.Errorf("Inverse of %d numbers: %d numbers, error %d", len(a), len(got), e)
		}
	}
}

// mirrored reads i's k bits from the other end, as a text.
func mirrored(i, k int) int {
	text := strconv.FormatInt(int64(i+1<<k), 2)[1:]
	turn := []byte("0" + text)
	slices.Reverse(turn[1:])
	n, _ := strconv.ParseInt(string(turn), 2, 64)
	return int(n)
}

func TestP7Order(t *testing.T) {
	for _, c := range [][]int{{0}, {0, 1}, {0, 2, 1, 3}, {0, 4, 2, 6, 1, 5, 3, 7}} {
		k := bits.Len(uint(len(c))) - 1
		if got, e := Order(k); e != api.OK || !slices.Equal(got, c) {
			t.Errorf("Order(%d): %v, %d", k, got, e)
		}
	}
	for k := range api.MaxLog + 1 {
		var want []int
		for i := range 1 << k {
			want = append(want, mirrored(i, k))
		}
		if got, e := Order(k); e != api.OK || !slices.Equal(got, want) {
			t.Errorf("Order(%d): %v, %d", k, got, e)
		}
	}
}

func TestP7OrderWrong(t *testing.T) {
	for _, k := range []int{-1, -2, -64, 11, 12, 32, 63, 64, 65, 1 << 40, math.MinInt, math.MaxInt} {
		if got, e := Order(k); got != nil || e != api.ErrArg {
			t.Errorf("Order(%d): %d numbers, error %d", k, len(got), e)
		}
	}
}

// answers are what both transforms tell of a list.
type answers struct {
	forward, inverse   []uint64
	eForward, eInverse api.Errno
}

func both(a []uint64) answers {
	forward, e := Forward(a)
	inverse, f := Inverse(a)
	return answers{forward, inverse, e, f}
}

func same(x, y answers) bool {
	return slices.Equal(x.forward, y.forward) && slices.Equal(x.inverse, y.inverse) &&
		x.eForward == y.eForward && x.eInverse == y.eInverse
}

// A panic in any of the calls fails the test.
func TestP1AnswersWhateverIsGiven(t *testing.T) {
	for n := range 2200 {
		a := words(n, uint64(n))
		got := both(a)
		for _, x := range append(got.forward, got.inverse...) {
			if x >= p {
				t.Errorf("%d numbers: %d is told", n, x)
			}
		}
	}
	for k := -100; k < 100; k++ {
		Order(k)
	}
}

// spoil writes over a list, its spare room included.
func spoil[T int | uint64](a []T) {
	a = a[:cap(a)]
	for i := range a {
		a[i] = 0xdead
	}
}

// What is handed in stays as it is, the room behind it included, and what is told is written
// over without harm.
func TestP2MemoryOfItsOwn(t *testing.T) {
	for _, a := range append(samples(), wrong()...) {
		whole := append(slices.Clone(a), 11, 12, 13, 14, 15)
		kept := slices.Clone(whole)
		got, again := both(whole[:len(a)]), both(a)
		if !same(got, again) {
			t.Errorf("%d numbers: room behind them makes another answer", len(a))
		}
		spoil(got.forward)
		spoil(got.inverse)
		if !slices.Equal(whole, kept) {
			t.Errorf("%d numbers: what was handed in is changed", len(a))
		}
		if !same(both(a), again) {
			t.Errorf("%d numbers: what was told is kept", len(a))
		}
	}
}

func TestP2OrderMemoryOfItsOwn(t *testing.T) {
	for k := range api.MaxLog + 1 {
		first, _ := Order(k)
		kept := slices.Clone(first)
		spoil(first)
		if got, _ := Order(k); !slices.Equal(got, kept) {
			t.Errorf("Order(%d): what was told is kept", k)
		}
	}
}

// The same lists, gone through from both ends: what came ahead must not be seen in an answer.
func TestP2NothingIsKept(t *testing.T) {
	l := append(samples(), wrong()...)
	var first []answers
	for _, a := range l {
		first = append(first, both(a))
	}
	for i := len(l) - 1; i >= 0; i-- {
		if !same(both(l[i]), first[i]) {
			t.Errorf("%d numbers: another answer", len(l[i]))
		}
	}
}
