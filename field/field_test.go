package field

import (
	"math"
	"math/big"
	"testing"

	"goldmill/api"
)

const p = api.P

// edges are where carries, borrows and the step by P happen.
func edges() []uint64 {
	return []uint64{
		0, 1, 2, 3, 7,
		1<<31 - 1, 1 << 31, 1<<32 - 2, 1<<32 - 1, 1 << 32, 1<<32 + 1,
		1<<63 - 1, 1 << 63, 1<<63 + 1, p / 2, p/2 + 1,
		p - 1<<32, p - 2, p - 1, p, p + 1, p + 5,
		0xffffffff00000000, 0x00000000ffffffff, 0xfffffffeffffffff,
		math.MaxUint64 - 1, math.MaxUint64,
	}
}

// samples are the edges and further words of a fixed rule, spread over all 64 bits.
func samples(n int) []uint64 {
	l := edges()
	x := uint64(1)
	for range n {
		x = x*6364136223846793005 + 1442695040888963407
		l = append(l, x^x>>29)
	}
	return l
}

func wide(a uint64) *big.Int { return new(big.Int).SetUint64(a) }

// rest is the reference: reckoned without any bound, then by P once.
func rest(a *big.Int) uint64 { return new(big.Int).Mod(a, wide(p)).Uint64() }

func TestP3Prime(t *testing.T) {
	want := new(big.Int).Lsh(big.NewInt(1), 64)
	want.Sub(want, new(big.Int).Lsh(big.NewInt(1), 32))
	want.Add(want, big.NewInt(1))
	if wide(p).Cmp(want) != 0 || !want.ProbablyPrime(20) {
		t.Error("api.P is not the prime", p)
	}
}

func TestP3Norm(t *testing.T) {
	for _, c := range [][2]uint64{{0, 0}, {1, 1}, {p - 1, p - 1}, {p, 0}, {p + 1, 1}, {p + 5, 5}, {math.MaxUint64, 1<<32 - 2}} {
		if got := Norm(c[0]); got != c[1] {
			t.Errorf("Norm(%d) = %d, want %d", c[0], got, c[1])
		}
	}
	for _, a := range samples(2000) {
		if got, want := Norm(a), rest(wide(a)); got != want {
			t.Errorf("Norm(%d) = %d, want %d", a, got, want)
		}
	}
}

func TestP3Known(t *testing.T) {
	for _, c := range []struct {
		name      string
		got, want uint64
	}{
		{"sum of two halves", Add(1<<63, 1<<63), 1<<32 - 1},
		{"sum past P", Add(p-1, 3), 2},
		{"sum that is P", Add(p-1, 1), 0},
		{"sum of great words", Add(math.MaxUint64, math.MaxUint64), 1<<33 - 4},
		{"difference below 0", Sub(3, 5), p - 2},
		{"difference of 0 and P", Sub(0, p), 0},
		{"difference of P and 1", Sub(p, 1), p - 1},
		{"2^32 times 2^32", Mul(1<<32, 1<<32), 1<<32 - 1},
		{"2^48 times 2^48", Mul(1<<48, 1<<48), p - 1},
		{"-1 times -1", Mul(p-1, p-1), 1},
		{"0 times all", Mul(p, math.MaxUint64), 0},
	} {
		if c.got != c.want {
			t.Errorf("%s: %d, want %d", c.name, c.got, c.want)
		}
	}
}

func checkPair(t *testing.T, a, b uint64) {
	t.Helper()
	x, y := wide(a), wide(b)
	if got, want := Add(a, b), rest(new(big.Int).Add(x, y)); got != want {
		t.Errorf("Add(%d, %d) = %d, want %d", a, b, got, want)
	}
	if got, want := Sub(a, b), rest(new(big.Int).Sub(x, y)); got != want {
		t.Errorf("Sub(%d, %d) = %d, want %d", a, b, got, want)
	}
	if got, want := Mul(a, b), rest(new(big.Int).Mul(x, y)); got != want {
		t.Errorf("Mul(%d, %d) = %d, want %d", a, b, got, want)
	}
}

func TestP3Pairs(t *testing.T) {
	l := samples(250)
	for _, a := range l {
		for _, b := range l {
			checkPair(t, a, b)
		}
	}
}

// Halves of the product that make Mul's parts meet 0, P and the bounds of a word.
func TestP3MulParts(t *testing.T) {
	for i := range 64 {
		for j := range 64 {
			a, b := uint64(1)<<i, uint64(1)<<j
			for _, c := range [][2]uint64{{a, b}, {a - 1, b}, {a - 1, b - 1}, {-a, b}, {-a, -b}, {p - a, b}, {p - a, p - b}} {
				checkPair(t, c[0], c[1])
			}
		}
	}
}

func TestP3Pow(t *testing.T) {
	for _, a := range edges() {
		if got := Pow(a, 0); got != 1 {
			t.Errorf("Pow(%d, 0) = %d, want 1", a, got)
		}
		product := uint64(1)
		for n := range uint64(40) {
			if got := Pow(a, n); got != product {
				t.Errorf("Pow(%d, %d) = %d, want %d", a, n, got, product)
			}
			product = rest(new(big.Int).Mul(wide(product), wide(a)))
		}
	}
	if got := Pow(2, 96); got != p-1 {
		t.Errorf("Pow(2, 96) = %d, want -1", got)
	}
	if got := Pow(p, 5); got != 0 {
		t.Errorf("Pow(P, 5) = %d, want 0", got)
	}
}

// The exponent is a whole word: it's not a number by P.
func TestP3PowGreat(t *testing.T) {
	l := samples(60)
	for _, a := range l {
		for _, n := range l {
			want := new(big.Int).Exp(wide(a), wide(n), wide(p)).Uint64()
			if got := Pow(a, n); got != want {
				t.Errorf("Pow(%d, %d) = %d, want %d", a, n, got, want)
			}
		}
	}
}

func TestP3Inv(t *testing.T) {
	for _, a := range []uint64{0, p} {
		if x, e := Inv(a); x != 0 || e != api.ErrNone {
			t.Errorf("Inv(%d) = %d, %d, want 0, ErrNone", a, x, e)
		}
	}
	for _, c := range [][2]uint64{{1, 1}, {p + 1, 1}, {2, (p + 1) / 2}, {p - 1, p - 1}, {1 << 48, p - 1<<48}} {
		if x, e := Inv(c[0]); x != c[1] || e != api.OK {
			t.Errorf("Inv(%d) = %d, %d, want %d, OK", c[0], x, e, c[1])
		}
	}
	for _, a := range samples(1000) {
		if a%p == 0 {
			continue
		}
		want := new(big.Int).ModInverse(wide(a), wide(p)).Uint64()
		if x, e := Inv(a); x != want || e != api.OK {
			t.Errorf("Inv(%d) = %d, %d, want %d, OK", a, x, e, want)
		}
	}
}

func TestP4Root(t *testing.T) {
	if x, e := Root(0); x != 1 || e != api.OK {
		t.Errorf("Root(0) = %d, %d, want 1, OK", x, e)
	}
	if x, e := Root(1); x != p-1 || e != api.OK {
		t.Errorf("Root(1) = %d, %d, want -1, OK", x, e)
	}
	for k := range 33 {
		x, e := Root(k)
		power := new(big.Int).Rsh(wide(p-1), uint(k))
		want := new(big.Int).Exp(big.NewInt(7), power, wide(p)).Uint64()
		if x != want || e != api.OK {
			t.Errorf("Root(%d) = %d, %d, want %d, OK", k, x, e, want)
		}
		if got := Pow(x, 1<<k); got != 1 {
			t.Errorf("Root(%d): its 2^k-th power is %d", k, got)
		}
		if k == 0 {
			continue
		}
		if got := Pow(x, 1<<(k-1)); got != p-1 {
			t.Errorf("Root(%d): its 2^(k-1)-th power is %d", k, got)
		}
	}
}

func TestP4RootWrong(t *testing.T) {
	for _, k := range []int{-1, -2, -32, -64, 33, 34, 63, 64, 65, 1 << 32, math.MaxInt, math.MinInt} {
		if x, e := Root(k); x != 0 || e != api.ErrArg {
			t.Errorf("Root(%d) = %d, %d, want 0, ErrArg", k, x, e)
		}
	}
}

// answers are those of all calls of the chapter to one pair of words, errors included.
func answers(a, b uint64) [11]uint64 {
	inv, e := Inv(a)
	root, f := Root(int(b))
	low, g := Root(int(b % 40))
	return [11]uint64{Norm(a), Add(a, b), Sub(a, b), Mul(a, b), Pow(a, b), inv, uint64(e), root, uint64(f), low, uint64(g)}
}

// numbers are those of answers that are numbers by P.
func numbers(l [11]uint64) []uint64 {
	return []uint64{l[0], l[1], l[2], l[3], l[4], l[5], l[7], l[9]}
}

// A panic in any of the calls fails the test.
func TestP1AnswersWhateverIsGiven(t *testing.T) {
	l := samples(100)
	for _, a := range l {
		for _, b := range l {
			for i, x := range numbers(answers(a, b)) {
				if x >= p {
					t.Errorf("number %d of %d, %d is %d: not below P", i, a, b, x)
				}
			}
		}
	}
}

// The same pairs, gone through from both ends: what came ahead must not be seen in an answer.
func TestP2NothingIsKept(t *testing.T) {
	l := samples(50)
	first := make([][11]uint64, 0, len(l)*len(l))
	for _, a := range l {
		for _, b := range l {
			first = append(first, answers(a, b))
		}
	}
	for i := len(l) - 1; i >= 0; i-- {
		for j := len(l) - 1; j >= 0; j-- {
			if got := answers(l[i], l[j]); got != first[i*len(l)+j] {
				t.Errorf("%d, %d: %v, then %v", l[i], l[j], first[i*len(l)+j], got)
			}
		}
	}
}

// With an error that is not OK every other result is its zero value.
func TestP2ErrorsTellNothingElse(t *testing.T) {
	for _, a := range samples(200) {
		if x, e := Inv(a); e != api.OK && x != 0 || (e == api.OK) == (a%p == 0) {
			t.Errorf("Inv(%d) = %d, %d", a, x, e)
		}
		if x, e := Root(int(a)); e != api.OK && x != 0 || (e == api.OK) != (a <= 32) {
			t.Errorf("Root(%d) = %d, %d", int(a), x, e)
		}
	}
}
