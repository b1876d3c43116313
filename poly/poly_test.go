package poly

import (
	"math"
	"math/big"
	"slices"
	"testing"

	"goldmill/api"
)

const p = api.P

// words are n words of a fixed rule, spread over all 64 bits.
func words(n int, seed uint64) []uint64 {
	l := make([]uint64, n)
	x := seed
	for i := range l {
		x = x*6364136223846793005 + 1442695040888963407
		l[i] = x ^ x>>29
	}
	return l
}

// full is a list of n numbers of which none is 0.
func full(n int) []uint64 {
	l := words(n, uint64(n))
	for i := range l {
		l[i] = l[i]%(p-1) + 1
	}
	return l
}

// samples are polynomials of many sizes and forms: zeros, numbers from P on, zeros at their end.
func samples() [][]uint64 {
	l := [][]uint64{
		nil, {}, {0}, {p}, {0, p, 0}, {1}, {p - 1}, {p + 1}, {math.MaxUint64},
		{0, 1}, {1, 0}, {p, 1, p}, {0, 0, 0, 7}, {5, 0, 0, 0}, {p - 1, p - 1, p - 1},
		{math.MaxUint64, math.MaxUint64}, {1 << 32, 1 << 48, 1 << 63}, {1, 2, 3}, {4, 5, p - 3},
	}
	for _, n := range []int{1, 2, 3, 5, 8, 20, 40} {
		l = append(l, words(n, uint64(n)), append(words(n, 99), 0, p, 0), full(n))
	}
	return l
}

func wide(a uint64) *big.Int { return new(big.Int).SetUint64(a) }

func rest(a *big.Int) uint64 { return new(big.Int).Mod(a, wide(p)).Uint64() }

// told is what a list of wide numbers is, told as a normal polynomial.
func told(l []*big.Int) []uint64 {
	var out []uint64
	for _, x := range l {
		out = append(out, rest(x))
	}
	for len(out) > 0 && out[len(out)-1] == 0 {
		out = out[:len(out)-1]
	}
	return out
}

func zeros(n int) []*big.Int {
	l := make([]*big.Int, n)
	for i := range l {
		l[i] = new(big.Int)
	}
	return l
}

func wantNorm(a []uint64) []uint64 {
	l := zeros(len(a))
	for i, x := range a {
		l[i] = wide(x)
	}
	return told(l)
}

func wantSum(a, b []uint64) []uint64 {
	l := zeros(max(len(a), len(b)))
	for i, x := range a {
		l[i].Add(l[i], wide(x))
	}
	for i, x := range b {
		l[i].Add(l[i], wide(x))
	}
	return told(l)
}

func wantProduct(a, b []uint64) []uint64 {
	l := zeros(len(a) + len(b))
	for i, x := range a {
		for j, y := range b {
			l[i+j].Add(l[i+j], new(big.Int).Mul(wide(x), wide(y)))
		}
	}
	return told(l)
}

// wantValue sums powers one by one, from the first number on.
func wantValue(a []uint64, x uint64) uint64 {
	sum, power := new(big.Int), big.NewInt(1)
	for _, c := range a {
		sum.Add(sum, new(big.Int).Mul(wide(c), power))
		power = wide(rest(new(big.Int).Mul(power, wide(x))))
	}
	return rest(sum)
}

func isNormal(a []uint64) bool {
	for _, x := range a {
		if x >= p {
			return false
		}
	}
	return len(a) == 0 || a[len(a)-1] != 0
}

func check(t *testing.T, name string, got []uint64, e api.Errno, want []uint64) {
	t.Helper()
	if e != api.OK || !slices.Equal(got, want) {
		t.Errorf("%s: %v, %d, want %v, OK", name, got, e, want)
	}
}

func checkError(t *testing.T, name string, got []uint64, e, want api.Errno) {
	t.Helper()
	if got != nil || e != want {
		t.Errorf("%s: %d numbers, error %d, want no list, error %d", name, len(got), e, want)
	}
}

func TestP5Norm(t *testing.T) {
	got, e := Norm([]uint64{p + 1, 0, 5, p, 0})
	check(t, "numbers from P on", got, e, []uint64{1, 0, 5})
	got, e = Norm([]uint64{0, p, 0})
	check(t, "0", got, e, nil)
	got, e = Norm(nil)
	check(t, "no number", got, e, nil)
	got, e = Norm([]uint64{math.MaxUint64, p - 1})
	check(t, "great words", got, e, []uint64{1<<32 - 2, p - 1})
	for _, a := range samples() {
		got, e = Norm(a)
		check(t, "Norm", got, e, wantNorm(a))
	}
}

func TestP5Add(t *testing.T) {
	got, e := Add([]uint64{1, 2, 3}, []uint64{4, 5, p - 3})
	check(t, "the last falls away", got, e, []uint64{5, 7})
	got, e = Add([]uint64{1, 2}, []uint64{p - 1, p - 2})
	check(t, "all fall away", got, e, nil)
	got, e = Add([]uint64{1, p}, []uint64{math.MaxUint64, 0, p})
	check(t, "great words", got, e, []uint64{1<<32 - 1})
	for _, a := range samples() {
		for _, b := range samples() {
			got, e = Add(a, b)
			check(t, "Add", got, e, wantSum(a, b))
		}
	}
}

func TestP5Mul(t *testing.T) {
	got, e := Mul([]uint64{1, 1}, []uint64{p - 1, 1})
	check(t, "1 and x, -1 and x", got, e, []uint64{p - 1, 0, 1})
	got, e = Mul([]uint64{0, p}, []uint64{1, 2, 3})
	check(t, "0 times", got, e, nil)
	got, e = Mul([]uint64{1, 2, 3}, nil)
	check(t, "times 0", got, e, nil)
	for _, a := range samples() {
		for _, b := range samples() {
			got, e = Mul(a, b)
			check(t, "Mul", got, e, wantProduct(a, b))
		}
	}
}

func TestP5MulGreatest(t *testing.T) {
	a, b := full(1024), full(1025)
	got, e := Mul(a, b)
	if e != api.OK || len(got) != api.MaxPoly || !isNormal(got) {
		t.Fatalf("%d numbers, error %d", len(got), e)
	}
	for _, x := range []uint64{0, 1, 2, p - 1, 1 << 40} {
		want := rest(new(big.Int).Mul(wide(wantValue(a, x)), wide(wantValue(b, x))))
		if wantValue(got, x) != want {
			t.Errorf("the product is wrong at %d", x)
		}
	}
	got, e = Mul([]uint64{1}, full(2048))
	check(t, "2048 numbers times 1", got, e, full(2048))
}

func TestP5MulTooLarge(t *testing.T) {
	got, e := Mul(full(1025), full(1025))
	checkError(t, "2049 numbers", got, e, api.ErrLarge)
	got, e = Mul([]uint64{0, 1}, full(2048))
	checkError(t, "2048 numbers times x", got, e, api.ErrLarge)
	got, e = Mul(full(2048), full(2048))
	checkError(t, "4095 numbers", got, e, api.ErrLarge)
}

// Zeros at the end are no reason for ErrLarge: both are made normal first.
func TestP5MulNormalFirst(t *testing.T) {
	long := make([]uint64, 2048)
	long[0], long[2047] = 3, p
	got, e := Mul(long, long)
	check(t, "3 times 3", got, e, []uint64{9})
	got, e = Mul(make([]uint64, 2048), full(2048))
	check(t, "0 times 2048 numbers", got, e, nil)
	got, e = Mul(full(2048), long)
	if e != api.OK || len(got) != 2048 {
		t.Errorf("2048 numbers times 3: %d numbers, error %d", len(got), e)
	}
}

func TestP5Eval(t *testing.T) {
	for _, c := range []struct {
		a       []uint64
		x, want uint64
	}{
		{[]uint64{7, 0, 2}, 3, 25},
		{nil, 5, 0},
		{[]uint64{9}, 0, 9},
		{[]uint64{9, 4}, p, 9},
		{[]uint64{p + 2, p + 1, p}, p + 3, 5},
		{[]uint64{0, 0, 1}, 1 << 32, 1<<32 - 1},
		{[]uint64{1, 1, 1}, p - 1, 1},
	} {
		if got, e := Eval(c.a, c.x); got != c.want || e != api.OK {
			t.Errorf("Eval(%v, %d) = %d, %d, want %d, OK", c.a, c.x, got, e, c.want)
		}
	}
	points := append([]uint64{0, 1, 2, p - 1, p, p + 1, math.MaxUint64}, words(10, 3)...)
	for _, a := range append(samples(), full(2048), words(2048, 5)) {
		for _, x := range points {
			if got, e := Eval(a, x); got != wantValue(a, x) || e != api.OK {
				t.Errorf("Eval of %d numbers at %d: %d, %d", len(a), x, got, e)
			}
		}
	}
}

func checkDiv(t *testing.T, a, b []uint64) {
	t.Helper()
	q, r, e := Div(a, b)
	by := wantNorm(b)
	if len(by) == 0 {
		if q != nil || r != nil || e != api.ErrNone {
			t.Errorf("Div(%v, %v): %v, %v, %d, want ErrNone alone", a, b, q, r, e)
		}
		return
	}
	if e != api.OK || !isNormal(q) || !isNormal(r) || len(r) >= len(by) {
		t.Errorf("Div(%v, %v): %v, %v, %d", a, b, q, r, e)
		return
	}
	if !slices.Equal(wantSum(wantProduct(q, b), r), wantNorm(a)) {
		t.Errorf("Div(%v, %v): %v, %v do not make it", a, b, q, r)
	}
}

func TestP5Div(t *testing.T) {
	q, r, e := Div([]uint64{5, 3, 0, 2}, []uint64{p - 1, 1})
	if !slices.Equal(q, []uint64{5, 2, 2}) || !slices.Equal(r, []uint64{10}) || e != api.OK {
		t.Errorf("by x - 1: %v, %v, %d", q, r, e)
	}
	q, r, e = Div([]uint64{1, 2}, []uint64{0, 0, 1})
	if len(q) != 0 || !slices.Equal(r, []uint64{1, 2}) || e != api.OK {
		t.Errorf("by a longer one: %v, %v, %d", q, r, e)
	}
	q, r, e = Div([]uint64{4, p, 6}, []uint64{p + 2, p, 0})
	if !slices.Equal(q, []uint64{2, 0, 3}) || len(r) != 0 || e != api.OK {
		t.Errorf("by 2, not normal: %v, %v, %d", q, r, e)
	}
	q, r, e = Div([]uint64{0, p}, []uint64{3, 1})
	if len(q) != 0 || len(r) != 0 || e != api.OK {
		t.Errorf("0 by 3 and x: %v, %v, %d", q, r, e)
	}
	for _, a := range samples() {
		for _, b := range samples() {
			checkDiv(t, a, b)
		}
	}
}

func TestP5DivGreatest(t *testing.T) {
	checkDiv(t, full(2048), full(1024))
	checkDiv(t, full(2048), full(2048))
	checkDiv(t, full(2047), full(2048))
	checkDiv(t, full(2048), []uint64{p - 3})
	checkDiv(t, full(2048), make([]uint64, 2048))
}

// A product is divided without a rest.
func TestP5DivOfProduct(t *testing.T) {
	for _, a := range samples() {
		for _, b := range samples() {
			if len(wantNorm(b)) == 0 {
				continue
			}
			product, _ := Mul(a, b)
			q, r, e := Div(product, b)
			if e != api.OK || len(r) != 0 || !slices.Equal(q, wantNorm(a)) {
				t.Errorf("%v times %v, by it: %v, %v, %d", a, b, q, r, e)
			}
		}
	}
}

// The size of what is handed in counts, zeros at its end included, ahead of all other errors.
func TestP5TooLarge(t *testing.T) {
	ok, one := make([]uint64, 2048), []uint64{1}
	for _, long := range [][]uint64{make([]uint64, 2049), full(2049), make([]uint64, 5000)} {
		got, e := Norm(long)
		checkError(t, "Norm", got, e, api.ErrLarge)
		if x, e := Eval(long, 1); x != 0 || e != api.ErrLarge {
			t.Errorf("Eval: %d, %d", x, e)
		}
		for _, pair := range [][2][]uint64{{long, one}, {one, long}, {long, nil}, {nil, long}, {long, ok}, {ok, long}, {long, long}} {
			got, e = Add(pair[0], pair[1])
			checkError(t, "Add", got, e, api.ErrLarge)
			got, e = Mul(pair[0], pair[1])
			checkError(t, "Mul", got, e, api.ErrLarge)
			q, r, e := Div(pair[0], pair[1])
			checkError(t, "Div, the quotient", q, e, api.ErrLarge)
			checkError(t, "Div, the rest", r, e, api.ErrLarge)
			got, e = Through(pair[0], pair[1])
			checkError(t, "Through", got, e, api.ErrLarge)
		}
	}
	got, e := Norm(ok)
	check(t, "2048 zeros", got, e, nil)
	got, e = Norm(full(2048))
	check(t, "2048 numbers", got, e, full(2048))
	got, e = Add(full(2048), ok)
	check(t, "2048 numbers and 0", got, e, full(2048))
}

func checkThrough(t *testing.T, xs, ys []uint64) {
	t.Helper()
	got, e := Through(xs, ys)
	if e != api.OK || len(got) > len(xs) || !isNormal(got) {
		t.Errorf("Through(%v, %v): %v, %d", xs, ys, got, e)
		return
	}
	for i, x := range xs {
		if wantValue(got, x) != ys[i]%p {
			t.Errorf("Through(%v, %v): %v is not %d at %d", xs, ys, got, ys[i], x)
		}
	}
}

func TestP6Through(t *testing.T) {
	for _, c := range [][3][]uint64{
		{{0, 1}, {5, 7}, {5, 2}},
		{{1, 2, 3}, {1, 4, 9}, {0, 0, 1}},
		{{3, 1, 2}, {9, 1, 4}, {0, 0, 1}},
		{{p - 1, 0, 1}, {p - 1, 0, 1}, {0, 1}},
		{{4, 5, 6}, {8, p + 8, 8}, {8}},
		{{4, 5, 6}, {0, p, 0}, nil},
		{{p}, {math.MaxUint64}, {1<<32 - 2}},
		{nil, nil, nil},
		{{}, nil, nil},
	} {
		got, e := Through(c[0], c[1])
		check(t, "Through", got, e, c[2])
	}
	for n := range 30 {
		checkThrough(t, words(n, 11), words(n, 12))
	}
}

func TestP6ThroughGreatest(t *testing.T) {
	checkThrough(t, words(128, 21), words(128, 22))
	xs, ys := words(129, 21), words(129, 22)
	got, e := Through(xs, ys)
	checkError(t, "129 points", got, e, api.ErrForm)
	got, e = Through(full(2048), full(2048))
	checkError(t, "2048 points", got, e, api.ErrForm)
}

// What has at most as many numbers as there are points is told by its values.
func TestP6ThroughTellsThePolynomial(t *testing.T) {
	for _, n := range []int{1, 2, 5, 17, 64, 128} {
		a, xs := full(n), words(n, uint64(n)+7)
		ys := make([]uint64, n)
		for i, x := range xs {
			ys[i] = wantValue(a, x)
		}
		got, e := Through(xs, ys)
		check(t, "its values", got, e, a)
	}
}

func TestP6ThroughWrong(t *testing.T) {
	for _, c := range [][2][]uint64{
		{{1, 2}, {1}},
		{{1}, {1, 2}},
		{nil, {1}},
		{{1}, nil},
		{{1, 1}, {1, 1}},
		{{1, p + 1}, {1, 1}},
		{{0, 5, p}, {1, 2, 1}},
		{{3, 4, 5, 4}, {1, 2, 3, 4}},
		{{math.MaxUint64, 1<<32 - 2}, {0, 0}},
		{full(128), full(127)},
		{full(2048), full(3)},
	} {
		got, e := Through(c[0], c[1])
		checkError(t, "Through", got, e, api.ErrForm)
	}
	xs := words(128, 31)
	xs[127] = xs[0]
	got, e := Through(xs, words(128, 32))
	checkError(t, "the last point is the first", got, e, api.ErrForm)
}

// answer is all that a call tells: its lists, a number, and its error.
type answer struct {
	lists [][]uint64
	value uint64
	err   api.Errno
}

// calls are all calls of the chapter that have two lists, or can be given the first of them.
func calls(a, b []uint64) []answer {
	norm, e0 := Norm(a)
	sum, e1 := Add(a, b)
	product, e2 := Mul(a, b)
	value, e3 := Eval(a, uint64(len(b)))
	q, r, e4 := Div(a, b)
	through, e5 := Through(a, b)
	return []answer{
		{[][]uint64{norm}, 0, e0}, {[][]uint64{sum}, 0, e1}, {[][]uint64{product}, 0, e2},
		{nil, value, e3}, {[][]uint64{q, r}, 0, e4}, {[][]uint64{through}, 0, e5},
	}
}

func sameAnswers(a, b []answer) bool {
	return slices.EqualFunc(a, b, func(x, y answer) bool {
		return x.value == y.value && x.err == y.err && slices.EqualFunc(x.lists, y.lists, slices.Equal)
	})
}

// A panic in any of the calls fails the test.
func TestP1AnswersWhateverIsGiven(t *testing.T) {
	l := append(samples(), full(128), full(129), make([]uint64, 2048), make([]uint64, 2049))
	for _, a := range l {
		for _, b := range l {
			for i, got := range calls(a, b) {
				for _, list := range got.lists {
					if !isNormal(list) || got.err != api.OK && list != nil {
						t.Errorf("call %d of %v, %v: %v", i, a, b, got)
					}
				}
				if got.value >= p || got.err != api.OK && got.value != 0 {
					t.Errorf("call %d of %v, %v: %v", i, a, b, got)
				}
			}
		}
	}
}

// roomy is a, with room behind it that is not to be touched.
func roomy(a []uint64) (list, whole []uint64) {
	whole = append(slices.Clone(a), 11, 12, 13, 14, 15)
	return whole[:len(a)], whole
}

// spoil writes over a list, its spare room included.
func spoil(a []uint64) {
	a = a[:cap(a)]
	for i := range a {
		a[i] = 0xdead
	}
}

// What is handed in stays as it is, and lists that are told share no memory with it or with
// each other.
func TestP2MemoryOfItsOwn(t *testing.T) {
	for _, a := range samples() {
		for _, b := range samples() {
			x, wholeX := roomy(a)
			y, wholeY := roomy(b)
			keptX, keptY := slices.Clone(wholeX), slices.Clone(wholeY)
			first, again := calls(x, y), calls(a, b)
			for i, got := range first {
				for j, list := range got.lists {
					spoil(list)
					for k := j + 1; k < len(got.lists); k++ {
						if !slices.Equal(got.lists[k], again[i].lists[k]) {
							t.Errorf("call %d of %v, %v: lists %d and %d share memory", i, a, b, j, k)
						}
					}
				}
			}
			if !slices.Equal(wholeX, keptX) || !slices.Equal(wholeY, keptY) {
				t.Errorf("%v, %v: what was handed in is changed", a, b)
			}
			if !sameAnswers(calls(a, b), again) {
				t.Errorf("%v, %v: what was told is kept", a, b)
			}
		}
	}
}

// One list for both places: what is told must not hang on that.
func TestP2OneListTwice(t *testing.T) {
	for _, a := range samples() {
		x, whole := roomy(a)
		kept := slices.Clone(whole)
		if !sameAnswers(calls(x, x), calls(a, slices.Clone(a))) {
			t.Errorf("%v twice: another answer", a)
		}
		if !slices.Equal(whole, kept) {
			t.Errorf("%v twice: what was handed in is changed", a)
		}
	}
}

// The same pairs, gone through from both ends: what came ahead must not be seen in an answer.
func TestP2NothingIsKept(t *testing.T) {
	l := samples()
	var first [][]answer
	for _, a := range l {
		for _, b := range l {
			first = append(first, calls(a, b))
		}
	}
	for i := len(l) - 1; i >= 0; i-- {
		for j := len(l) - 1; j >= 0; j-- {
			if !sameAnswers(calls(l[i], l[j]), first[i*len(l)+j]) {
				t.Errorf("%v, %v: another answer", l[i], l[j])
			}
		}
	}
}
