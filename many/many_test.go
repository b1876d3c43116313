package many

import (
	"fmt"
	"math"
	"math/big"
	"math/bits"
	"slices"
	"testing"

	"goldmill/api"
	"goldmill/conv"
	"goldmill/ntt"
)

const p = api.P

// words are n words of a fixed rule, spread over all 64 bits.
func words(n int, seed uint64) []uint64 {
	l := make([]uint64, n)
	x := seed
	for i := range l {
		x = x*6364136223846793005 + 1442695040888963407
		l[i] = x ^ x>>29
	}
	return l
}

func filled(n int, x uint64) []uint64 {
	return slices.Repeat([]uint64{x}, n)
}

// single is a list of n numbers, all 0 but the one at a place.
func single(n, at int, x uint64) []uint64 {
	l := make([]uint64, n)
	l[at] = x
	return l
}

func product(a, b uint64) uint64 {
	hi, lo := bits.Mul64(a, b)
	return bits.Rem64(hi, lo, p)
}

func sum(a, b uint64) uint64 {
	lo, hi := bits.Add64(a, b, 0)
	return bits.Rem64(hi, lo, p)
}

func rests(a []uint64) []uint64 {
	l := slices.Clone(a)
	for i := range l {
		l[i] %= p
	}
	return l
}

func sizeOf(shape []int) int {
	n := 1
	for _, d := range shape {
		n *= d
	}
	return n
}

// shapes are all of those whose arrays have at most so many numbers.
func shapes(most int) [][]int {
	var l [][]int
	for x := 1; x <= most; x *= 2 {
		l = append(l, []int{x})
		for y := 1; x*y <= most; y *= 2 {
			l = append(l, []int{x, y})
			for z := 1; x*y*z <= most; z *= 2 {
				l = append(l, []int{x, y, z})
			}
		}
	}
	return l
}

// few are shapes of all numbers of axes, the greatest ones among them.
func few() [][]int {
	return append(shapes(16), []int{1024}, []int{1024, 1}, []int{1, 1024}, []int{32, 32}, []int{2, 512},
		[]int{256, 4}, []int{1024, 1, 1}, []int{1, 1024, 1}, []int{1, 1, 1024}, []int{8, 16, 8}, []int{4, 2, 128},
		[]int{64, 8, 2}, []int{2, 256, 2}, []int{4, 8, 16})
}

// noShapes are those for which Check tells ErrArg.
func noShapes() [][]int {
	l := [][]int{
		nil, {}, {1, 1, 1, 1}, {2, 2, 2, 2}, {2, 2, 2, 2, 2}, {1024, 1024, 1024, 1024}, make([]int, 5000),
		{0, 0}, {0, 0, 0}, {3, 3, 3}, {-1, -1}, {-2, -2}, {-4, 4, -4}, {2, 3}, {6, 7, 5},
		// Great ones, too: what is no power of two is told first, wherever it stands.
		{2048, 3}, {3, 2048}, {1024, 1024, 0}, {0, 1024, 1024}, {1 << 62, 1 << 62, 5}, {1 << 40, -1, 1 << 40},
		{2048, 1, 1, 1},
	}
	for _, d := range []int{
		0, -1, -2, -4, -1024, 3, 5, 6, 7, 9, 12, 1000, 1023, 1025, 1536, 2047, 2049,
		1<<32 + 1, 1<<62 - 1, 1<<62 + 1, 3 << 61, math.MaxInt, math.MaxInt - 1, math.MinInt, math.MinInt + 1,
	} {
		l = append(l, []int{d}, []int{d, 2}, []int{2, d}, []int{d, 1, 1}, []int{1, d, 4}, []int{8, 2, d})
	}
	return l
}

// largeShapes are those for which Check tells ErrLarge.
func largeShapes() [][]int {
	return [][]int{
		{2048}, {4096}, {1 << 20}, {1 << 32}, {1 << 62},
		{64, 32}, {32, 64}, {1024, 2}, {2, 1024}, {2048, 1}, {1, 2048}, {512, 4}, {1024, 1024},
		{1024, 2, 1}, {1024, 1, 2}, {1, 1024, 2}, {2, 1, 1024}, {16, 16, 8}, {8, 8, 32}, {1, 1, 2048}, {1024, 1024, 1024},
		// Products that are 0, or small, in a word.
		{1 << 32, 1 << 32}, {1 << 62, 4}, {4, 1 << 62}, {1 << 62, 1 << 62}, {1 << 62, 2, 2}, {2, 1 << 62, 2},
		{2, 2, 1 << 62}, {1 << 31, 1 << 31, 4}, {1 << 62, 1 << 62, 1 << 62}, {1 << 22, 1 << 21, 1 << 21}, {1 << 62, 1, 1},
	}
}

// wrongAxes are those that a shape of so many axes doesn't have.
func wrongAxes(axes int) []int {
	return []int{axes, axes + 1, 4, 64, 1 << 32, math.MaxInt, -1, -2, -axes, -64, math.MinInt}
}

// wrongSizes are those that no array of that size has.
func wrongSizes(size int) []int {
	l := []int{0, size - 1, size + 1, 2 * size, size / 2, 1024, 1025, 5000}
	return slices.DeleteFunc(l, func(n int) bool { return n == size })
}

// arrays are some of a size, in many forms: zeros, numbers from P on, single numbers, and words
// of all kinds.
func arrays(n int) [][]uint64 {
	return [][]uint64{
		words(n, uint64(n)), words(n, 99), make([]uint64, n), filled(n, p), filled(n, p-1),
		filled(n, math.MaxUint64), single(n, 0, 1), single(n, n-1, p-1), single(n, n/2, math.MaxUint64),
	}
}

// placesOf are those of a number of an array: the last place goes on first.
func placesOf(shape []int, number int) []int {
	l := make([]int, len(shape))
	for i := len(shape) - 1; i >= 0; i-- {
		l[i] = number % shape[i]
		number /= shape[i]
	}
	return l
}

func numberOf(shape, places []int) int {
	n := 0
	for i, d := range shape {
		n = n*d + places[i]
	}
	return n
}

// wantLines goes through the numbers of the array, and lays each in the line that the places of
// the other axes make.
func wantLines(shape []int, axis int) [][]int {
	others := slices.Delete(slices.Clone(shape), axis, axis+1)
	l := make([][]int, sizeOf(others))
	for number := range sizeOf(shape) {
		places := placesOf(shape, number)
		line := numberOf(others, slices.Delete(places, axis, axis+1))
		l[line] = append(l[line], number)
	}
	return l
}

func wantAlong(shape []int, a []uint64, axis int, back bool) []uint64 {
	l := make([]uint64, len(a))
	for _, numbers := range wantLines(shape, axis) {
		var line []uint64
		for _, number := range numbers {
			line = append(line, a[number])
		}
		if back {
			line, _ = ntt.Inverse(line)
		} else {
			line, _ = ntt.Forward(line)
		}
		for i, number := range numbers {
			l[number] = line[i]
		}
	}
	return l
}

// power is that of field.Root(k), told by numbers without a bound.
func power(k, n int) uint64 {
	prime := new(big.Int).SetUint64(p)
	exponent := new(big.Int).SetUint64((p - 1) >> k)
	exponent.Mul(exponent, big.NewInt(int64(n)))
	return new(big.Int).Exp(big.NewInt(7), exponent, prime).Uint64()
}

// wantForward sums over all places at once, with a power of a root of each axis.
func wantForward(shape []int, a []uint64) []uint64 {
	l := make([]uint64, len(a))
	for j := range l {
		to := placesOf(shape, j)
		for i, x := range a {
			for axis, place := range placesOf(shape, i) {
				d := shape[axis]
				x = product(x, power(bits.Len(uint(d))-1, place*to[axis]%d))
			}
			l[j] = sum(l[j], x)
		}
	}
	return l
}

// wantCyclic sums number by number, as the promise tells it.
func wantCyclic(shape []int, a, b []uint64) []uint64 {
	l := make([]uint64, len(a))
	var places [][]int
	for i := range a {
		places = append(places, placesOf(shape, i))
	}
	to := make([]int, len(shape))
	for i, x := range a {
		for j, y := range b {
			for axis, d := range shape {
				to[axis] = (places[i][axis] + places[j][axis]) % d
			}
			k := numberOf(shape, to)
			l[k] = sum(l[k], product(x, y))
		}
	}
	return l
}

func check(t *testing.T, name string, shape []int, got []uint64, e api.Errno, want []uint64) {
	t.Helper()
	if e != api.OK || !slices.Equal(got, want) {
		t.Errorf("%s of %v: %v, %d, want %v, OK", name, shape, got, e, want)
	}
}

func TestP9Check(t *testing.T) {
	all := shapes(api.MaxSize)
	if len(all) != 11+66+286 {
		t.Error("not all shapes:", len(all))
	}
	for _, shape := range all {
		if n, e := Check(shape); n != sizeOf(shape) || e != api.OK {
			t.Errorf("Check(%v) = %d, %d, want %d, OK", shape, n, e, sizeOf(shape))
		}
	}
}

func TestP9CheckWrong(t *testing.T) {
	for _, shape := range noShapes() {
		if n, e := Check(shape); n != 0 || e != api.ErrArg {
			t.Errorf("Check(%v) = %d, %d, want 0, ErrArg", shape, n, e)
		}
	}
	for _, shape := range largeShapes() {
		if n, e := Check(shape); n != 0 || e != api.ErrLarge {
			t.Errorf("Check(%v) = %d, %d, want 0, ErrLarge", shape, n, e)
		}
	}
}

func TestP9LinesKnown(t *testing.T) {
	for _, c := range []struct {
		shape []int
		axis  int
		want  [][]int
	}{
		{[]int{1}, 0, [][]int{{0}}},
		{[]int{4}, 0, [][]int{{0, 1, 2, 3}}},
		{[]int{2, 4}, 0, [][]int{{0, 4}, {1, 5}, {2, 6}, {3, 7}}},
		{[]int{2, 4}, 1, [][]int{{0, 1, 2, 3}, {4, 5, 6, 7}}},
		{[]int{1, 4}, 0, [][]int{{0}, {1}, {2}, {3}}},
		{[]int{4, 1}, 0, [][]int{{0, 1, 2, 3}}},
		{[]int{2, 2, 2}, 0, [][]int{{0, 4}, {1, 5}, {2, 6}, {3, 7}}},
		{[]int{2, 2, 2}, 1, [][]int{{0, 2}, {1, 3}, {4, 6}, {5, 7}}},
		{[]int{2, 2, 2}, 2, [][]int{{0, 1}, {2, 3}, {4, 5}, {6, 7}}},
		{[]int{2, 4, 2}, 1, [][]int{{0, 2, 4, 6}, {1, 3, 5, 7}, {8, 10, 12, 14}, {9, 11, 13, 15}}},
	} {
		got, e := Lines(c.shape, c.axis)
		if e != api.OK || !slices.EqualFunc(got, c.want, slices.Equal) {
			t.Errorf("Lines(%v, %d) = %v, %d, want %v", c.shape, c.axis, got, e, c.want)
		}
	}
}

func TestP9Lines(t *testing.T) {
	for _, shape := range shapes(api.MaxSize) {
		for axis := range shape {
			got, e := Lines(shape, axis)
			if e != api.OK || !slices.EqualFunc(got, wantLines(shape, axis), slices.Equal) {
				t.Errorf("Lines(%v, %d) = %v, %d", shape, axis, got, e)
			}
		}
	}
}

func TestP9LinesWrong(t *testing.T) {
	for _, shape := range shapes(32) {
		for _, axis := range wrongAxes(len(shape)) {
			if l, e := Lines(shape, axis); l != nil || e != api.ErrArg {
				t.Errorf("Lines(%v, %d) = %v, %d, want ErrArg", shape, axis, l, e)
			}
		}
	}
	// Check's error, whatever the axis is.
	axes := append(wrongAxes(3), 0, 1, 2)
	for _, axis := range axes {
		for _, shape := range noShapes() {
			if l, e := Lines(shape, axis); l != nil || e != api.ErrArg {
				t.Errorf("Lines(%v, %d) = %v, %d, want ErrArg", shape, axis, l, e)
			}
		}
		for _, shape := range largeShapes() {
			if l, e := Lines(shape, axis); l != nil || e != api.ErrLarge {
				t.Errorf("Lines(%v, %d) = %v, %d, want ErrLarge", shape, axis, l, e)
			}
		}
	}
}

func TestP10AlongKnown(t *testing.T) {
	half := (p + 1) / 2
	for _, c := range []struct {
		shape []int
		a     []uint64
		axis  int
		back  bool
		want  []uint64
	}{
		{[]int{1}, []uint64{p + 4}, 0, false, []uint64{4}},
		{[]int{1}, []uint64{p + 4}, 0, true, []uint64{4}},
		{[]int{2}, []uint64{3, 5}, 0, false, []uint64{8, p - 2}},
		{[]int{2}, []uint64{8, p - 2}, 0, true, []uint64{3, 5}},
		{[]int{2}, []uint64{1, 0}, 0, true, []uint64{half, half}},
		{[]int{2, 2}, []uint64{1, 2, 3, 4}, 0, false, []uint64{4, 6, p - 2, p - 2}},
		{[]int{2, 2}, []uint64{1, 2, 3, 4}, 1, false, []uint64{3, p - 1, 7, p - 1}},
		{[]int{2, 2}, []uint64{4, 6, p - 2, p - 2}, 0, true, []uint64{1, 2, 3, 4}},
		{[]int{2, 2}, []uint64{3, p - 1, 7, p - 1}, 1, true, []uint64{1, 2, 3, 4}},
		// Lines of one number are told by P, too.
		{[]int{1, 4}, []uint64{p, p + 1, p - 1, 2}, 0, false, []uint64{0, 1, p - 1, 2}},
		{[]int{1, 4}, []uint64{p, p + 1, p - 1, 2}, 0, true, []uint64{0, 1, p - 1, 2}},
		// 2^48 is field.Root(2).
		{[]int{4, 1}, []uint64{0, 1, 0, 0}, 0, false, []uint64{1, 1 << 48, p - 1, p - 1<<48}},
		{[]int{2, 2, 2}, []uint64{1, 2, 3, 4, 5, 6, 7, 8}, 1, false, []uint64{4, 6, p - 2, p - 2, 12, 14, p - 2, p - 2}},
	} {
		got, e := Along(c.shape, c.a, c.axis, c.back)
		check(t, fmt.Sprint("Along ", c.axis, c.back), c.shape, got, e, c.want)
	}
}

func TestP10Along(t *testing.T) {
	for _, shape := range shapes(api.MaxSize) {
		a := words(sizeOf(shape), 3)
		for axis := range shape {
			for _, back := range []bool{false, true} {
				got, e := Along(shape, a, axis, back)
				check(t, fmt.Sprint("Along ", axis, back), shape, got, e, wantAlong(shape, a, axis, back))
			}
		}
	}
	for _, shape := range few() {
		for _, a := range arrays(sizeOf(shape)) {
			for axis := range shape {
				there, e := Along(shape, a, axis, false)
				check(t, fmt.Sprint("Along ", axis), shape, there, e, wantAlong(shape, a, axis, false))
				back, e := Along(shape, there, axis, true)
				check(t, fmt.Sprint("Along and back ", axis), shape, back, e, rests(a))
			}
		}
	}
}

func TestP10ForwardKnown(t *testing.T) {
	for _, c := range []struct {
		shape     []int
		was, told []uint64
	}{
		{[]int{1}, []uint64{9}, []uint64{9}},
		{[]int{1, 1, 1}, []uint64{9}, []uint64{9}},
		{[]int{2, 2}, []uint64{1, 2, 3, 4}, []uint64{10, p - 2, p - 4, 0}},
		{[]int{4}, []uint64{0, 1, 0, 0}, []uint64{1, 1 << 48, p - 1, p - 1<<48}},
		{[]int{2, 2}, []uint64{0, 1, 0, 0}, []uint64{1, p - 1, 1, p - 1}},
		{[]int{2, 2}, []uint64{0, 0, 1, 0}, []uint64{1, 1, p - 1, p - 1}},
		{[]int{2, 2, 2}, []uint64{0, 0, 0, 0, 1, 0, 0, 0}, []uint64{1, 1, 1, 1, p - 1, p - 1, p - 1, p - 1}},
		{[]int{2, 2, 2}, filled(8, 1), []uint64{8, 0, 0, 0, 0, 0, 0, 0}},
	} {
		got, e := Forward(c.shape, c.was)
		check(t, "Forward", c.shape, got, e, c.told)
		got, e = Inverse(c.shape, c.told)
		check(t, "Inverse", c.shape, got, e, c.was)
	}
	// Numbers from P on are told by P, where nothing else is done, too.
	for _, shape := range [][]int{{1}, {1, 1}, {1, 1, 1}} {
		got, e := Forward(shape, []uint64{p + 4})
		check(t, "Forward", shape, got, e, []uint64{4})
		got, e = Inverse(shape, []uint64{math.MaxUint64})
		check(t, "Inverse", shape, got, e, []uint64{1<<32 - 2})
	}
}

func TestP10ForwardBySums(t *testing.T) {
	for _, shape := range append(shapes(16), []int{4, 4, 4}, []int{2, 8, 4}, []int{16, 4}) {
		a := words(sizeOf(shape), 8)
		got, e := Forward(shape, a)
		check(t, "Forward", shape, got, e, wantForward(shape, a))
	}
}

func TestP10ForwardAndInverse(t *testing.T) {
	for _, shape := range shapes(api.MaxSize) {
		a := words(sizeOf(shape), 5)
		there, back := a, a
		for axis := range shape {
			there = wantAlong(shape, there, axis, false)
			back = wantAlong(shape, back, axis, true)
		}
		got, e := Forward(shape, a)
		check(t, "Forward", shape, got, e, there)
		got, e = Inverse(shape, a)
		check(t, "Inverse", shape, got, e, back)
	}
}

// Forward and back is what was.
func TestP10ForwardAndBack(t *testing.T) {
	for _, shape := range few() {
		for _, a := range arrays(sizeOf(shape)) {
			there, _ := Forward(shape, a)
			got, e := Inverse(shape, there)
			check(t, "Forward and back", shape, got, e, rests(a))
			back, _ := Inverse(shape, a)
			got, e = Forward(shape, back)
			check(t, "back and Forward", shape, got, e, rests(a))
		}
	}
}

func TestP10CyclicKnown(t *testing.T) {
	for _, c := range []struct {
		shape      []int
		a, b, want []uint64
	}{
		{[]int{1}, []uint64{3}, []uint64{5}, []uint64{15}},
		{[]int{1, 1, 1}, []uint64{p + 3}, []uint64{p - 1}, []uint64{p - 3}},
		{[]int{2}, []uint64{1, 2}, []uint64{3, 4}, []uint64{11, 10}},
		{[]int{2, 2}, []uint64{1, 2, 3, 4}, []uint64{0, 1, 0, 0}, []uint64{2, 1, 4, 3}},
		{[]int{2, 2}, []uint64{1, 2, 3, 4}, []uint64{0, 0, 1, 0}, []uint64{3, 4, 1, 2}},
		{[]int{2, 2}, []uint64{1, 2, 3, 4}, []uint64{0, 0, 0, p + 1}, []uint64{4, 3, 2, 1}},
		{[]int{4}, []uint64{1, 2, 3, 4}, []uint64{0, 1, 0, 0}, []uint64{4, 1, 2, 3}},
		{[]int{2, 4}, []uint64{1, 2, 3, 4, 5, 6, 7, 8}, []uint64{0, 0, 0, 0, 0, 1, 0, 0}, []uint64{8, 5, 6, 7, 4, 1, 2, 3}},
		{[]int{4, 2}, []uint64{1, 2, 3, 4, 5, 6, 7, 8}, []uint64{0, 0, 1, 0, 0, 0, 0, 0}, []uint64{7, 8, 1, 2, 3, 4, 5, 6}},
	} {
		got, e := Cyclic(c.shape, c.a, c.b)
		check(t, "Cyclic", c.shape, got, e, c.want)
		got, e = Cyclic(c.shape, c.b, c.a)
		check(t, "Cyclic, turned", c.shape, got, e, c.want)
	}
}

func TestP10Cyclic(t *testing.T) {
	for _, shape := range shapes(128) {
		n := sizeOf(shape)
		for i, a := range arrays(n) {
			b := words(n, uint64(i)+40)
			got, e := Cyclic(shape, a, b)
			check(t, "Cyclic", shape, got, e, wantCyclic(shape, a, b))
		}
	}
	for _, shape := range few() {
		n := sizeOf(shape)
		a, b := words(n, 6), words(n, 7)
		got, e := Cyclic(shape, a, b)
		check(t, "Cyclic", shape, got, e, wantCyclic(shape, a, b))
	}
}

// Each place of one array and each of the other meet where the promise says.
func TestP10CyclicEachPlace(t *testing.T) {
	for _, shape := range [][]int{{8}, {4, 2}, {2, 4}, {4, 4}, {2, 2, 4}, {4, 1, 2}, {2, 4, 2}} {
		n := sizeOf(shape)
		for i := range n {
			for j := range n {
				a, b := single(n, i, 3), single(n, j, 5)
				got, e := Cyclic(shape, a, b)
				check(t, "Cyclic", shape, got, e, wantCyclic(shape, a, b))
			}
		}
	}
}

// The transform of a product is the product of transforms.
func TestP10TransformOfAProduct(t *testing.T) {
	for _, shape := range few() {
		n := sizeOf(shape)
		for i, a := range arrays(n) {
			b := words(n, uint64(i)+60)
			x, _ := Forward(shape, a)
			y, _ := Forward(shape, b)
			for k := range x {
				x[k] = product(x[k], y[k])
			}
			round, _ := Cyclic(shape, a, b)
			got, e := Forward(shape, round)
			check(t, "the transform of a product", shape, got, e, x)
		}
	}
}

// Of one axis an array is a list.
func TestP10OneAxisIsAList(t *testing.T) {
	for k := range api.MaxLog + 1 {
		shape := []int{1 << k}
		a, b := words(1<<k, 1), words(1<<k, 2)
		want, _ := ntt.Forward(a)
		got, e := Forward(shape, a)
		check(t, "Forward", shape, got, e, want)
		want, _ = ntt.Inverse(a)
		got, e = Inverse(shape, a)
		check(t, "Inverse", shape, got, e, want)
		want, _ = conv.Cyclic(a, b)
		got, e = Cyclic(shape, a, b)
		check(t, "Cyclic", shape, got, e, want)
	}
}

// answers are those of all calls to one shape, with two lists, and an axis.
type answers struct {
	size   int
	lines  [][]int
	lists  [5][]uint64
	errors [7]api.Errno
}

func all(shape []int, a, b []uint64, axis int) answers {
	var x answers
	x.size, x.errors[0] = Check(shape)
	x.lines, x.errors[1] = Lines(shape, axis)
	x.lists[0], x.errors[2] = Along(shape, a, axis, false)
	x.lists[1], x.errors[3] = Along(shape, a, axis, true)
	x.lists[2], x.errors[4] = Forward(shape, a)
	x.lists[3], x.errors[5] = Inverse(shape, a)
	x.lists[4], x.errors[6] = Cyclic(shape, a, b)
	return x
}

func same(x, y answers) bool {
	for i := range x.lists {
		if !slices.Equal(x.lists[i], y.lists[i]) {
			return false
		}
	}
	return x.size == y.size && x.errors == y.errors && slices.EqualFunc(x.lines, y.lines, slices.Equal)
}

// wantErrors are those of all calls, in the order of answers: those of Check, of Lines, of Along
// (twice), of Forward and Inverse, and of Cyclic.
func wantErrors(check, lines, along, both, cyclic api.Errno) [7]api.Errno {
	return [7]api.Errno{check, lines, along, along, both, both, cyclic}
}

// checkErrors holds the errors against what they must be, and what is told beside them.
func checkErrors(t *testing.T, shape []int, n, m, axis int, want [7]api.Errno) {
	t.Helper()
	x := all(shape, words(n, 1), words(m, 2), axis)
	if x.errors != want {
		t.Errorf("%v with %d and %d numbers, axis %d: errors %v, want %v", shape, n, m, axis, x.errors, want)
	}
	if x.errors[0] != api.OK && x.size != 0 || x.errors[1] != api.OK && x.lines != nil {
		t.Errorf("%v, axis %d: %d, %v beside an error", shape, axis, x.size, x.lines)
	}
	for i, l := range x.lists {
		if x.errors[i+2] != api.OK && l != nil {
			t.Errorf("%v with %d and %d numbers, axis %d: %v beside an error", shape, n, m, axis, l)
		}
	}
}

// Check's error comes ahead of all else.
func TestP10WrongShapes(t *testing.T) {
	for _, n := range []int{0, 1, 2, 4, 1024, 2048} {
		for _, axis := range append(wrongAxes(3), 0, 1, 2) {
			for _, shape := range noShapes() {
				const e = api.ErrArg
				checkErrors(t, shape, n, n, axis, wantErrors(e, e, e, e, e))
			}
			for _, shape := range largeShapes() {
				const e = api.ErrLarge
				checkErrors(t, shape, n, n, axis, wantErrors(e, e, e, e, e))
			}
		}
	}
}

// A wrong list comes ahead of a wrong axis; either of both lists of Cyclic may be wrong.
func TestP10WrongListsAndAxes(t *testing.T) {
	const ok, arg, form = api.OK, api.ErrArg, api.ErrForm
	for _, shape := range few() {
		size, last := sizeOf(shape), len(shape)-1
		for _, n := range wrongSizes(size) {
			checkErrors(t, shape, n, n, last, wantErrors(ok, ok, form, form, form))
			checkErrors(t, shape, n, size, last, wantErrors(ok, ok, form, form, form))
			checkErrors(t, shape, size, n, last, wantErrors(ok, ok, ok, ok, form))
			for _, axis := range wrongAxes(len(shape)) {
				checkErrors(t, shape, n, size, axis, wantErrors(ok, arg, form, form, form))
			}
		}
		for _, axis := range wrongAxes(len(shape)) {
			checkErrors(t, shape, size, size, axis, wantErrors(ok, arg, arg, ok, ok))
		}
	}
}

// given is what may be handed in to all.
type given struct {
	shape []int
	a, b  []uint64
	axis  int
}

// everything are things of all kinds, right and wrong.
func everything() []given {
	var l []given
	for _, shape := range few() {
		size := sizeOf(shape)
		for _, axis := range []int{-1, 0, 1, 2, 3} {
			l = append(l, given{shape, words(size, 1), words(size, 2), axis})
		}
		l = append(l, given{shape, filled(size, p), filled(size, math.MaxUint64), 0},
			given{shape, words(size-1, 1), words(size, 2), 0}, given{shape, words(size, 1), words(size+1, 2), 0})
	}
	for _, shape := range slices.Concat(noShapes(), largeShapes()) {
		l = append(l, given{shape, nil, nil, 0}, given{shape, words(1024, 1), words(1024, 2), 1})
	}
	return l
}

// A panic in any of the calls fails the test.
func TestP1AnswersWhateverIsGiven(t *testing.T) {
	sizes := []int{math.MinInt, -2, -1, 0, 1, 2, 3, 4, 32, 1024, 2048, 1 << 62, math.MaxInt}
	var l [][]int
	for _, x := range sizes {
		for _, y := range sizes {
			for _, z := range sizes {
				l = append(l, []int{x, y, z}, []int{x, y, z, 1})
			}
			l = append(l, []int{x, y})
		}
		l = append(l, []int{x})
	}
	for _, shape := range append(l, nil) {
		for _, n := range []int{0, 1, 4, 64} {
			for _, axis := range []int{math.MinInt, -1, 0, 1, 2, 3, math.MaxInt} {
				x := all(shape, words(n, 1), words(n, 2), axis)
				for _, number := range slices.Concat(x.lists[:]...) {
					if number >= p {
						t.Errorf("%v, %d numbers, axis %d: %d is told", shape, n, axis, number)
					}
				}
			}
		}
	}
}

// spoil writes over a list, its spare room included.
func spoil[T int | uint64](a []T) {
	a = a[:cap(a)]
	for i := range a {
		a[i] = 0x5ead
	}
}

// What is handed in stays as it is, the room behind it included, and what is told is written
// over without harm.
func TestP2MemoryOfItsOwn(t *testing.T) {
	for _, c := range everything() {
		shape := append(slices.Clone(c.shape), 2, 2, 2)
		a := append(slices.Clone(c.a), 11, 12, 13)
		b := append(slices.Clone(c.b), 21, 22, 23)
		keptShape, keptA, keptB := slices.Clone(shape), slices.Clone(a), slices.Clone(b)
		again := all(c.shape, c.a, c.b, c.axis)
		got := all(shape[:len(c.shape)], a[:len(c.a)], b[:len(c.b)], c.axis)
		if !same(got, again) {
			t.Errorf("%v, axis %d: room behind what is handed in makes another answer", c.shape, c.axis)
		}
		for _, l := range got.lists {
			spoil(l)
		}
		for _, l := range got.lines {
			spoil(l)
		}
		if !slices.Equal(shape, keptShape) || !slices.Equal(a, keptA) || !slices.Equal(b, keptB) {
			t.Errorf("%v, axis %d: what was handed in is changed", c.shape, c.axis)
		}
		if !same(all(c.shape, c.a, c.b, c.axis), again) {
			t.Errorf("%v, axis %d: what was told is kept", c.shape, c.axis)
		}
	}
}

// Lines have no memory together: each is written over, its spare room included, and the others
// stay as they are.
func TestP2LinesOfTheirOwn(t *testing.T) {
	for _, shape := range few() {
		for axis := range shape {
			got, _ := Lines(shape, axis)
			for i, want := range wantLines(shape, axis) {
				if !slices.Equal(got[i], want) {
					t.Errorf("Lines(%v, %d): line %d is changed by those ahead of it", shape, axis, i)
				}
				spoil(got[i])
			}
			got, _ = Lines(shape, axis)
			for i, want := range slices.Backward(wantLines(shape, axis)) {
				if !slices.Equal(got[i], want) {
					t.Errorf("Lines(%v, %d): line %d is changed by those behind it", shape, axis, i)
				}
				spoil(got[i])
			}
		}
	}
}

// Both arrays may be one and the same memory.
func TestP2OneArrayTwice(t *testing.T) {
	for _, shape := range few() {
		n := sizeOf(shape)
		a := words(n, 31)
		got, e := Cyclic(shape, a, a)
		want, _ := Cyclic(shape, a, slices.Clone(a))
		check(t, "Cyclic by itself", shape, got, e, want)
		if !slices.Equal(a, words(n, 31)) {
			t.Errorf("%v by itself: what was handed in is changed", shape)
		}
	}
}

// The same things, gone through from both ends: what came ahead must not be seen in an answer.
func TestP2NothingIsKept(t *testing.T) {
	l := everything()
	var first []answers
	for _, c := range l {
		first = append(first, all(c.shape, c.a, c.b, c.axis))
	}
	for i, c := range slices.Backward(l) {
		if !same(all(c.shape, c.a, c.b, c.axis), first[i]) {
			t.Errorf("%v, axis %d: another answer", c.shape, c.axis)
		}
	}
}
