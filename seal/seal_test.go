package seal

import (
	"math"
	"math/big"
	"math/bits"
	"slices"
	"testing"

	"goldmill/api"
	"goldmill/many"
	"goldmill/poly"
)

const p = api.P

// words are n words of a fixed rule, spread over all 64 bits.
func words(n int, seed uint64) []uint64 {
	l := make([]uint64, n)
	x := seed
	for i := range l {
		x = x*6364136223846793005 + 1442695040888963407
		l[i] = x ^ x>>29
	}
	return l
}

func filled(n int, x uint64) []uint64 {
	return slices.Repeat([]uint64{x}, n)
}

// single is a list of n numbers, all 0 but the one at a place.
func single(n, at int, x uint64) []uint64 {
	l := make([]uint64, n)
	l[at] = x
	return l
}

// rests are the numbers of a list, from 0 to P - 1.
func rests(a []uint64) []uint64 {
	l := slices.Clone(a)
	for i := range l {
		l[i] %= p
	}
	return l
}

func product(a, b uint64) uint64 {
	hi, lo := bits.Mul64(a, b)
	return bits.Rem64(hi, lo, p)
}

func sum(a, b uint64) uint64 {
	lo, hi := bits.Add64(a, b, 0)
	return bits.Rem64(hi, lo, p)
}

func sizeOf(shape []int) int {
	n := 1
	for _, d := range shape {
		n *= d
	}
	return n
}

// shapes are all of those whose arrays have at most so many numbers.
func shapes(most int) [][]int {
	var l [][]int
	for x := 1; x <= most; x *= 2 {
		l = append(l, []int{x})
		for y := 1; x*y <= most; y *= 2 {
			l = append(l, []int{x, y})
			for z := 1; x*y*z <= most; z *= 2 {
				l = append(l, []int{x, y, z})
			}
		}
	}
	return l
}

// few are shapes of all numbers of axes, the greatest ones among them.
func few() [][]int {
	return append(shapes(16), []int{1024}, []int{1024, 1}, []int{1, 1024}, []int{32, 32}, []int{2, 512},
		[]int{1024, 1, 1}, []int{1, 1024, 1}, []int{1, 1, 1024}, []int{8, 16, 8}, []int{64, 8, 2}, []int{4, 8, 16})
}

// noShapes are those for which many.Check tells ErrArg.
func noShapes() [][]int {
	return [][]int{
		nil, {}, {0}, {-1}, {-2}, {3}, {6}, {1023}, {1025}, {math.MinInt}, {math.MaxInt}, {1<<62 + 1},
		{0, 1}, {1, 0}, {2, 3}, {3, 2}, {2, -2}, {-2, -2}, {2, 2, 0}, {2, 3, 2}, {-4, 2, 2}, {2, 2, math.MinInt},
		{1, 1, 1, 1}, {2, 2, 2, 2}, {1024, 1024, 1024, 1024}, make([]int, 5000),
		// Great ones, too: what is no power of two is told first.
		{2048, 3}, {3, 2048}, {1 << 62, 1 << 62, 5},
	}
}

// largeShapes are those for which many.Check tells ErrLarge.
func largeShapes() [][]int {
	return [][]int{
		{2048}, {1 << 32}, {1 << 62}, {64, 32}, {1024, 2}, {2, 1024}, {1, 2048}, {16, 16, 8}, {1, 1, 2048},
		{1024, 1024, 1024}, {1 << 32, 1 << 32}, {1 << 62, 4}, {2, 1 << 62, 2}, {1 << 31, 1 << 31, 4},
	}
}

// wrongSizes are those that no array of that size has.
func wrongSizes(size int) []int {
	l := []int{0, size - 1, size + 1, 2 * size, size / 2, 1024, 1025, 2048, 2049, 5000}
	return slices.DeleteFunc(l, func(n int) bool { return n == size })
}

// arrays are some of a size, in many forms: zeros, numbers from P on, single numbers, and words
// of all kinds.
func arrays(n int) [][]uint64 {
	return [][]uint64{
		words(n, uint64(n)), words(n, 99), make([]uint64, n), filled(n, p), filled(n, p-1),
		filled(n, math.MaxUint64), single(n, 0, 1), single(n, n-1, p-1), single(n, n/2, math.MaxUint64),
	}
}

// placesOf are those of a number of an array: the last place goes on first.
func placesOf(shape []int, number int) []int {
	l := make([]int, len(shape))
	for i := len(shape) - 1; i >= 0; i-- {
		l[i] = number % shape[i]
		number /= shape[i]
	}
	return l
}

func numberOf(shape, places []int) int {
	n := 0
	for i, d := range shape {
		n = n*d + places[i]
	}
	return n
}

// keys are numbers at which a sum is told, at all edges.
func keys() []uint64 {
	return append(words(5, 3), 0, 1, 2, 10, 1<<32-1, 1<<32, p-1, p, p+1, p+10, math.MaxUint64)
}

// wantOf sums each number times its power, as the promise tells it.
func wantOf(a []uint64, key uint64) uint64 {
	x, each := uint64(0), uint64(1)
	for _, number := range a {
		x = sum(x, product(number, each))
		each = product(each, key)
	}
	return x
}

// wantCorners has no transform: at 0 of an axis each number of the array counts once, at half of
// it, where the root's power is -1, those of its odd places are taken away.
func wantCorners(shape []int, a []uint64) []uint64 {
	var l []uint64
	for to := range a {
		corner := placesOf(shape, to)
		if !isCorner(shape, corner) {
			continue
		}
		x := uint64(0)
		for from, number := range a {
			odd := 0
			for axis, place := range placesOf(shape, from) {
				if corner[axis] > 0 {
					odd += place
				}
			}
			if odd%2 == 1 {
				number = p - number%p
			}
			x = sum(x, number)
		}
		l = append(l, x)
	}
	return l
}

// isCorner tells whether each of the places is 0, or half of its axis.
func isCorner(shape, places []int) bool {
	for axis, place := range places {
		if place != 0 && 2*place != shape[axis] {
			return false
		}
	}
	return true
}

// rest is that of a place less a number, by the size of an axis, told by numbers without a bound.
func rest(place, by, size int) int {
	x := new(big.Int).Sub(big.NewInt(int64(place)), big.NewInt(int64(by)))
	return int(x.Mod(x, big.NewInt(int64(size))).Int64())
}

func wantShift(shape []int, a []uint64, by []int) []uint64 {
	l := make([]uint64, len(a))
	for to := range l {
		from := placesOf(shape, to)
		for axis, place := range from {
			from[axis] = rest(place, by[axis], shape[axis])
		}
		l[to] = a[numberOf(shape, from)] % p
	}
	return l
}

// steps are numbers by which an axis is moved round, at all edges.
func steps() []int {
	return []int{
		0, 1, -1, 2, -2, 3, -3, 7, -8, 511, -512, 1023, -1023, 1024, -1024, 1025, -1025, 1 << 32, -1<<32 + 5,
		math.MaxInt, math.MaxInt - 1, math.MinInt, math.MinInt + 1,
	}
}

// stepsOf are n steps of one kind and another.
func stepsOf(n, seed int) []int {
	l := make([]int, n)
	for i := range l {
		l[i] = steps()[(seed+i*7)%len(steps())]
	}
	return l
}

func check(t *testing.T, name string, shape []int, got []uint64, e api.Errno, want []uint64) {
	t.Helper()
	if e != api.OK || !slices.Equal(got, want) {
		t.Errorf("%s of %v: %v, %d, want %v, OK", name, shape, got, e, want)
	}
}

func checkOf(t *testing.T, shape []int, a []uint64, key, want uint64) {
	t.Helper()
	if got, e := Of(shape, a, key); e != api.OK || got != want {
		t.Errorf("Of %v at %d: %d, %d, want %d, OK", shape, key, got, e, want)
	}
}

func TestP17OfKnown(t *testing.T) {
	for _, c := range []struct {
		shape []int
		a     []uint64
		key   uint64
		want  uint64
	}{
		{[]int{2, 2}, []uint64{1, 2, 3, 4}, 10, 4321},
		{[]int{4}, []uint64{1, 2, 3, 4}, 10, 4321},
		{[]int{1, 4, 1}, []uint64{1, 2, 3, 4}, 10, 4321},
		{[]int{2, 2}, []uint64{1, 2, 3, 4}, 0, 1},
		{[]int{2, 2}, []uint64{1, 2, 3, 4}, p, 1},
		{[]int{2, 2}, []uint64{1, 2, 3, 4}, 1, 10},
		{[]int{2, 2}, []uint64{1, 2, 3, 4}, p + 1, 10},
		{[]int{2, 2}, []uint64{1, 2, 3, 4}, p - 1, p - 2},
		{[]int{1}, []uint64{7}, 3, 7},
		{[]int{1}, []uint64{p}, 3, 0},
		{[]int{1, 1, 1}, []uint64{math.MaxUint64}, 3, 1<<32 - 2},
		{[]int{2}, []uint64{0, 1 << 32}, 1 << 32, 1<<32 - 1},
		{[]int{2, 2}, make([]uint64, 4), 9, 0},
	} {
		checkOf(t, c.shape, c.a, c.key, c.want)
	}
}

func TestP17Of(t *testing.T) {
	for _, shape := range few() {
		for _, a := range arrays(sizeOf(shape)) {
			for _, key := range keys() {
				checkOf(t, shape, a, key, wantOf(a, key))
				want, _ := poly.Eval(a, key)
				checkOf(t, shape, a, key, want)
			}
		}
	}
}

// A sum tells whether an array is what it was: one number that is another makes another sum,
// unless the key is 0.
func TestP17OfEachNumber(t *testing.T) {
	for _, shape := range few() {
		a := words(sizeOf(shape), 4)
		for at := range a {
			changed := slices.Clone(a)
			changed[at] = sum(a[at], 1)
			x, _ := Of(shape, a, 7)
			y, e := Of(shape, changed, 7)
			if e != api.OK || x == y {
				t.Errorf("Of %v: number %d is another, and the sum the same", shape, at)
			}
		}
	}
}

func TestP17CornersKnown(t *testing.T) {
	for _, c := range []struct {
		shape   []int
		a, want []uint64
	}{
		{[]int{4, 2}, []uint64{1, 2, 3, 4, 5, 6, 7, 8}, []uint64{36, p - 4, p - 8, 0}},
		{[]int{2, 4}, []uint64{1, 2, 3, 4, 5, 6, 7, 8}, []uint64{36, p - 4, p - 16, 0}},
		{[]int{2, 2, 2}, []uint64{1, 2, 3, 4, 5, 6, 7, 8}, []uint64{36, p - 4, p - 8, 0, p - 16, 0, 0, 0}},
		{[]int{8}, []uint64{1, 2, 3, 4, 5, 6, 7, 8}, []uint64{36, p - 4}},
		{[]int{2}, []uint64{5, 3}, []uint64{8, 2}},
		{[]int{1, 2, 1}, []uint64{5, 3}, []uint64{8, 2}},
		{[]int{2, 1, 1}, []uint64{5, 3}, []uint64{8, 2}},
		{[]int{1, 1, 2}, []uint64{3, 5}, []uint64{8, p - 2}},
		{[]int{1}, []uint64{9}, []uint64{9}},
		{[]int{1, 1}, []uint64{p + 9}, []uint64{9}},
		{[]int{1, 1, 1}, []uint64{math.MaxUint64}, []uint64{1<<32 - 2}},
		{[]int{2, 2}, []uint64{p, p, p, p}, []uint64{0, 0, 0, 0}},
	} {
		got, e := Corners(c.shape, c.a)
		check(t, "Corners", c.shape, got, e, c.want)
	}
}

func TestP17Corners(t *testing.T) {
	for _, shape := range few() {
		for _, a := range arrays(sizeOf(shape)) {
			got, e := Corners(shape, a)
			check(t, "Corners", shape, got, e, wantCorners(shape, a))
		}
	}
}

// There are two numbers an axis, and one of an axis of one place: each of them is that of the
// transform, in the order of the array.
func TestP17CornersAreOfTheTransform(t *testing.T) {
	for _, shape := range shapes(1024) {
		a := words(sizeOf(shape), 12)
		transformed, _ := many.Forward(shape, a)
		var want []uint64
		for number, x := range transformed {
			if isCorner(shape, placesOf(shape, number)) {
				want = append(want, x)
			}
		}
		count := 1
		for _, d := range shape {
			count *= min(d, 2)
		}
		got, e := Corners(shape, a)
		check(t, "Corners", shape, got, e, want)
		if len(got) != count {
			t.Errorf("Corners of %v: %d numbers, want %d", shape, len(got), count)
		}
	}
}

func TestP17ShiftKnown(t *testing.T) {
	eight := []uint64{1, 2, 3, 4, 5, 6, 7, 8}
	for _, c := range []struct {
		shape []int
		a     []uint64
		by    []int
		want  []uint64
	}{
		{[]int{4, 2}, eight, []int{-1, 3}, []uint64{4, 3, 6, 5, 8, 7, 2, 1}},
		{[]int{4, 2}, eight, []int{0, 0}, eight},
		{[]int{4, 2}, eight, []int{1, 0}, []uint64{7, 8, 1, 2, 3, 4, 5, 6}},
		{[]int{4, 2}, eight, []int{0, 1}, []uint64{2, 1, 4, 3, 6, 5, 8, 7}},
		{[]int{8}, eight, []int{1}, []uint64{8, 1, 2, 3, 4, 5, 6, 7}},
		{[]int{8}, eight, []int{-1}, []uint64{2, 3, 4, 5, 6, 7, 8, 1}},
		{[]int{8}, eight, []int{8}, eight},
		{[]int{8}, eight, []int{-8}, eight},
		{[]int{8}, eight, []int{math.MinInt}, eight},
		{[]int{8}, eight, []int{math.MaxInt}, []uint64{2, 3, 4, 5, 6, 7, 8, 1}},
		{[]int{2, 2, 2}, eight, []int{1, 0, 1}, []uint64{6, 5, 8, 7, 2, 1, 4, 3}},
		{[]int{1, 8, 1}, eight, []int{5, -3, -5}, []uint64{4, 5, 6, 7, 8, 1, 2, 3}},
		{[]int{2}, []uint64{p, math.MaxUint64}, []int{1}, []uint64{1<<32 - 2, 0}},
		{[]int{2}, []uint64{p, p + 4}, []int{0}, []uint64{0, 4}},
		{[]int{1}, []uint64{6}, []int{math.MinInt}, []uint64{6}},
	} {
		got, e := Shift(c.shape, c.a, c.by)
		check(t, "Shift", c.shape, got, e, c.want)
	}
}

func TestP17Shift(t *testing.T) {
	for _, shape := range few() {
		for _, a := range arrays(sizeOf(shape)) {
			for i := range steps() {
				by := stepsOf(len(shape), i)
				got, e := Shift(shape, a, by)
				check(t, "Shift", shape, got, e, wantShift(shape, a, by))
			}
		}
	}
}

// Each step of each axis, round and round, both ways.
func TestP17ShiftEachStep(t *testing.T) {
	for _, shape := range [][]int{{8}, {4, 2}, {2, 4}, {1, 8}, {2, 2, 4}, {4, 1, 2}, {2, 4, 2}} {
		a := words(sizeOf(shape), 8)
		for axis := range shape {
			for step := -20; step <= 20; step++ {
				by := make([]int, len(shape))
				by[axis] = step
				got, e := Shift(shape, a, by)
				check(t, "Shift", shape, got, e, wantShift(shape, a, by))
			}
		}
	}
}

// There and back is what was.
func TestP17ShiftAndBack(t *testing.T) {
	for _, shape := range few() {
		a := words(sizeOf(shape), 41)
		for i := range steps() {
			by := stepsOf(len(shape), i)
			back := make([]int, len(by))
			for axis, step := range by {
				back[axis] = -step
			}
			moved, _ := Shift(shape, a, by)
			got, e := Shift(shape, moved, back)
			check(t, "Shift and back", shape, got, e, rests(a))
		}
	}
}

// To move an array round is the product with one that has a 1 where its first number comes to.
func TestP17ShiftIsAProduct(t *testing.T) {
	for _, shape := range few() {
		n := sizeOf(shape)
		a := words(n, 42)
		for at := 0; at < n; at += 1 + n/7 {
			want, _ := many.Cyclic(shape, a, single(n, at, 1))
			got, e := Shift(shape, a, placesOf(shape, at))
			check(t, "Shift", shape, got, e, want)
		}
	}
}

// answers are those of all calls to one array.
type answers struct {
	sum            uint64
	corners, moved []uint64
	errors         [3]api.Errno
}

func all(shape []int, a []uint64, key uint64, by []int) answers {
	var x answers
	x.sum, x.errors[0] = Of(shape, a, key)
	x.corners, x.errors[1] = Corners(shape, a)
	x.moved, x.errors[2] = Shift(shape, a, by)
	return x
}

func same(x, y answers) bool {
	return x.sum == y.sum && slices.Equal(x.corners, y.corners) && slices.Equal(x.moved, y.moved) && x.errors == y.errors
}

// checkErrors holds the errors of Of and Corners, and that of Shift, against what they must be,
// and what is told beside them.
func checkErrors(t *testing.T, shape []int, n int, by []int, both, shift api.Errno) {
	t.Helper()
	x := all(shape, words(n, 1), 3, by)
	if x.errors != [3]api.Errno{both, both, shift} {
		t.Errorf("%v with %d numbers by %v: errors %v, want %d, %d", shape, n, by, x.errors, both, shift)
	}
	if both != api.OK && (x.sum != 0 || x.corners != nil) || shift != api.OK && x.moved != nil {
		t.Errorf("%v with %d numbers by %v: %d, %v, %v beside an error", shape, n, by, x.sum, x.corners, x.moved)
	}
}

// many.Check's error comes ahead of all else.
func TestP17WrongShapes(t *testing.T) {
	for _, n := range []int{0, 1, 2, 4, 16, 1024, 2048, 2049} {
		for axes := range 5 {
			for _, shape := range noShapes() {
				checkErrors(t, shape, n, make([]int, axes), api.ErrArg, api.ErrArg)
			}
			for _, shape := range largeShapes() {
				checkErrors(t, shape, n, make([]int, axes), api.ErrLarge, api.ErrLarge)
			}
		}
	}
}

// A wrong list comes ahead of wrong steps.
func TestP17WrongListsAndSteps(t *testing.T) {
	for _, shape := range few() {
		size, axes := sizeOf(shape), len(shape)
		for _, count := range []int{0, 1, 2, 3, 4, size, 5000} {
			for _, n := range wrongSizes(size) {
				checkErrors(t, shape, n, make([]int, count), api.ErrForm, api.ErrForm)
			}
			want := api.ErrArg
			if count == axes {
				want = api.OK
			}
			checkErrors(t, shape, size, make([]int, count), api.OK, want)
		}
		checkErrors(t, shape, size, nil, api.OK, api.ErrArg)
	}
}

// given is what may be handed in to all.
type given struct {
	shape []int
	a     []uint64
	key   uint64
	by    []int
}

func (g given) all() answers {
	return all(g.shape, g.a, g.key, g.by)
}

// everything are things of all kinds, right and wrong.
func everything() []given {
	var l []given
	for i, shape := range few() {
		size, axes := sizeOf(shape), len(shape)
		l = append(l,
			given{shape, words(size, 1), 5, stepsOf(axes, i)},
			given{shape, filled(size, math.MaxUint64), math.MaxUint64, stepsOf(axes, i+3)},
			given{shape, filled(size, p), p, make([]int, axes)},
			given{shape, words(size, 2), 5, stepsOf(axes-1, i)},
			given{shape, words(size-1, 2), 5, stepsOf(axes, i)},
			given{shape, words(size+1, 2), 5, stepsOf(axes, i)},
		)
	}
	for _, shape := range slices.Concat(noShapes(), largeShapes()) {
		l = append(l, given{shape, nil, 0, nil}, given{shape, words(1024, 1), 7, make([]int, len(shape))})
	}
	return l
}

// A panic in any of the calls fails the test.
func TestP1AnswersWhateverIsGiven(t *testing.T) {
	sizes := []int{math.MinInt, -2, -1, 0, 1, 2, 3, 4, 32, 1024, 2048, 1 << 62, math.MaxInt}
	l := [][]int{nil}
	for _, x := range sizes {
		for _, y := range sizes {
			for _, z := range sizes {
				l = append(l, []int{x, y, z}, []int{x, y, z, 1})
			}
			l = append(l, []int{x, y})
		}
		l = append(l, []int{x})
	}
	for i, shape := range l {
		for _, n := range []int{0, 1, 4, 64, 1024} {
			for _, axes := range []int{0, 1, 2, 3, 4} {
				checkNumbers(t, given{shape, words(n, 1), words(1, uint64(i))[0], stepsOf(axes, i)})
			}
		}
	}
	for _, g := range everything() {
		checkNumbers(t, g)
	}
}

// checkNumbers tells whether all that is told is from 0 to P - 1.
func checkNumbers(t *testing.T, g given) {
	t.Helper()
	x := g.all()
	for _, number := range append(slices.Concat(x.corners, x.moved), x.sum) {
		if number >= p {
			t.Errorf("%v with %d numbers by %v: %d is told", g.shape, len(g.a), g.by, number)
		}
	}
}

// spoil writes over a list, its spare room included.
func spoil[T int | uint64](a []T) {
	a = a[:cap(a)]
	for i := range a {
		a[i] = 0x5ead
	}
}

// What is handed in stays as it is, the room behind it included, and what is told is written
// over without harm.
func TestP2MemoryOfItsOwn(t *testing.T) {
	for _, g := range everything() {
		shape := append(slices.Clone(g.shape), 2, 2, 2)
		a := append(slices.Clone(g.a), 11, 12, 13)
		by := append(slices.Clone(g.by), 21, 22, 23)
		keptShape, keptA, keptBy := slices.Clone(shape), slices.Clone(a), slices.Clone(by)
		again := g.all()
		got := all(shape[:len(g.shape)], a[:len(g.a)], g.key, by[:len(g.by)])
		if !same(got, again) {
			t.Errorf("%v by %v: room behind what is handed in makes another answer", g.shape, g.by)
		}
		spoil(got.corners)
		spoil(got.moved)
		if !slices.Equal(shape, keptShape) || !slices.Equal(a, keptA) || !slices.Equal(by, keptBy) {
			t.Errorf("%v by %v: what was handed in is changed", g.shape, g.by)
		}
		if !same(g.all(), again) {
			t.Errorf("%v by %v: what was told is kept", g.shape, g.by)
		}
	}
}

// What was handed in may be written over when the call has answered.
func TestP2NothingHandedInIsKept(t *testing.T) {
	for _, g := range everything() {
		shape, a, by := slices.Clone(g.shape), slices.Clone(g.a), slices.Clone(g.by)
		got := all(shape, a, g.key, by)
		spoil(shape)
		spoil(a)
		spoil(by)
		if !same(got, g.all()) {
			t.Errorf("%v by %v: what was handed in is kept", g.shape, g.by)
		}
	}
}

// Shape and steps may be one and the same memory.
func TestP2OneListTwice(t *testing.T) {
	for _, shape := range few() {
		a := words(sizeOf(shape), 31)
		list := slices.Clone(shape)
		got, e := Shift(list, a, list)
		check(t, "Shift by its shape", shape, got, e, rests(a))
		if !slices.Equal(list, shape) {
			t.Errorf("%v by itself: what was handed in is changed", shape)
		}
	}
}

// The same things, gone through from both ends: what came ahead must not be seen in an answer.
func TestP2NothingIsKept(t *testing.T) {
	l := everything()
	var first []answers
	for _, g := range l {
		first = append(first, g.all())
	}
	for i, g := range slices.Backward(l) {
		if !same(g.all(), first[i]) {
			t.Errorf("%v by %v: another answer", g.shape, g.by)
		}
	}
}
