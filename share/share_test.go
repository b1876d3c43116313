package share

import (
	"math"
	"math/bits"
	"slices"
	"testing"

	"goldmill/api"
)

const p = api.P

// words are n words of a fixed rule, spread over all 64 bits.
func words(n int, seed uint64) []uint64 {
	l := make([]uint64, n)
	x := seed
	for i := range l {
		x = x*6364136223846793005 + 1442695040888963407
		l[i] = x ^ x>>29
	}
	return l
}

func filled(n int, x uint64) []uint64 {
	return slices.Repeat([]uint64{x}, n)
}

// single is a list of n numbers, all 0 but the one at a place.
func single(n, at int, x uint64) []uint64 {
	l := make([]uint64, n)
	l[at] = x
	return l
}

// rests are the numbers of a list, from 0 to P - 1.
func rests(a []uint64) []uint64 {
	l := make([]uint64, len(a))
	for i, x := range a {
		l[i] = x % p
	}
	return l
}

func product(a, b uint64) uint64 {
	hi, lo := bits.Mul64(a, b)
	return bits.Rem64(hi, lo, p)
}

func sum(a, b uint64) uint64 {
	lo, hi := bits.Add64(a, b, 0)
	return bits.Rem64(hi, lo, p)
}

func power(a, n uint64) uint64 {
	x := uint64(1)
	for ; n > 0; n >>= 1 {
		if n&1 == 1 {
			x = product(x, a)
		}
		a = product(a, a)
	}
	return x
}

// pointOf is the power of the root, from the promises' own words: Root(6) is Pow of 7 and
// (P - 1) by 2^6.
func pointOf(at int) uint64 {
	return power(power(7, (p-1)/64), uint64(at))
}

// wantSymbols sums each number times its power, as the promise tells it.
func wantSymbols(data []uint64, n int) []uint64 {
	l := make([]uint64, n)
	for i := range l {
		x, each := pointOf(i), uint64(1)
		for _, number := range data {
			l[i] = sum(l[i], product(number, each))
			each = product(each, x)
		}
	}
	return l
}

// forms are data of k numbers, in many forms.
func forms(k int) [][]uint64 {
	return [][]uint64{
		words(k, uint64(k)),
		make([]uint64, k),
		filled(k, 1),
		filled(k, p-1),
		filled(k, p),
		filled(k, math.MaxUint64),
		single(k, 0, 7),
		single(k, k-1, p+3),
		single(k, k/2, p-1),
	}
}

// sharesOf are the shares of some places, of data's 64 symbols.
func sharesOf(data []uint64, places []int) []api.Share {
	symbols := wantSymbols(data, 64)
	l := make([]api.Share, len(places))
	for i, at := range places {
		l[i] = api.Share{At: at, Symbol: symbols[at]}
	}
	return l
}

// places are n places, in an order that hangs on seed: each is used once.
func places(n int, seed uint64) []int {
	l := make([]int, 64)
	for i := range l {
		l[i] = i
	}
	for i, x := range words(64, seed) {
		j := i + int(x>>8%uint64(64-i))
		l[i], l[j] = l[j], l[i]
	}
	return l[:n]
}

// counts are numbers of shares, or of data, at all edges.
func counts() []int {
	return []int{1, 2, 3, 4, 7, 8, 31, 32, 33, 62, 63, 64}
}

func checkData(t *testing.T, k int, l []api.Share, want []uint64) {
	t.Helper()
	if got, e := Recover(k, l); e != api.OK || !slices.Equal(got, want) {
		t.Errorf("Recover %d of %v: %v, %d, want %v, OK", k, l, got, e, want)
	}
	checkFits(t, k, l, true)
}

func checkFits(t *testing.T, k int, l []api.Share, want bool) {
	t.Helper()
	if got, e := Fits(k, l); e != api.OK || got != want {
		t.Errorf("Fits %d of %v: %t, %d, want %t, OK", k, l, got, e, want)
	}
}

func checkError(t *testing.T, k int, l []api.Share, want api.Errno) {
	t.Helper()
	if got, e := Recover(k, l); got != nil || e != want {
		t.Errorf("Recover %d of %d shares: %v, %d, want no list, %d", k, len(l), got, e, want)
	}
}

// checkWrong is of errors that both calls tell.
func checkWrong(t *testing.T, k int, l []api.Share, want api.Errno) {
	t.Helper()
	checkError(t, k, l, want)
	if got, e := Fits(k, l); got || e != want {
		t.Errorf("Fits %d of %d shares: %t, %d, want false, %d", k, len(l), got, e, want)
	}
}

func TestP16EncodeKnown(t *testing.T) {
	for _, c := range []struct {
		data []uint64
		n    int
		want []uint64
	}{
		{[]uint64{5}, 3, []uint64{5, 5, 5}},
		{[]uint64{0}, 1, []uint64{0}},
		{[]uint64{p}, 2, []uint64{0, 0}},
		{[]uint64{p + 9}, 1, []uint64{9}},
		{[]uint64{math.MaxUint64}, 1, []uint64{1<<32 - 2}},
		{[]uint64{1, 0, 0}, 4, []uint64{1, 1, 1, 1}},
		{[]uint64{p - 1, 1}, 2, []uint64{0, pointOf(1) - 1}},
	} {
		got, e := Encode(c.data, c.n)
		if e != api.OK || !slices.Equal(got, c.want) {
			t.Errorf("Encode %v, %d: %v, %d, want %v, OK", c.data, c.n, got, e, c.want)
		}
	}
}

// The symbols of 0, 1 are the powers of the root themselves: all 64 are different, and the one
// half round is -1.
func TestP16EncodePowers(t *testing.T) {
	got, e := Encode([]uint64{0, 1}, 64)
	if e != api.OK || len(got) != 64 || got[0] != 1 || got[32] != p-1 || power(got[1], 64) != 1 {
		t.Fatal(got, e)
	}
	sorted := slices.Clone(got)
	slices.Sort(sorted)
	if len(slices.Compact(sorted)) != 64 {
		t.Errorf("two powers of the root are the same: %v", got)
	}
}

func TestP16Encode(t *testing.T) {
	for _, k := range counts() {
		for _, data := range forms(k) {
			want := wantSymbols(data, 64)
			for n := k; n <= 64; n++ {
				got, e := Encode(data, n)
				if e != api.OK || !slices.Equal(got, want[:n]) {
					t.Errorf("Encode %v, %d: %v, %d, want %v, OK", data, n, got, e, want[:n])
				}
			}
		}
	}
}

func TestP16EncodeWrong(t *testing.T) {
	for _, c := range []struct {
		data []uint64
		n    int
	}{
		{nil, 1}, {[]uint64{}, 1}, {nil, 64}, {nil, 0}, {nil, 65}, {nil, -1},
		{words(1, 1), 0}, {words(1, 1), -1}, {words(1, 1), 65}, {words(1, 1), math.MinInt}, {words(1, 1), math.MaxInt},
		{words(2, 1), 1}, {words(3, 1), 2}, {words(64, 1), 63}, {words(64, 1), 65}, {words(64, 1), 0},
		{words(65, 1), 64}, {words(65, 1), 65}, {words(65, 1), 66}, {words(2048, 1), 64}, {words(2049, 1), 64},
		{words(2049, 1), 4096}, {words(1<<16, 1), 64}, {words(1<<16, 1), 1 << 16},
	} {
		if got, e := Encode(c.data, c.n); got != nil || e != api.ErrArg {
			t.Errorf("Encode of %d numbers, %d: %v, %d, want no list, ErrArg", len(c.data), c.n, got, e)
		}
	}
}

// Any so many shares tell the word: each choice of 7 places, in order and turned.
func TestP16AnySharesTellTheWord(t *testing.T) {
	for k := 1; k <= 4; k++ {
		data := words(k, uint64(k)+70)
		for choice := range 1 << 7 {
			var chosen []int
			for at := range 7 {
				if choice>>at&1 == 1 {
					chosen = append(chosen, at*10)
				}
			}
			l := sharesOf(data, chosen)
			if len(l) < k {
				checkError(t, k, l, api.ErrNone)
				checkFits(t, k, l, true)
				continue
			}
			checkData(t, k, l, rests(data))
			slices.Reverse(l)
			checkData(t, k, l, rests(data))
		}
	}
}

// Data is told with all its numbers, zeros at its end included, by as many shares and by more.
func TestP16Recover(t *testing.T) {
	for _, k := range counts() {
		for i, data := range forms(k) {
			for _, n := range []int{k, min(k+1, 64), min(k+17, 64), 64} {
				checkData(t, k, sharesOf(data, places(n, uint64(i*64+n))), rests(data))
			}
		}
	}
}

func TestP16RecoverKnown(t *testing.T) {
	same := []api.Share{{At: 63, Symbol: 9}, {At: 7, Symbol: 9}, {At: 0, Symbol: 9}}
	checkData(t, 1, same, []uint64{9})
	checkData(t, 2, same, []uint64{9, 0})
	checkData(t, 3, same, []uint64{9, 0, 0})
	checkError(t, 4, same, api.ErrNone)
	checkData(t, 1, []api.Share{{At: 40, Symbol: p}}, []uint64{0})
	checkData(t, 1, []api.Share{{At: 40, Symbol: math.MaxUint64}}, []uint64{1<<32 - 2})
	// 3 and 2 times 1, and times -1.
	checkData(t, 2, []api.Share{{At: 0, Symbol: 5}, {At: 32, Symbol: 1}}, []uint64{3, 2})
	checkData(t, 3, append(slices.Clone(same[:2]), api.Share{At: 0, Symbol: p + 9}), []uint64{9, 0, 0})
}

// A symbol is meant by its rest.
func TestP16SymbolsByP(t *testing.T) {
	for _, k := range []int{1, 2, 5} {
		for _, low := range []uint64{0, 1, 1<<32 - 2} {
			data := single(k, 0, low)
			for n := k; n <= k+3; n++ {
				l := sharesOf(data, places(n, 5))
				l[0].Symbol += p
				checkData(t, k, l, data)
				l[n-1].Symbol = low + p
				checkData(t, k, l, data)
			}
		}
	}
}

// Of more shares than data has numbers a wrong one, wherever it is, makes that there is no data;
// of just as many there is other data, which has it.
func TestP16OneWrongSymbol(t *testing.T) {
	for _, k := range []int{1, 2, 3, 8, 32, 61} {
		for n := k; n <= k+3; n++ {
			l := sharesOf(words(k, 3), places(n, uint64(n)))
			for i := range l {
				wrong := slices.Clone(l)
				wrong[i].Symbol = sum(l[i].Symbol, uint64(i)+1)
				checkFits(t, k, wrong, n == k)
				checkFits(t, n, wrong, true)
				if n > k {
					checkError(t, k, wrong, api.ErrForm)
					continue
				}
				data, e := Recover(k, wrong)
				if e != api.OK || len(data) != k || slices.Equal(data, rests(words(k, 3))) {
					t.Fatalf("Recover %d: %v, %d", k, data, e)
				}
				checkData(t, k, wrong, data)
				checkSymbols(t, data, wrong)
			}
		}
	}
}

// checkSymbols tells whether data has all these shares as its symbols.
func checkSymbols(t *testing.T, data []uint64, l []api.Share) {
	t.Helper()
	symbols := wantSymbols(data, 64)
	for _, s := range l {
		if symbols[s.At] != s.Symbol%p {
			t.Errorf("%v has %d at %d, not %d", data, symbols[s.At], s.At, s.Symbol)
		}
	}
}

// Data of one number more than k is not data of k numbers, unless that number is 0.
func TestP16OneNumberMore(t *testing.T) {
	for _, k := range []int{1, 2, 5, 31, 63} {
		data := words(k+1, 8)
		l := sharesOf(data, places(k+1, 21))
		checkError(t, k, l, api.ErrForm)
		checkFits(t, k, l, false)
		checkData(t, k+1, l, rests(data))
		data[k] = p
		l = sharesOf(data, places(k+1, 21))
		checkData(t, k, l, rests(data[:k]))
		checkData(t, k+1, l, rests(data))
	}
}

// At most as many shares as data has numbers always fit, none at all, too.
func TestP16FewSharesFit(t *testing.T) {
	for _, k := range counts() {
		checkFits(t, k, nil, true)
		checkFits(t, k, []api.Share{}, true)
		checkError(t, k, nil, api.ErrNone)
		checkError(t, k, []api.Share{}, api.ErrNone)
		for n := 1; n <= k; n++ {
			l := make([]api.Share, n)
			symbols := words(n, uint64(k))
			for i, at := range places(n, uint64(n)) {
				l[i] = api.Share{At: at, Symbol: symbols[i]}
			}
			checkFits(t, k, l, true)
			if n < k {
				checkError(t, k, l, api.ErrNone)
			}
		}
	}
}

// inverse of a number that is not 0.
func inverse(a uint64) uint64 {
	return power(a, p-2)
}

// solvable tells by elimination, row by row, whether there is data of k numbers with these
// shares: each share is a row of powers, and its symbol.
func solvable(k int, l []api.Share) bool {
	rows := make([][]uint64, len(l))
	for i, s := range l {
		for j := range k {
			rows[i] = append(rows[i], power(pointOf(s.At), uint64(j)))
		}
		rows[i] = append(rows[i], s.Symbol%p)
	}
	done := 0
	for column := range k {
		at := slices.IndexFunc(rows[done:], func(row []uint64) bool { return row[column] != 0 })
		if at < 0 {
			continue
		}
		rows[done], rows[done+at] = rows[done+at], rows[done]
		for i := done + 1; i < len(rows); i++ {
			by := product(rows[i][column], inverse(rows[done][column]))
			for j := range rows[i] {
				rows[i][j] = sum(rows[i][j], p-product(by, rows[done][j]))
			}
		}
		done++
	}
	// What is left of the rows is 0, so their symbols must be.
	return !slices.ContainsFunc(rows[done:], func(row []uint64) bool { return row[k] != 0 })
}

// Symbols of few kinds, so that some fit by chance: held against equations.
func TestP16AgainstEquations(t *testing.T) {
	fit, unfit := 0, 0
	for seed := range uint64(3000) {
		r := words(12, seed)
		n, k := int(r[0]>>20%6), 1+int(r[1]>>20%5)
		l := make([]api.Share, n)
		for i, at := range places(n, seed) {
			l[i] = api.Share{At: at, Symbol: []uint64{0, p, 3, p + 3}[r[i+2]>>30&3]}
		}
		want := solvable(k, l)
		checkFits(t, k, l, want)
		data, e := Recover(k, l)
		switch {
		case n < k:
			checkError(t, k, l, api.ErrNone)
		case !want:
			checkError(t, k, l, api.ErrForm)
			unfit++
		default:
			if e != api.OK || len(data) != k {
				t.Fatalf("Recover %d of %v: %v, %d", k, l, data, e)
			}
			checkSymbols(t, data, l)
			fit++
		}
	}
	if fit < 100 || unfit < 100 {
		t.Errorf("%d fit and %d do not: too few of a kind", fit, unfit)
	}
}

// wrongCounts are what no word may be made of.
func wrongCounts() []int {
	return []int{0, -1, 65, 66, 128, -64, 1 << 32, 1<<32 + 1, math.MinInt, math.MaxInt}
}

// wrongPlaces are places at which no share may stand.
func wrongPlaces() []int {
	return []int{-1, 64, 65, 127, 128, -64, 1 << 32, -1 << 32, 1<<32 + 5, math.MinInt, math.MaxInt}
}

func TestP16WrongCount(t *testing.T) {
	for _, k := range wrongCounts() {
		checkWrong(t, k, nil, api.ErrArg)
		checkWrong(t, k, sharesOf(words(3, 1), places(3, 1)), api.ErrArg)
		checkWrong(t, k, sharesOf(words(64, 1), places(64, 1)), api.ErrArg)
		// Ahead of what is wrong with the shares.
		checkWrong(t, k, []api.Share{{At: 64}}, api.ErrArg)
		checkWrong(t, k, []api.Share{{At: 1}, {At: 1}}, api.ErrArg)
	}
}

// A wrong place is told wherever it stands, ahead of too few shares, and of shares that don't fit.
func TestP16WrongPlace(t *testing.T) {
	for _, at := range wrongPlaces() {
		for _, n := range []int{0, 1, 2, 5, 63, 64} {
			l := sharesOf(words(2, 6), places(n, 6))
			for i := 0; i <= n; i += 1 + n/5 {
				wrong := slices.Insert(slices.Clone(l), i, api.Share{At: at, Symbol: 1})
				for _, k := range []int{1, 2, 3, 64} {
					checkWrong(t, k, wrong, api.ErrForm)
				}
			}
		}
	}
}

// Two shares of one place are wrong, also where they have one symbol, or where there would be
// enough without one of them.
func TestP16OnePlaceTwice(t *testing.T) {
	for _, n := range []int{1, 2, 5, 63, 64} {
		l := sharesOf(words(2, 6), places(n, 6))
		for i := 0; i < n; i += 1 + n/5 {
			for _, symbol := range []uint64{l[i].Symbol, l[i].Symbol + p, 0, 1} {
				twice := append(slices.Clone(l), api.Share{At: l[i].At, Symbol: symbol})
				for _, k := range []int{1, 2, 3, 64} {
					checkWrong(t, k, twice, api.ErrForm)
				}
				slices.Reverse(twice)
				checkWrong(t, 2, twice, api.ErrForm)
			}
		}
	}
	checkWrong(t, 1, make([]api.Share, 2), api.ErrForm)
	checkWrong(t, 64, make([]api.Share, 2), api.ErrForm)
	checkWrong(t, 1, make([]api.Share, 1<<20), api.ErrForm)
}

// What is encoded, with all but k symbols lost, is what was.
func TestP16ThereAndBack(t *testing.T) {
	for n := 1; n <= 64; n++ {
		k := 1 + n/2
		data := words(k, uint64(n))
		symbols, e := Encode(data, n)
		if e != api.OK {
			t.Fatal(n, e)
		}
		var l []api.Share
		for at := n - 1; at >= n-k; at-- {
			l = append(l, api.Share{At: at, Symbol: symbols[at]})
		}
		checkData(t, k, l, rests(data))
	}
}

// answers are what all calls tell of a number, data and shares.
type answers struct {
	symbols, data []uint64
	fits          bool
	errors        [3]api.Errno
}

func all(n int, data []uint64, l []api.Share) answers {
	var x answers
	x.symbols, x.errors[0] = Encode(data, n)
	x.data, x.errors[1] = Recover(n, l)
	x.fits, x.errors[2] = Fits(n, l)
	return x
}

func same(x, y answers) bool {
	return slices.Equal(x.symbols, y.symbols) && slices.Equal(x.data, y.data) && x.fits == y.fits && x.errors == y.errors
}

// given is what all calls are given.
type given struct {
	n    int
	data []uint64
	l    []api.Share
}

// everything is of all kinds, right and wrong.
func everything() []given {
	var l []given
	for _, n := range slices.Concat(counts(), wrongCounts()) {
		k := max(1, min(n, 64))
		data := words(k, 17)
		right := sharesOf(data, places(k, 2))
		wrong := slices.Clone(right)
		wrong[k/2].Symbol ^= 4
		l = append(l,
			given{n, nil, nil},
			given{n, data, right},
			given{n, data[:1], sharesOf(data, places(64, 2))},
			given{n, words(65, 1), wrong},
			given{n, make([]uint64, k), append(wrong, api.Share{At: 64})},
			given{n, data[:(k+1)/2], append(slices.Clone(right), right[0])},
		)
	}
	return l
}

// A panic in any of the calls fails the test.
func TestP1AnswersWhateverIsGiven(t *testing.T) {
	numbers := slices.Concat(counts(), wrongCounts(), wrongPlaces())
	for _, n := range numbers {
		for _, size := range []int{0, 1, 2, 63, 64, 65, 2048, 2049, 5000} {
			l := make([]api.Share, size)
			for i := range l {
				l[i] = api.Share{At: numbers[(i*i+size)%len(numbers)], Symbol: uint64(i) * math.MaxUint32}
			}
			all(n, words(size, 4), l)
		}
	}
	for _, c := range everything() {
		got := all(c.n, c.data, c.l)
		for _, x := range slices.Concat(got.symbols, got.data) {
			if x >= p {
				t.Errorf("%d: %d is told", c.n, x)
			}
		}
	}
}

// spoil writes over a list, its spare room included.
func spoil(a []uint64) {
	a = a[:cap(a)]
	for i := range a {
		a[i] = 0xdead
	}
}

// What is handed in stays as it is, the room behind it included, and what is told is written
// over without harm.
func TestP2MemoryOfItsOwn(t *testing.T) {
	for _, c := range everything() {
		data := append(slices.Clone(c.data), 11, 12, 13)
		l := append(slices.Clone(c.l), api.Share{At: 1, Symbol: 2}, api.Share{At: 99, Symbol: 3})
		keptData, keptShares := slices.Clone(data), slices.Clone(l)
		got, again := all(c.n, data[:len(c.data)], l[:len(c.l)]), all(c.n, c.data, c.l)
		if !same(got, again) {
			t.Errorf("%d: room behind what is handed in makes another answer", c.n)
		}
		spoil(got.symbols)
		spoil(got.data)
		if !slices.Equal(data, keptData) || !slices.Equal(l, keptShares) {
			t.Errorf("%d: what was handed in is changed", c.n)
		}
		if !same(all(c.n, c.data, c.l), again) {
			t.Errorf("%d: what was told is kept", c.n)
		}
	}
}

// What was handed in may be written over when the call has answered.
func TestP2NothingHandedInIsKept(t *testing.T) {
	for _, c := range everything() {
		data, l := slices.Clone(c.data), slices.Clone(c.l)
		got := all(c.n, data, l)
		spoil(data)
		clear(l)
		if !same(got, all(c.n, c.data, c.l)) {
			t.Errorf("%d: what was handed in is kept", c.n)
		}
	}
}

// The same things, gone through from both ends: what came ahead must not be seen in an answer.
func TestP2NothingIsKept(t *testing.T) {
	l := everything()
	var first []answers
	for _, c := range l {
		first = append(first, all(c.n, c.data, c.l))
	}
	for i := len(l) - 1; i >= 0; i-- {
		if !same(all(l[i].n, l[i].data, l[i].l), first[i]) {
			t.Errorf("%d: another answer", l[i].n)
		}
	}
}

// The order of the shares is not seen in an answer.
func TestP2OrderOfShares(t *testing.T) {
	for _, c := range everything() {
		turned := slices.Clone(c.l)
		slices.Reverse(turned)
		half := len(c.l) / 2
		round := slices.Concat(c.l[half:], c.l[:half])
		want := all(c.n, c.data, c.l)
		if !same(all(c.n, c.data, turned), want) || !same(all(c.n, c.data, round), want) {
			t.Errorf("%d: shares in another order make another answer", c.n)
		}
	}
}
