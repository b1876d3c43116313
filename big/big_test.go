package big

import (
	whole "math/big"
	"slices"
	"strings"
	"testing"
	"unsafe"

	"goldmill/api"
)

// digits are n digits of a fixed rule, the first of which isn't 0.
func digits(n int, seed uint64) string {
	l := make([]byte, n)
	x := seed
	for i := range l {
		x = x*6364136223846793005 + 1442695040888963407
		l[i] = '0' + byte((x>>33)%10)
	}
	if l[0] == '0' {
		l[0] = '3'
	}
	return string(l)
}

func nines(n int) string {
	return strings.Repeat("9", n)
}

// power is 10 times itself, n times.
func power(n int) string {
	return "1" + strings.Repeat("0", n)
}

// powerAndOne is a power of ten, of n noughts, and 1.
func powerAndOne(n int) string {
	return "1" + strings.Repeat("0", n-1) + "1"
}

// sizes are numbers of digits about all edges: of a limb, of a word, of a transform, of what
// there may be.
func sizes() []int {
	return []int{
		1, 2, 3, 7, 8, 9, 10, 15, 16, 17, 18, 19, 20, 21, 24, 25, 31, 32, 33, 63, 64, 65, 127, 128, 129,
		255, 256, 257, 511, 512, 513, 1000, 1023, 1024, 1025, 1991, 1992, 1993, 1999, 2000,
	}
}

// numbers are great numbers of all sizes: all nines, powers of ten, and digits of all kinds.
func numbers() []string {
	l := []string{
		"0", "1", "2", "5", "10", "42", "99999999", "100000000", "100000001", "4294967295", "4294967296",
		"18446744069414584320", "18446744069414584321", "18446744073709551615", "18446744073709551616",
	}
	for i, n := range sizes() {
		l = append(l, nines(n), power(n-1), digits(n, uint64(i)), strings.Repeat("5", n))
	}
	return l
}

// wrong are texts that are no great numbers, though short enough.
func wrong() []string {
	l := []string{
		"", "00", "01", "000", "007", "00000000", "000000000", "0" + nines(1999), strings.Repeat("0", 2000),
		" ", " 1", "1 ", "1 2", "\n", "1\n", "\t5", "-1", "+1", "-0", "--", "1.0", "1,000", "1_000", "1e5", "0x10",
		"a", "1a", "a1", "1a1", "/", ":", "1/", "1:", "/1", ":1", "\x00", "1\x00", "\x00" + "1", "\xff", "1\xff", "1\xb1",
		"\u0661", "1\u0662", "\uff11", "\u00b2", "ten", "NaN", "x" + nines(1999), nines(1999) + "x",
		nines(1000) + " " + nines(999), strings.Repeat("a", 2000), strings.Repeat("\xff", 2000),
	}
	// Each byte that is no digit, at each end and in the middle.
	for c := range 256 {
		if c < '0' || c > '9' {
			b := string([]byte{byte(c)})
			l = append(l, b, b+"12", "1"+b+"2", "12"+b, "12345678"+b+"12345678")
		}
	}
	return l
}

// long are texts of more bytes than there may be, great numbers or not.
func long() []string {
	return []string{
		nines(2001), power(2000), digits(2001, 3), strings.Repeat("0", 2001), strings.Repeat("a", 2001),
		"0" + nines(2000), nines(2000) + " ", nines(2000) + "\n", strings.Repeat("\xff", 2001), digits(2002, 4),
		digits(4000, 5), nines(1 << 16), strings.Repeat("x", 1<<20),
	}
}

func everything() []string {
	return slices.Concat(numbers(), wrong(), long())
}

// wantError is what Check tells, as the promise has it.
func wantError(s string) api.Errno {
	if len(s) > 2000 {
		return api.ErrLarge
	}
	// Digits alone, and as they are told again.
	if strings.Trim(s, "0123456789") != "" || s == "" || parsed(s).String() != s {
		return api.ErrSyntax
	}
	return api.OK
}

// wantErrorOfBoth is the first one of a's error and b's.
func wantErrorOfBoth(a, b string) api.Errno {
	if e := wantError(a); e != api.OK {
		return e
	}
	return wantError(b)
}

// parsed is a great number as one of the library's, which the program may not use.
func parsed(s string) *whole.Int {
	x, _ := new(whole.Int).SetString(s, 10)
	return x
}

func brief(s string) string {
	if len(s) > 50 {
		return s[:20] + ".." + s[len(s)-20:]
	}
	return s
}

func checkText(t *testing.T, name, a, b, got string, e api.Errno, want string) {
	t.Helper()
	if e != api.OK || got != want {
		t.Errorf("%s of %q and %q: %q, %d, want %q, OK", name, brief(a), brief(b), brief(got), e, brief(want))
	}
}

func TestP15Check(t *testing.T) {
	for _, s := range numbers() {
		if e := Check(s); e != api.OK {
			t.Errorf("Check of %q: error %d", brief(s), e)
		}
	}
	for c := range 10 {
		if e := Check(string(rune('0' + c))); e != api.OK {
			t.Errorf("Check of %d: error %d", c, e)
		}
	}
}

func TestP15CheckSyntax(t *testing.T) {
	for _, s := range wrong() {
		if e := Check(s); e != api.ErrSyntax {
			t.Errorf("Check of %q: error %d", brief(s), e)
		}
	}
}

// Too many bytes are told ahead of what they are.
func TestP15CheckLarge(t *testing.T) {
	for _, s := range long() {
		if e := Check(s); e != api.ErrLarge {
			t.Errorf("Check of %d bytes, %q: error %d", len(s), brief(s), e)
		}
	}
}

// All texts of few bytes, of digits and of their neighbours.
func TestP15CheckShortTexts(t *testing.T) {
	texts := []string{""}
	for first := 0; len(texts) < 2000; {
		last := len(texts)
		for _, s := range texts[first:last] {
			for _, c := range "0159/: -" {
				texts = append(texts, s+string(c))
			}
		}
		first = last
	}
	for _, s := range texts {
		if e := Check(s); e != wantError(s) {
			t.Errorf("Check of %q: error %d, want %d", s, e, wantError(s))
		}
	}
}

func TestP15Cmp(t *testing.T) {
	for _, c := range []struct {
		a, b string
		want int
	}{
		{"0", "0", 0}, {"0", "1", -1}, {"1", "0", 1}, {"9", "10", -1}, {"10", "9", 1}, {"99", "100", -1},
		{"12", "21", -1}, {"21", "12", 1}, {"123456789", "123456789", 0}, {"123456789", "123456788", 1},
		{"200000000", "199999999", 1}, {"100000001", "100000002", -1}, {"99999999", "100000000", -1},
		{"18446744073709551616", "1", 1}, {"18446744069414584321", "0", 1},
		{nines(2000), nines(1999), 1}, {power(1999), nines(1999), 1}, {nines(1999) + "8", nines(2000), -1},
		{nines(2000), nines(2000), 0}, {"1" + nines(1999), "2" + strings.Repeat("0", 1999), -1},
	} {
		if got, e := Cmp(c.a, c.b); e != api.OK || got != c.want {
			t.Errorf("Cmp of %q and %q: %d, %d", brief(c.a), brief(c.b), got, e)
		}
	}
	for _, a := range numbers() {
		for _, b := range numbers() {
			if got, e := Cmp(a, b); e != api.OK || got != parsed(a).Cmp(parsed(b)) {
				t.Errorf("Cmp of %q and %q: %d, %d", brief(a), brief(b), got, e)
			}
		}
	}
}

// A digit that is another one, wherever it stands, is seen.
func TestP15CmpEachPlace(t *testing.T) {
	for _, n := range []int{1, 8, 9, 17, 2000} {
		a := strings.Repeat("5", n)
		for i := range n {
			less, more := a[:i]+"4"+a[i+1:], a[:i]+"6"+a[i+1:]
			if got, e := Cmp(less, a); e != api.OK || got != -1 {
				t.Errorf("Cmp of %d digits, place %d less: %d, %d", n, i, got, e)
			}
			if got, e := Cmp(more, a); e != api.OK || got != 1 {
				t.Errorf("Cmp of %d digits, place %d more: %d, %d", n, i, got, e)
			}
		}
	}
}

func TestP15Add(t *testing.T) {
	for _, c := range [][3]string{
		{"0", "0", "0"}, {"0", "7", "7"}, {"7", "0", "7"}, {"5", "5", "10"}, {"999", "1", "1000"}, {"1", "999", "1000"},
		{"99999999", "1", "100000000"}, {"99999999", "99999999", "199999998"}, {"100000000", "1", "100000001"},
		{"123456789", "987654321", "1111111110"}, {"9999999999999999", "1", "10000000000000000"},
		{"18446744073709551615", "1", "18446744073709551616"}, {"18446744069414584320", "1", "18446744069414584321"},
		{nines(2000), "1", power(2000)}, {"1", nines(2000), power(2000)}, {nines(2000), "0", nines(2000)},
		{nines(2000), nines(2000), "1" + nines(1999) + "8"}, {power(1999), "1", powerAndOne(1999)},
	} {
		got, e := Add(c[0], c[1])
		checkText(t, "Add", c[0], c[1], got, e, c[2])
	}
	for _, a := range numbers() {
		for _, b := range numbers() {
			got, e := Add(a, b)
			checkText(t, "Add", a, b, got, e, new(whole.Int).Add(parsed(a), parsed(b)).String())
		}
	}
}

// What is carried goes through as many digits as there are nines.
func TestP15AddEachCarry(t *testing.T) {
	for n := 1; n <= 2000; n++ {
		got, e := Add(nines(n), "1")
		checkText(t, "Add", nines(n), "1", got, e, power(n))
	}
}

func TestP15Mul(t *testing.T) {
	for _, c := range [][3]string{
		{"0", "0", "0"}, {"0", "7", "0"}, {"7", "0", "0"}, {"1", "7", "7"}, {"3", "4", "12"}, {"99", "99", "9801"},
		{"0", nines(2000), "0"}, {nines(2000), "0", "0"}, {nines(2000), "1", nines(2000)}, {"1", nines(2000), nines(2000)},
		{"10000", "10000", "100000000"}, {"99999999", "99999999", "9999999800000001"}, {"100000000", "100000000", power(16)},
		{"4294967296", "4294967296", "18446744073709551616"}, {"18446744069414584321", "1", "18446744069414584321"},
		{"12345678901234567890", "98765432109876543210", "1219326311370217952237463801111263526900"},
		{nines(2000), nines(2000), nines(1999) + "8" + strings.Repeat("0", 1999) + "1"},
		{power(1999), power(1999), power(3998)}, {nines(2000), "9", "8" + nines(1999) + "1"},
	} {
		got, e := Mul(c[0], c[1])
		checkText(t, "Mul", c[0], c[1], got, e, c[2])
	}
	for _, a := range numbers() {
		for _, b := range numbers() {
			got, e := Mul(a, b)
			checkText(t, "Mul", a, b, got, e, new(whole.Int).Mul(parsed(a), parsed(b)).String())
		}
	}
}

// The greatest products of each size: all sums that they are made of are as great as they may be.
func TestP15MulEachSize(t *testing.T) {
	for n := 1; n <= 2000; n++ {
		got, e := Mul(nines(n), nines(n))
		checkText(t, "Mul", nines(n), nines(n), got, e, nines(n-1)+"8"+strings.Repeat("0", n-1)+"1")
	}
}

// Each power of ten times each moves the digits, and no more.
func TestP15MulEachPlace(t *testing.T) {
	for n := range 40 {
		for m := range 40 {
			got, e := Mul("7"+strings.Repeat("0", n), "8"+strings.Repeat("0", m))
			checkText(t, "Mul", power(n), power(m), got, e, "56"+strings.Repeat("0", n+m))
		}
	}
}

// All small numbers, by the machine's own reckoning.
func TestP15SmallNumbers(t *testing.T) {
	for a := range int64(120) {
		for b := range int64(120) {
			x, y := whole.NewInt(a).String(), whole.NewInt(b).String()
			got, e := Add(x, y)
			checkText(t, "Add", x, y, got, e, whole.NewInt(a+b).String())
			got, e = Mul(x, y)
			checkText(t, "Mul", x, y, got, e, whole.NewInt(a*b).String())
		}
	}
}

// answers are what all calls tell of two texts.
type answers struct {
	checks       [2]api.Errno
	order        int
	sum, product string
	errors       [3]api.Errno
}

func all(a, b string) answers {
	var x answers
	x.checks = [2]api.Errno{Check(a), Check(b)}
	x.order, x.errors[0] = Cmp(a, b)
	x.sum, x.errors[1] = Add(a, b)
	x.product, x.errors[2] = Mul(a, b)
	return x
}

// some are a few texts of each kind, so that all pairs of them may be gone through.
func some() []string {
	return []string{
		"0", "1", "10", "99999999", digits(100, 1), digits(777, 2), nines(2000), power(1999),
		"", "00", "01", "x", "1x", "-1", "0" + nines(1999), strings.Repeat("\xff", 2000),
		nines(2001), power(2000), strings.Repeat("x", 2001), strings.Repeat("0", 5000),
	}
}

// Check's error of a is told, else that of b; and nothing beside an error.
func TestP15ErrorsInOrder(t *testing.T) {
	for _, a := range some() {
		for _, b := range some() {
			e := wantErrorOfBoth(a, b)
			got := all(a, b)
			if got.errors != [3]api.Errno{e, e, e} {
				t.Errorf("%q and %q: errors %d, want %d", brief(a), brief(b), got.errors, e)
			}
			if e != api.OK && (got.order != 0 || got.sum != "" || got.product != "") {
				t.Errorf("%q and %q: more than an error is told", brief(a), brief(b))
			}
		}
	}
	for _, s := range slices.Concat(wrong(), long()) {
		e := wantError(s)
		for _, got := range []answers{all(s, "5"), all("5", s), all(s, s)} {
			if got.errors != [3]api.Errno{e, e, e} || got.order != 0 || got.sum != "" || got.product != "" {
				t.Errorf("%q: %v, want error %d alone", brief(s), got.errors, e)
			}
		}
	}
}

// A panic in any of the calls fails the test.
func TestP1AnswersWhateverIsGiven(t *testing.T) {
	for n := range 2100 {
		bytes := make([]byte, n)
		for i := range bytes {
			bytes[i] = byte(i*i + n)
		}
		all(string(bytes), "17")
		all("17", string(bytes))
		all(string(bytes), string(bytes))
	}
	for _, s := range everything() {
		all(s, s)
	}
}

// share tells whether two texts have memory in common.
func share(a, b string) bool {
	if a == "" || b == "" {
		return false
	}
	x, y := uintptr(unsafe.Pointer(unsafe.StringData(a))), uintptr(unsafe.Pointer(unsafe.StringData(b)))
	return x < y+uintptr(len(b)) && y < x+uintptr(len(a))
}

// What is told shares nothing with what was handed in, also where it is the same text.
func TestP2MemoryOfItsOwn(t *testing.T) {
	for _, s := range numbers() {
		for _, other := range []string{"0", "1", s} {
			a, b := strings.Clone(s), strings.Clone(other)
			for _, got := range []answers{all(a, b), all(b, a)} {
				if share(got.sum, a) || share(got.sum, b) || share(got.product, a) || share(got.product, b) {
					t.Errorf("%q and %q: an answer shares memory with them", brief(a), brief(b))
				}
			}
		}
	}
}

// What is handed in is not changed, nor kept: it may be written over when the call has answered.
func TestP2NothingHandedInIsKept(t *testing.T) {
	for _, s := range some() {
		for _, other := range some() {
			x, y := append([]byte(s), "678"...), append([]byte(other), "345"...)
			a, b := unsafe.String(&x[0], len(s)), unsafe.String(&y[0], len(other))
			got := all(a, b)
			if string(x) != s+"678" || string(y) != other+"345" {
				t.Errorf("%q and %q: what was handed in is changed", brief(s), brief(other))
			}
			for i := range x {
				x[i] = '#'
			}
			for i := range y {
				y[i] = '#'
			}
			if got != all(s, other) {
				t.Errorf("%q and %q: what was handed in is kept", brief(s), brief(other))
			}
		}
	}
}

// The same texts, gone through from both ends: what came ahead must not be seen in an answer.
func TestP2NothingIsKept(t *testing.T) {
	l := everything()
	var first []answers
	for i, s := range l {
		first = append(first, all(s, l[len(l)-1-i]), all(s, s))
	}
	for i := len(l) - 1; i >= 0; i-- {
		if all(l[i], l[len(l)-1-i]) != first[2*i] || all(l[i], l[i]) != first[2*i+1] {
			t.Errorf("%q: another answer", brief(l[i]))
		}
	}
}
