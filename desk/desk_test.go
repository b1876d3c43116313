package desk

import (
	"math"
	"math/big"
	"slices"
	"strconv"
	"strings"
	"testing"
	"unsafe"

	"goldmill/api"
	"goldmill/conv"
	"goldmill/field"
	"goldmill/ntt"
	"goldmill/plan"
	"goldmill/share"
)

const p = api.P

// words are n words of a fixed rule, spread over all 64 bits.
func words(n int, seed uint64) []uint64 {
	l := make([]uint64, n)
	x := seed
	for i := range l {
		x = x*6364136223846793005 + 1442695040888963407
		l[i] = x ^ x>>29
	}
	return l
}

// edges are numbers about all bounds.
func edges() []uint64 {
	return []uint64{
		0, 1, 2, 3, 9, 10, 31, 32, 33, 63, 64, 65, 99, 100, 999_999_999, 1_000_000_000, 1_000_000_001, 1<<31 - 1, 1 << 31,
		1<<32 - 1, 1 << 32, 1<<32 + 1, 1<<32 + 3, 1<<63 - 1, 1 << 63, 1<<63 + 5, p - 2, p - 1, p, p + 1, math.MaxUint64 - 1, math.MaxUint64,
	}
}

func number(x uint64) string {
	return strconv.FormatUint(x, 10)
}

// list tells numbers with a blank ahead of each.
func list(a []uint64) string {
	var b strings.Builder
	for _, x := range a {
		b.WriteString(" " + number(x))
	}
	return b.String()
}

func failure(e api.Errno) string {
	return "error " + strconv.Itoa(int(e)) + "\n"
}

// wantNumber is the answer that tells a number, or an error.
func wantNumber(x uint64, e api.Errno) string {
	if e != api.OK {
		return failure(e)
	}
	return number(x) + "\n"
}

// wantList is the answer that tells numbers, or an error.
func wantList(a []uint64, e api.Errno) string {
	if e != api.OK {
		return failure(e)
	}
	if len(a) == 0 {
		return "none\n"
	}
	return list(a)[1:] + "\n"
}

func brief(s string) string {
	if len(s) > 100 {
		return s[:60] + ".." + s[len(s)-30:]
	}
	return s
}

func check(t *testing.T, text, want string) {
	t.Helper()
	if got := Run(text); got != want {
		t.Errorf("%q (%d bytes): %q, want %q", brief(text), len(text), brief(got), brief(want))
	}
}

// checkLine holds one line alone, with and without its byte 10, and among others.
func checkLine(t *testing.T, line, want string) {
	t.Helper()
	check(t, line, want)
	check(t, line+"\n", want)
	check(t, "add 1 2\n"+line+"\nadd 3 4", "3\n"+want+"7\n")
}

// pair is a line, and the answer to it.
type pair struct{ line, want string }

// known are lines of each kind, right and wrong, with their answers.
func known() []pair {
	return []pair{
		{"add 18446744069414584320 3", "2\n"},
		{"add 0 0", "0\n"},
		{"add 18446744073709551615 18446744073709551615", "8589934588\n"},
		{"sub 1 2", "18446744069414584320\n"},
		{"sub 2 1", "1\n"},
		{"mul 4294967296 4294967296", "4294967295\n"},
		{"mul 18446744069414584321 5", "0\n"},
		{"pow 2 10", "1024\n"},
		{"pow 10 2", "100\n"},
		{"pow 0 0", "1\n"},
		{"inv 0", "error 4\n"},
		{"inv 18446744069414584321", "error 4\n"},
		{"inv 1", "1\n"},
		{"inv 2", "9223372034707292161\n"},
		{"root 0", "1\n"},
		{"root 1", "18446744069414584320\n"},
		{"root 2", "281474976710656\n"},
		{"root 33", "error 1\n"},
		{"root 4294967296", "error 1\n"},
		{"root 18446744073709551615", "error 1\n"},
		{"ntt 1 0", "1 1\n"},
		{"ntt 1 0 0 0", "1 1 1 1\n"},
		{"ntt 18446744073709551615", "4294967294\n"},
		{"ntt 1 2 3", "error 5\n"},
		{"ntt", "error 5\n"},
		{"back 8 18446744069414584319", "3 5\n"},
		{"back 7", "7\n"},
		{"back 1 2 3", "error 5\n"},
		{"back", "error 5\n"},
		{"cyclic 1 2 / 3 4", "11 10\n"},
		{"cyclic 1 / 1 2", "error 5\n"},
		{"cyclic 1 2 3 / 1 2 3", "error 5\n"},
		{"cyclic /", "error 5\n"},
		{"cyclic", "error 3\n"},
		{"cyclic 1 2 3 4", "error 3\n"},
		{"cyclic 1 / 1 / 1", "error 3\n"},
		{"linear 1 2 / 3 4", "3 10 8\n"},
		{"linear 1 2 3 / 4", "4 8 12\n"},
		{"linear 1 2 3 / 1 1", "1 3 5 3\n"},
		{"linear / 1", "none\n"},
		{"linear 1 /", "none\n"},
		{"linear /", "none\n"},
		{"linear 1", "error 3\n"},
		{"linear", "error 3\n"},
		{"linear / /", "error 3\n"},
		{"linear 1/2", "error 3\n"},
		{"linear 1 // 2", "error 3\n"},
		{"linear 1/ 2", "error 3\n"},
		{"linear 1 /2", "error 3\n"},
		{"linear x / 1", "error 3\n"},
		{"linear 1 / x", "error 3\n"},
		{"sum 999 1", "1000\n"},
		{"sum 18446744073709551616 18446744073709551616", "36893488147419103232\n"},
		{"sum 0 0", "0\n"},
		{"sum 01 1", "error 3\n"},
		{"sum 1 x", "error 3\n"},
		{"times 99 99", "9801\n"},
		{"times 0 01", "error 3\n"},
		{"times 0 5", "0\n"},
		{"plan 3 4 2", "0:0-2\n1:0-3 1:3-4\nok\n"},
		{"plan 1 2", "0:0-1\nok\n"},
		{"plan 1 1 1 1", "0:0-1\n1:0-1\n2:0-1\nok\n"},
		{"plan 1 3", "error 1\n"},
		{"plan 1", "error 1\n"},
		{"plan 0 2", "error 1\n"},
		{"plan 0 2048", "error 2\n"},
		{"plan 0 64 32", "error 2\n"},
		{"plan 1 1 1 1 1", "error 1\n"},
		{"plan 1 2 128", "error 2\n"},
		{"plan 18446744073709551615 2 2", "0:0-2\n1:0-2\nok\n"},
		{"plan 1 536870912", "error 2\n"},
		{"plan 1 1073741824", "error 1\n"},
		{"plan 1 1099511627776", "error 1\n"},
		{"plan 1 4294967298", "error 1\n"},
		{"plan 1 18446744073709551615", "error 1\n"},
		{"plan", "error 3\n"},
		{"share 3 5", "5 5 5\n"},
		{"share 1 7", "7\n"},
		{"share 1 18446744069414584322", "1\n"},
		{"share 1 1 1", "error 1\n"},
		{"share 3", "error 1\n"},
		{"share 0 1", "error 1\n"},
		{"share 65 1", "error 1\n"},
		{"share 4294967297 1", "error 1\n"},
		{"share 18446744073709551615 1", "error 1\n"},
		{"share", "error 3\n"},
		{"x", "error 3\n"},
	}
}

func TestP18Known(t *testing.T) {
	for _, c := range known() {
		checkLine(t, c.line, c.want)
	}
}

// What is answered to a line does not hang on those ahead of it, nor on those behind it.
func TestP18LineByLine(t *testing.T) {
	var text, want strings.Builder
	for _, c := range known() {
		text.WriteString(c.line + "\n")
		want.WriteString(c.want)
	}
	check(t, text.String(), want.String())
	check(t, strings.TrimSuffix(text.String(), "\n"), want.String())
	for _, c := range known() {
		for _, d := range known() {
			check(t, c.line+"\n"+d.line+"\n"+c.line, c.want+d.want+c.want)
		}
	}
}

func TestP18LinesWithoutAnswer(t *testing.T) {
	for _, line := range []string{"", " ", "     ", "#", "# no", "#no", "#add 1 2", "# add 1 2", "   # no", "  #", "##", "#\t", "#\xff", "#\x00", "# error"} {
		checkLine(t, line, "")
		check(t, strings.Repeat(line+"\n", 200), "")
	}
	check(t, "\n\n\nadd 1 2\n\n\n# x\nadd 1 3\n\n", "3\n4\n")
	// A mark that stands elsewhere is none.
	for _, line := range []string{"add# 1 2", "add 1 2 #", "add 1 2 # no", "add #1 2", "ntt 1 # 2", "x#", "\t#", "\x00#"} {
		checkLine(t, line, "error 3\n")
	}
}

// None but the byte 32 stands between words, and any number of it.
func TestP18Blanks(t *testing.T) {
	for _, line := range []string{"add 1 2", " add 1 2", "add 1 2 ", "  add   1    2   ", "add  1 2" + strings.Repeat(" ", 5000)} {
		checkLine(t, line, "3\n")
	}
	checkLine(t, "  linear  1   2 /  3    4 ", "3 10 8\n")
	checkLine(t, "   plan 3   4  2  ", "0:0-2\n1:0-3 1:3-4\nok\n")
	checkLine(t, " sum  999   1 ", "1000\n")
	for _, other := range []string{"\t", "\r", "\v", "\f", "\x00", "\u00a0", "\u2003", "\u0085", "\xa0", "\x85", ",", "_"} {
		for _, line := range []string{
			"add" + other + "1 2", "add 1" + other + "2", "add 1 2" + other, other + "add 1 2", "add 1 2 " + other, other + " add 1 2", other,
			"sum 1" + other + "2", "sum 1 2" + other, "plan 3 4" + other + "2", "share 3 5" + other, "linear 1 /" + other + "3", "ntt 1" + other + "0",
			"linear 1" + other + "/ 3", "ntt " + other, "cyclic " + other + " / 1",
		} {
			checkLine(t, line, "error 3\n")
		}
	}
}

// The lines of a script: the last one may be without its byte 10.
func TestP18TooManyLines(t *testing.T) {
	for _, line := range []string{"add 1 2", "", "# no", " ", "x", "plan 3 4 2", "inv 0"} {
		want := Run(line)
		check(t, strings.Repeat(line+"\n", 199), strings.Repeat(want, 199))
		check(t, strings.Repeat(line+"\n", 200), strings.Repeat(want, 200))
		check(t, strings.Repeat(line+"\n", 199)+"add 1 2", strings.Repeat(want, 199)+"3\n")
		check(t, strings.Repeat(line+"\n", 200)+"add 1 2", "error 2\n")
		check(t, strings.Repeat(line+"\n", 200)+" ", "error 2\n")
		check(t, strings.Repeat(line+"\n", 200)+"#", "error 2\n")
		check(t, strings.Repeat(line+"\n", 201), "error 2\n")
		check(t, strings.Repeat(line+"\n", 5000), "error 2\n")
	}
	check(t, strings.Repeat("\n", 65536), "error 2\n")
}

func TestP18TooManyBytes(t *testing.T) {
	check(t, "add 1 2"+strings.Repeat(" ", 65536-7), "3\n")
	check(t, "add 1 2"+strings.Repeat(" ", 65536-8)+"\n", "3\n")
	check(t, "add 1 2"+strings.Repeat(" ", 65537-7), "error 2\n")
	check(t, "add 1 2"+strings.Repeat(" ", 65537-8)+"\n", "error 2\n")
	check(t, strings.Repeat("x", 65536), "error 3\n")
	check(t, strings.Repeat("x", 65537), "error 2\n")
	check(t, "#"+strings.Repeat("x", 65535), "")
	check(t, "#"+strings.Repeat("x", 65536), "error 2\n")
	check(t, strings.Repeat(" ", 65536), "")
	check(t, strings.Repeat(" ", 65537), "error 2\n")
	check(t, "add 1 2\n"+strings.Repeat("x", 1<<20), "error 2\n")
	check(t, strings.Repeat("\n", 1<<20), "error 2\n")
}

func TestP18Empty(t *testing.T) {
	check(t, "", "")
	check(t, "\n", "")
	check(t, "\n\n", "")
}

// names are the first words of a line, each with how many words at least, and at most, stand
// behind it.
func names() map[string][2]int {
	return map[string][2]int{
		"add": {2, 2}, "sub": {2, 2}, "mul": {2, 2}, "pow": {2, 2}, "inv": {1, 1}, "root": {1, 1}, "sum": {2, 2}, "times": {2, 2},
		"ntt": {0, 5000}, "back": {0, 5000}, "plan": {1, 5000}, "share": {1, 5000},
	}
}

func TestP18Counts(t *testing.T) {
	for name, bounds := range names() {
		for _, n := range []int{0, 1, 2, 3, 4, 5, 8, 100, 2000} {
			got := Run(name + strings.Repeat(" 1", n))
			if wrong := n < bounds[0] || n > bounds[1]; wrong != (got == "error 3\n") {
				t.Errorf("%s with %d words: %q", name, n, brief(got))
			}
		}
	}
}

func TestP18UnknownNames(t *testing.T) {
	l := []string{"x", "Add", "ADD", "adds", "ad", "a", "add1", "add,", "inverse", "roots", "fft", "nttt", "skew", "cmp", "ok", "none", "error", "/", "1", "0", "eval", "\xff"}
	for name := range names() {
		l = append(l, name+"x", "x"+name, name[:len(name)-1], strings.ToUpper(name), name+"\x00", "/"+name)
	}
	for _, name := range l {
		for _, rest := range []string{"", " 1", " 1 2", " 1 / 2", " 3 4 2"} {
			checkLine(t, name+rest, "error 3\n")
		}
	}
}

// noNumbers are words that are no numbers of 64 bits, in decimal without noughts ahead.
func noNumbers() []string {
	l := []string{
		"00", "01", "007", "000000000000000000000001", "018446744073709551615", "18446744073709551616", "18446744073709551620",
		"99999999999999999999", "100000000000000000000", "36893488147419103233", "-1", "+1", "-0", "+0", "--1", "0x1", "0b1", "0o1", "0X1",
		"1_0", "1_000", "1,0", "1.0", "1.", ".1", "1e3", "a", "ff", "1a", "a1", "one", "x", "N", "NaN", "Inf", "\x00", "1\x00", "\xff", "1\xff",
		"\u0661", "\uff11", "\u00b2", "1\t", "\t1", "1\r", "/", "1/", "/1", "//", "#", "#1", "'1'", "\"1\"", strings.Repeat("0", 100), strings.Repeat("9", 3000),
	}
	for c := range 256 {
		if (c < '0' || c > '9') && c != ' ' && c != '\n' {
			b := string([]byte{byte(c)})
			l = append(l, b+"1", "1"+b, "1"+b+"1")
		}
	}
	return l
}

func TestP18WrongNumbers(t *testing.T) {
	for _, word := range noNumbers() {
		for _, line := range []string{
			"add N 1", "add 1 N", "sub N 1", "sub 1 N", "mul N 1", "mul 1 N", "pow N 1", "pow 1 N", "inv N", "root N",
			"ntt N", "ntt 1 N", "ntt N 1", "back N", "back 1 N", "back 1 2 N", "plan N 2", "plan 1 N", "plan 1 2 N", "share N 1", "share 3 N", "share 3 1 N",
		} {
			checkLine(t, strings.ReplaceAll(line, "N", word), "error 3\n")
		}
		if word == "/" {
			continue
		}
		for _, line := range []string{
			"cyclic N / 1", "cyclic 1 / N", "cyclic 1 N / 1 2", "linear N / 1", "linear 1 / N", "linear / N", "linear N /",
			"cyclic 1 N 1", "linear 1 N 1",
		} {
			checkLine(t, strings.ReplaceAll(line, "N", word), "error 3\n")
		}
	}
}

// A word that can't be read is told ahead of all that the calls tell.
func TestP18SyntaxFirst(t *testing.T) {
	for _, line := range []string{
		"inv 0 x", "root 33 1", "root 33 x", "ntt 1 2 x", "ntt" + strings.Repeat(" 1", 1025) + " x", "back 1 2 01", "cyclic 1 / 1 2 x", "cyclic 01 / 1 2",
		"linear" + strings.Repeat(" 1", 1025) + " / x", "linear" + strings.Repeat(" 1", 1025), "sum " + strings.Repeat("9", 2001), "sum " + strings.Repeat("9", 2001) + " 1 1",
		"times x", "plan 0 3 x", "plan 0 x", "plan x", "plan 1 4096 x", "share 0 x", "share x", "share 1 1 1 x", "share 65 -1",
	} {
		checkLine(t, line, "error 3\n")
	}
}

func TestP18Field(t *testing.T) {
	l := append(edges(), words(10, 1)...)
	for _, a := range l {
		for _, b := range l {
			both := list([]uint64{a, b})
			checkLine(t, "add"+both, wantNumber(field.Add(a, b), api.OK))
			checkLine(t, "sub"+both, wantNumber(field.Sub(a, b), api.OK))
			checkLine(t, "mul"+both, wantNumber(field.Mul(a, b), api.OK))
			checkLine(t, "pow"+both, wantNumber(field.Pow(a, b), api.OK))
		}
		checkLine(t, "inv "+number(a), wantNumber(field.Inv(a)))
	}
}

func TestP18Root(t *testing.T) {
	for k := range 33 {
		checkLine(t, "root "+strconv.Itoa(k), wantNumber(field.Root(k)))
	}
	// Those whose lower bits are from 0 to 32, too.
	for _, k := range append(edges(), words(50, 7)...) {
		for _, x := range []uint64{k, k | 1<<32, k&31 | 1<<32, k&31 | 1<<63, k&31 | 1<<62, k&31 | 256, k&31 | 1<<16} {
			if x > 32 {
				checkLine(t, "root "+number(x), "error 1\n")
			}
		}
	}
}

func TestP18Transforms(t *testing.T) {
	for _, n := range []int{0, 1, 2, 3, 4, 5, 7, 8, 9, 16, 31, 32, 64, 100, 256, 512, 1000, 1023, 1024, 1025, 2048} {
		for seed := range uint64(3) {
			a := words(n, seed)
			checkLine(t, "ntt"+list(a), wantList(ntt.Forward(a)))
			checkLine(t, "back"+list(a), wantList(ntt.Inverse(a)))
		}
	}
	checkLine(t, "ntt"+strings.Repeat(" 0", 30000), "error 5\n")
}

// Forward and back is what was.
func TestP18ForwardAndBack(t *testing.T) {
	for _, n := range []int{1, 2, 8, 64, 1024} {
		a := words(n, 5)
		for i := range a {
			a[i] %= p
		}
		check(t, "back "+Run("ntt"+list(a)), list(a)[1:]+"\n")
		check(t, "ntt "+Run("back"+list(a)), list(a)[1:]+"\n")
	}
}

func TestP18Products(t *testing.T) {
	sizes := []int{0, 1, 2, 3, 4, 5, 8, 16, 33, 64, 512, 513, 1023, 1024, 1025}
	for _, n := range sizes {
		for _, m := range sizes {
			a, b := words(n, uint64(n)), words(m, uint64(m)+1)
			both := list(a) + " /" + list(b)
			check(t, "cyclic"+both, wantList(conv.Cyclic(a, b)))
			check(t, "linear"+both, wantList(conv.Linear(a, b)))
		}
	}
}

// digits are n digits of a fixed rule, the first of which isn't 0.
func digits(n int, seed uint64) string {
	l := make([]byte, n)
	for i, x := range words(n, seed) {
		l[i] = '0' + byte(x>>33%10)
	}
	if l[0] == '0' {
		l[0] = '3'
	}
	return string(l)
}

func parsed(s string) *big.Int {
	x, _ := new(big.Int).SetString(s, 10)
	return x
}

func TestP18GreatNumbers(t *testing.T) {
	l := []string{"0", "1", "18446744073709551616"}
	for i, n := range []int{1, 2, 8, 9, 20, 100, 999, 1999, 2000} {
		l = append(l, strings.Repeat("9", n), digits(n, uint64(i)))
	}
	for _, a := range l {
		for _, b := range l {
			x, y := parsed(a), parsed(b)
			checkLine(t, "sum "+a+" "+b, new(big.Int).Add(x, y).String()+"\n")
			checkLine(t, "times "+a+" "+b, new(big.Int).Mul(x, y).String()+"\n")
		}
	}
}

// The error of the first word comes ahead of that of the second.
func TestP18WrongGreatNumbers(t *testing.T) {
	long := strings.Repeat("9", 2001)
	for _, name := range []string{"sum ", "times "} {
		checkLine(t, name+long+" 1", "error 2\n")
		checkLine(t, name+"1 "+long, "error 2\n")
		checkLine(t, name+long+" x", "error 2\n")
		checkLine(t, name+"x "+long, "error 3\n")
		checkLine(t, name+strings.Repeat("x", 2001)+" 1", "error 2\n")
		for _, word := range []string{"01", "00", "-1", "+1", "x", "1x", "1.5", "/", "\xff", "1\t", "0x1"} {
			checkLine(t, name+word+" 1", "error 3\n")
			checkLine(t, name+"1 "+word, "error 3\n")
		}
	}
}

// bounded is a number as the calls that take an int are handed it.
func bounded(x uint64) int {
	if x > 1_000_000_000 {
		return 1_000_000_000
	}
	return int(x)
}

func wantPlan(cut uint64, sizes []uint64) string {
	var shape []int
	for _, x := range sizes {
		shape = append(shape, bounded(x))
	}
	l, e := plan.Make(shape, bounded(cut))
	if e != api.OK {
		return failure(e)
	}
	return plan.Print(l) + "ok\n"
}

func TestP18Plans(t *testing.T) {
	cuts := append(edges(), 4, 5, 7, 16, 128, 1023, 1024)
	shapes := [][]uint64{
		nil, {0}, {1}, {2}, {3}, {64}, {1024}, {2048}, {2, 2}, {4, 2}, {2, 64}, {2, 128}, {64, 2}, {128, 2}, {32, 32}, {64, 32}, {1, 1, 1}, {8, 16, 8},
		{16, 16, 8}, {2, 3, 2}, {2, 0}, {1, 1, 1, 1}, {1 << 29}, {1 << 30}, {1 << 32}, {1 << 40}, {1 << 63}, {2, 1 << 29}, {2, 1 << 30}, {2, 1 << 63},
		{1<<32 + 2}, {1<<32 + 2, 2}, {1<<63 + 2}, {math.MaxUint64}, {2, math.MaxUint64}, {2, 2, 2, 2, 2}, words(3, 4), words(100, 5),
	}
	for _, cut := range cuts {
		for _, shape := range shapes {
			checkLine(t, "plan "+number(cut)+list(shape), wantPlan(cut, shape))
		}
	}
}

func TestP18Shares(t *testing.T) {
	counts := append(edges(), 4, 5, 7, 16, 62, 66, 1<<32+1, 1<<32+64, 1<<63+8)
	for _, n := range counts {
		for _, k := range []int{0, 1, 2, 3, 5, 31, 63, 64, 65, 200} {
			data := words(k, n)
			checkLine(t, "share "+number(n)+list(data), wantList(share.Encode(data, bounded(n))))
		}
	}
}

// texts are texts of all kinds, right and wrong.
func texts() []string {
	l := []string{
		"", "\n", " ", "#", "\x00", "\xff\xfe", "\r\n", strings.Repeat("\n", 200), strings.Repeat("\n", 201), strings.Repeat("/ ", 30000),
		strings.Repeat("linear / 1\n", 200), strings.Repeat("x", 65536), strings.Repeat("x", 65537), strings.Repeat("\xff", 65536),
		"times " + digits(2000, 1) + " " + digits(2000, 2), "sum " + digits(2001, 1) + " 1", "ntt" + list(words(1024, 1)), "linear" + list(words(512, 1)) + " /" + list(words(513, 2)),
	}
	var all strings.Builder
	for _, c := range known() {
		l = append(l, c.line, c.line+"\n", c.line+" x", c.line+" 1")
		all.WriteString(c.line + "\n")
	}
	return append(l, all.String())
}

// mixed are texts of pieces that a script is made of, joined by a fixed rule.
func mixed(n int) []string {
	pieces := []string{" ", " ", " ", " ", "\n", "\n", "1", "2", "0", "3", "18446744073709551615", "18446744073709551616", "/", "/", "#", "-", "\t", "\xff", "\x00", "cyclic", "linear"}
	for name := range names() {
		pieces = append(pieces, name)
	}
	// A map has no order, and the texts must be the same ones always.
	slices.Sort(pieces)
	l := make([]string, n)
	for i := range l {
		var b strings.Builder
		for _, x := range words(i%60, uint64(i)) {
			b.WriteString(pieces[x>>20%uint64(len(pieces))])
		}
		l[i] = b.String()
	}
	return l
}

// wantAnswers is how many lines of a text are answered, told by its bytes alone.
func wantAnswers(text string) int {
	n, fresh := 0, true
	for i := range len(text) {
		switch c := text[i]; {
		case c == '\n':
			fresh = true
		case fresh && c != ' ':
			fresh = false
			if c != '#' {
				n++
			}
		}
	}
	return n
}

// A panic fails the test. Each answer ends in a byte 10, and there is one for each line that is
// answered: but for those of plans, which tell lines of their own ahead of it.
func TestP1AnswersWhateverIsGiven(t *testing.T) {
	for _, text := range slices.Concat(texts(), mixed(20000)) {
		got := Run(text)
		if got != "" && !strings.HasSuffix(got, "\n") {
			t.Errorf("%q: %q has no byte 10 behind it", brief(text), brief(got))
		}
		if len(text) > 65536 || strings.Count(text, "\n") > 200 {
			continue
		}
		n := 0
		for _, line := range strings.Split(got, "\n") {
			if line != "" && !strings.Contains(line, ":") {
				n++
			}
		}
		if n != wantAnswers(text) {
			t.Errorf("%q: %q has %d answers, want %d", brief(text), brief(got), n, wantAnswers(text))
		}
	}
}

// common tells whether two texts have a byte of memory in common.
func common(a, b string) bool {
	if a == "" || b == "" {
		return false
	}
	x, y := uintptr(unsafe.Pointer(unsafe.StringData(a))), uintptr(unsafe.Pointer(unsafe.StringData(b)))
	return x < y+uintptr(len(b)) && y < x+uintptr(len(a))
}

func TestP2MemoryOfItsOwn(t *testing.T) {
	for _, text := range slices.Concat(texts(), mixed(2000)) {
		handed := strings.Clone(text)
		got, again := Run(handed), Run(handed)
		if common(got, handed) || common(got, again) {
			t.Errorf("%q: its answer shares memory", brief(text))
		}
	}
}

// What is handed in is not changed, nor kept: it may be written over when the call has answered.
func TestP2NothingHandedInIsKept(t *testing.T) {
	for _, text := range slices.Concat(texts(), mixed(2000)) {
		room := append([]byte(text), "678"...)
		got := Run(unsafe.String(&room[0], len(text)))
		if string(room) != text+"678" {
			t.Errorf("%q: what was handed in is changed", brief(text))
		}
		for i := range room {
			room[i] = '7'
		}
		if got != Run(text) {
			t.Errorf("%q: what was handed in is kept", brief(text))
		}
	}
}

// The same texts, gone through from both ends: what came ahead must not be seen in an answer.
func TestP2NothingIsKept(t *testing.T) {
	l := slices.Concat(texts(), mixed(2000))
	var first []string
	for _, text := range l {
		first = append(first, Run(text))
	}
	for i, text := range slices.Backward(l) {
		check(t, text, first[i])
	}
}
