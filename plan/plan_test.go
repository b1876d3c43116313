package plan

import (
	"fmt"
	"math"
	"slices"
	"strings"
	"testing"

	"goldmill/api"
	"goldmill/many"
	"goldmill/ntt"
)

const p = api.P

// words are n words of a fixed rule, spread over all 64 bits.
func words(n int, seed uint64) []uint64 {
	l := make([]uint64, n)
	x := seed
	for i := range l {
		x = x*6364136223846793005 + 1442695040888963407
		l[i] = x ^ x>>29
	}
	return l
}

func filled(n int, x uint64) []uint64 {
	return slices.Repeat([]uint64{x}, n)
}

func rests(a []uint64) []uint64 {
	l := slices.Clone(a)
	for i := range l {
		l[i] %= p
	}
	return l
}

func sizeOf(shape []int) int {
	n := 1
	for _, d := range shape {
		n *= d
	}
	return n
}

// shapes are all of those whose arrays have at most so many numbers.
func shapes(most int) [][]int {
	var l [][]int
	for x := 1; x <= most; x *= 2 {
		l = append(l, []int{x})
		for y := 1; x*y <= most; y *= 2 {
			l = append(l, []int{x, y})
			for z := 1; x*y*z <= most; z *= 2 {
				l = append(l, []int{x, y, z})
			}
		}
	}
	return l
}

// few are shapes of all numbers of axes, great ones among them.
func few() [][]int {
	return append(shapes(8), []int{1024}, []int{1024, 1}, []int{1, 1024}, []int{32, 32}, []int{2, 128},
		[]int{1, 1024, 1}, []int{1, 1, 1024}, []int{8, 16, 8}, []int{4, 2, 32}, []int{4, 8, 16})
}

// noShapes are those for which many.Check tells ErrArg.
func noShapes() [][]int {
	return [][]int{
		nil, {}, {0}, {-1}, {-2}, {3}, {1, 1, 1, 1}, {2, 2, 2, 2, 2}, make([]int, 5000), {2, 3}, {6, 2, 2}, {2, 0, 2},
		{2, 2, -4}, {2048, 3}, {3, 2048}, {1 << 62, 1 << 62, 5}, {math.MaxInt}, {math.MinInt}, {2, math.MinInt, 2},
	}
}

// largeShapes are those for which many.Check tells ErrLarge.
func largeShapes() [][]int {
	return [][]int{
		{2048}, {1 << 62}, {64, 32}, {1024, 2}, {1, 2048}, {16, 16, 8}, {1024, 1024, 1024},
		{1 << 32, 1 << 32}, {1 << 62, 4}, {1 << 62, 2, 2}, {1 << 22, 1 << 21, 1 << 21},
	}
}

// extremes are numbers that are no axis, no line, and no cut, of any shape, all but 0 and 1.
func extremes() []int {
	return []int{math.MinInt, math.MinInt + 1, -1 << 32, -2, -1, 0, 1, 1025, 1 << 32, math.MaxInt - 1, math.MaxInt}
}

// byHand goes through the lines one by one, and begins a task wherever one is full.
func byHand(shape []int, cut int) []api.Phase {
	var l []api.Phase
	for axis, d := range shape {
		var phase api.Phase
		full := 0
		for line := range sizeOf(shape) / d {
			if phase == nil || full == cut {
				phase = append(phase, span(axis, line, line))
				full = 0
			}
			phase[len(phase)-1].Last++
			full++
		}
		l = append(l, phase)
	}
	return l
}

// span is a task.
func span(axis, first, last int) api.Task {
	return api.Task{Axis: axis, First: first, Last: last}
}

func mostTasks(l []api.Phase) int {
	most := 0
	for _, phase := range l {
		most = max(most, len(phase))
	}
	return most
}

func equal(a, b []api.Phase) bool {
	return slices.EqualFunc(a, b, slices.Equal)
}

func clone(l []api.Phase) []api.Phase {
	var c []api.Phase
	for _, phase := range l {
		c = append(c, slices.Clone(phase))
	}
	return c
}

// cuts are those of all kinds up to the number of lines, and above.
func cuts(lines int) []int {
	return []int{1, 2, 3, 5, 7, 13, 15, 16, 17, 31, 63, 64, 65, 100, 341, 512, 1000, max(1, lines-1), lines,
		lines + 1, 2 * lines, 1 << 32, 1 << 62, math.MaxInt - 1, math.MaxInt}
}

func TestP11MakeKnown(t *testing.T) {
	for _, c := range []struct {
		shape []int
		cut   int
		want  string
	}{
		{[]int{1}, 1, "0:0-1\n"},
		{[]int{8}, 1, "0:0-1\n"},
		{[]int{8}, 5, "0:0-1\n"},
		{[]int{2, 2}, 2, "0:0-2\n1:0-2\n"},
		{[]int{4, 2}, 3, "0:0-2\n1:0-3 1:3-4\n"},
		{[]int{4, 2}, 1, "0:0-1 0:1-2\n1:0-1 1:1-2 1:2-3 1:3-4\n"},
		{[]int{1, 8}, 3, "0:0-3 0:3-6 0:6-8\n1:0-1\n"},
		{[]int{2, 4, 1}, 4, "0:0-4\n1:0-2\n2:0-4 2:4-8\n"},
		{[]int{1, 1, 1}, 1, "0:0-1\n1:0-1\n2:0-1\n"},
		{[]int{1, 2}, math.MaxInt, "0:0-2\n1:0-1\n"},
	} {
		l, e := Make(c.shape, c.cut)
		if s := Print(l); e != api.OK || s != c.want {
			t.Errorf("Make(%v, %d) = %q, %d, want %q", c.shape, c.cut, s, e, c.want)
		}
	}
}

func TestP11Make(t *testing.T) {
	for _, shape := range shapes(api.MaxSize) {
		for _, cut := range cuts(sizeOf(shape)) {
			want := byHand(shape, cut)
			got, e := Make(shape, cut)
			if mostTasks(want) > 64 {
				if got != nil || e != api.ErrLarge {
					t.Errorf("Make(%v, %d) = %v, %d, want ErrLarge", shape, cut, got, e)
				}
				continue
			}
			if e != api.OK || !equal(got, want) {
				t.Errorf("Make(%v, %d) = %v, %d, want %v", shape, cut, got, e, want)
			}
			if e := Check(shape, got); e != api.OK {
				t.Errorf("Check of Make(%v, %d): %d", shape, cut, e)
			}
		}
	}
}

// 64 tasks may be, 65 may not, of whichever axis.
func TestP11MakeLarge(t *testing.T) {
	for _, c := range []struct {
		shape []int
		cut   int
		want  api.Errno
	}{
		{[]int{1, 64}, 1, api.OK}, {[]int{64, 1}, 1, api.OK}, {[]int{1, 1, 64}, 1, api.OK},
		{[]int{1, 128}, 2, api.OK}, {[]int{1, 128}, 1, api.ErrLarge}, {[]int{128, 1}, 1, api.ErrLarge},
		{[]int{64, 2}, 1, api.OK}, {[]int{2, 64}, 1, api.OK}, {[]int{2, 128}, 1, api.ErrLarge},
		{[]int{1024, 1}, 16, api.OK}, {[]int{1024, 1}, 15, api.ErrLarge}, {[]int{1, 1024}, 15, api.ErrLarge},
		{[]int{32, 1, 8}, 4, api.OK}, {[]int{32, 1, 8}, 3, api.ErrLarge}, {[]int{32, 1, 8}, 1, api.ErrLarge},
		{[]int{1024}, 1, api.OK}, {[]int{32, 32}, 1, api.OK}, {[]int{4, 16, 16}, 4, api.OK}, {[]int{4, 16, 16}, 3, api.ErrLarge},
		{[]int{1, 512}, 8, api.OK}, {[]int{1, 512}, 7, api.ErrLarge},
	} {
		if l, e := Make(c.shape, c.cut); e != c.want || e != api.OK && l != nil {
			t.Errorf("Make(%v, %d) = %v, %d, want %d", c.shape, c.cut, l, e, c.want)
		}
	}
}

func TestP11MakeWrong(t *testing.T) {
	for _, shape := range shapes(api.MaxSize) {
		for _, cut := range []int{0, -1, -2, -64, -1 << 32, math.MinInt + 1, math.MinInt} {
			if l, e := Make(shape, cut); l != nil || e != api.ErrArg {
				t.Errorf("Make(%v, %d) = %v, %d, want ErrArg", shape, cut, l, e)
			}
		}
	}
	// many.Check's error, whatever cut is.
	for _, cut := range append(extremes(), 64) {
		for _, shape := range noShapes() {
			if l, e := Make(shape, cut); l != nil || e != api.ErrArg {
				t.Errorf("Make(%v, %d) = %v, %d, want ErrArg", shape, cut, l, e)
			}
		}
		for _, shape := range largeShapes() {
			if l, e := Make(shape, cut); l != nil || e != api.ErrLarge {
				t.Errorf("Make(%v, %d) = %v, %d, want ErrLarge", shape, cut, l, e)
			}
		}
	}
}

func TestP11CheckKnown(t *testing.T) {
	two, three := []int{4, 2}, []int{2, 1, 4}
	for _, c := range []struct {
		name  string
		shape []int
		l     []api.Phase
		want  api.Errno
	}{
		{"all at once", two, []api.Phase{{span(0, 0, 2)}, {span(1, 0, 4)}}, api.OK},
		{"one by one", two, []api.Phase{{span(0, 0, 1), span(0, 1, 2)}, {span(1, 0, 1), span(1, 1, 2), span(1, 2, 3), span(1, 3, 4)}}, api.OK},
		{"in another order", two, []api.Phase{{span(0, 1, 2), span(0, 0, 1)}, {span(1, 3, 4), span(1, 0, 1), span(1, 1, 3)}}, api.OK},
		{"three axes", three, []api.Phase{{span(0, 0, 4)}, {span(1, 5, 8), span(1, 0, 5)}, {span(2, 0, 2)}}, api.OK},
		{"one number", []int{1}, []api.Phase{{span(0, 0, 1)}}, api.OK},
		{"one axis", []int{1024}, []api.Phase{{span(0, 0, 1)}}, api.OK},
		{"no phases", two, nil, api.ErrForm},
		{"too few phases", two, []api.Phase{{span(0, 0, 2)}}, api.ErrForm},
		{"too many phases", two, []api.Phase{{span(0, 0, 2)}, {span(1, 0, 4)}, {span(2, 0, 8)}}, api.ErrForm},
		{"an empty phase behind", two, []api.Phase{{span(0, 0, 2)}, {span(1, 0, 4)}, {}}, api.ErrForm},
		{"a phase twice", two, []api.Phase{{span(0, 0, 2)}, {span(1, 0, 4)}, {span(1, 0, 4)}}, api.ErrForm},
		{"phases in another order", two, []api.Phase{{span(1, 0, 4)}, {span(0, 0, 2)}}, api.ErrForm},
		{"as many lines, in another order", []int{2, 2}, []api.Phase{{span(1, 0, 2)}, {span(0, 0, 2)}}, api.ErrForm},
		{"an empty phase", two, []api.Phase{{}, {span(1, 0, 4)}}, api.ErrForm},
		{"an empty last phase", two, []api.Phase{{span(0, 0, 2)}, nil}, api.ErrForm},
		{"an axis of another phase", two, []api.Phase{{span(0, 0, 2)}, {span(1, 0, 2), span(0, 2, 4)}}, api.ErrForm},
		{"an axis that is none", two, []api.Phase{{span(0, 0, 2)}, {span(2, 0, 4)}}, api.ErrForm},
		{"an axis below 0", two, []api.Phase{{span(-1, 0, 2)}, {span(1, 0, 4)}}, api.ErrForm},
		{"a line is missing at the beginning", two, []api.Phase{{span(0, 0, 2)}, {span(1, 1, 4)}}, api.ErrForm},
		{"a line is missing within", two, []api.Phase{{span(0, 0, 2)}, {span(1, 0, 1), span(1, 2, 4)}}, api.ErrForm},
		{"a line is missing at the end", two, []api.Phase{{span(0, 0, 2)}, {span(1, 0, 3)}}, api.ErrForm},
		{"a line is missing in the first phase", two, []api.Phase{{span(0, 0, 1)}, {span(1, 0, 4)}}, api.ErrForm},
		{"a line too many", two, []api.Phase{{span(0, 0, 2)}, {span(1, 0, 5)}}, api.ErrForm},
		{"a line below 0", two, []api.Phase{{span(0, 0, 2)}, {span(1, -1, 4)}}, api.ErrForm},
		{"a line twice", two, []api.Phase{{span(0, 0, 2)}, {span(1, 0, 3), span(1, 2, 4)}}, api.ErrForm},
		{"a line twice, another not at all", two, []api.Phase{{span(0, 0, 2)}, {span(1, 0, 2), span(1, 1, 3)}}, api.ErrForm},
		{"a task twice", two, []api.Phase{{span(0, 0, 2), span(0, 0, 2)}, {span(1, 0, 4)}}, api.ErrForm},
		{"a task of no line", two, []api.Phase{{span(0, 0, 2)}, {span(1, 0, 4), span(1, 4, 4)}}, api.ErrForm},
		{"a task of no line within", two, []api.Phase{{span(0, 0, 1), span(0, 1, 1), span(0, 1, 2)}, {span(1, 0, 4)}}, api.ErrForm},
		{"a task of no line, outside", two, []api.Phase{{span(0, 0, 2), span(0, 9, 9)}, {span(1, 0, 4)}}, api.ErrForm},
		{"a task that goes back", two, []api.Phase{{span(0, 0, 2)}, {span(1, 0, 4), span(1, 3, 1)}}, api.ErrForm},
		{"lines given back", two, []api.Phase{{span(0, 0, 2)}, {span(1, 0, 4), span(1, 4, 3), span(1, 3, 4)}}, api.ErrForm},
		{"lines that wrap round", two, []api.Phase{{span(0, 0, 2)}, {span(1, math.MinInt, math.MaxInt)}}, api.ErrForm},
		{"all lines, from far below", two, []api.Phase{{span(0, math.MinInt, 2)}, {span(1, 0, 4)}}, api.ErrForm},
		{"all lines, up to far above", two, []api.Phase{{span(0, 0, math.MaxInt)}, {span(1, 0, 4)}}, api.ErrForm},
	} {
		if e := Check(c.shape, c.l); e != c.want {
			t.Errorf("%s: Check(%v, %v) = %d, want %d", c.name, c.shape, c.l, e, c.want)
		}
	}
}

// Whatever is changed in a plan makes it wrong; the order of tasks alone does not.
func TestP11CheckChanged(t *testing.T) {
	for _, shape := range few() {
		for _, cut := range []int{16, 17, 1000} {
			made, _ := Make(shape, cut)
			for axis, phase := range made {
				l := clone(made)
				slices.Reverse(l[axis])
				if e := Check(shape, l); e != api.OK {
					t.Errorf("Check(%v, %v) = %d, want OK", shape, l, e)
				}
				for i, task := range phase {
					checkChanged(t, shape, made, axis, i, task)
				}
			}
		}
	}
}

// checkChanged lays others into the place of a task, each of which makes the plan wrong.
func checkChanged(t *testing.T, shape []int, made []api.Phase, axis, i int, task api.Task) {
	t.Helper()
	others := []api.Task{
		span(task.Axis+1, task.First, task.Last), span(task.Axis-1, task.First, task.Last),
		span(task.Axis, task.First+1, task.Last), span(task.Axis, task.First-1, task.Last),
		span(task.Axis, task.First, task.Last+1), span(task.Axis, task.First, task.Last-1),
		span(task.Axis, task.First+1, task.Last+1), span(task.Axis, task.First-1, task.Last-1),
		span(task.Axis, task.Last, task.First), span(task.Axis, task.First, task.First), span(task.Axis, 0, 0),
	}
	for _, x := range extremes() {
		if x < 0 || x > 1024 {
			others = append(others, span(x, task.First, task.Last),
				span(task.Axis, x, task.Last), span(task.Axis, task.First, x))
		}
	}
	for _, other := range others {
		l := clone(made)
		l[axis][i] = other
		if e := Check(shape, l); e != api.ErrForm {
			t.Errorf("Check(%v, %v) = %d, want ErrForm", shape, l, e)
		}
	}
	without, twice := clone(made), clone(made)
	without[axis] = slices.Delete(without[axis], i, i+1)
	twice[axis] = append(twice[axis], task)
	for _, l := range [][]api.Phase{without, twice} {
		if e := Check(shape, l); e != api.ErrForm {
			t.Errorf("Check(%v, %v) = %d, want ErrForm", shape, l, e)
		}
	}
}

// inParts is a phase of so many tasks: the first ones of one line each, the last one of the rest.
func inParts(axis, lines, tasks int) api.Phase {
	var phase api.Phase
	for i := range tasks - 1 {
		phase = append(phase, span(axis, i, i+1))
	}
	return append(phase, span(axis, tasks-1, lines))
}

func TestP11CheckLarge(t *testing.T) {
	shape := []int{1, 2, 512}
	for _, c := range []struct {
		name   string
		first  int
		second int
		third  int
		want   api.Errno
	}{
		{"64 of each that has as many", 64, 64, 2, api.OK}, {"65 of the first", 65, 64, 1, api.ErrLarge},
		{"65 of the second", 64, 65, 2, api.ErrLarge}, {"1024 of the first", 1024, 1, 1, api.ErrLarge},
		{"512 of the second", 1, 512, 1, api.ErrLarge}, {"too many of both", 100, 100, 1, api.ErrLarge},
	} {
		l := []api.Phase{inParts(0, 1024, c.first), inParts(1, 512, c.second), inParts(2, 2, c.third)}
		if e := Check(shape, l); e != c.want {
			t.Errorf("%s: %d, want %d", c.name, e, c.want)
		}
		// A wrong form is told first, wherever it stands.
		for axis := range l {
			wrong := clone(l)
			wrong[axis][0].First++
			if e := Check(shape, wrong); e != api.ErrForm {
				t.Errorf("%s, phase %d wrong: %d, want ErrForm", c.name, axis, e)
			}
		}
		if e := Check(shape, append(clone(l), nil)); e != api.ErrForm {
			t.Errorf("%s, and one more phase: %d, want ErrForm", c.name, e)
		}
	}
	// Far more tasks than there are lines.
	l := []api.Phase{slices.Repeat(api.Phase{span(0, 0, 1)}, 100000)}
	if e := Check([]int{4}, l); e != api.ErrForm {
		t.Errorf("a line 100000 times: %d, want ErrForm", e)
	}
}

func TestP11CheckWrongShapes(t *testing.T) {
	right, _ := Make([]int{4, 2}, 3)
	for _, l := range [][]api.Phase{nil, {}, {{}}, right, {inParts(0, 1024, 100)}, {{span(-1, 5, -5)}}} {
		for _, shape := range noShapes() {
			if e := Check(shape, l); e != api.ErrArg {
				t.Errorf("Check(%v, %v) = %d, want ErrArg", shape, l, e)
			}
		}
		for _, shape := range largeShapes() {
			if e := Check(shape, l); e != api.ErrLarge {
				t.Errorf("Check(%v, %v) = %d, want ErrLarge", shape, l, e)
			}
		}
	}
}

// wantDo finds the line of each number by its places: that of the numbers that the places of the
// other axes make.
func wantDo(shape []int, a []uint64, task api.Task, back bool) []uint64 {
	behind := sizeOf(shape[task.Axis+1:])
	d := shape[task.Axis]
	lines := make([][]int, len(a)/d)
	for number := range a {
		line := number/(d*behind)*behind + number%behind
		lines[line] = append(lines[line], number)
	}
	l := rests(a)
	for line := task.First; line < task.Last; line++ {
		var numbers []uint64
		for _, number := range lines[line] {
			numbers = append(numbers, a[number])
		}
		if back {
			numbers, _ = ntt.Inverse(numbers)
		} else {
			numbers, _ = ntt.Forward(numbers)
		}
		for i, number := range lines[line] {
			l[number] = numbers[i]
		}
	}
	return l
}

func check(t *testing.T, name string, shape []int, got []uint64, e api.Errno, want []uint64) {
	t.Helper()
	if e != api.OK || !slices.Equal(got, want) {
		t.Errorf("%s of %v: %v, %d, want %v, OK", name, shape, got, e, want)
	}
}

func TestP11DoKnown(t *testing.T) {
	four := []uint64{1, 2, 3, 4}
	for _, c := range []struct {
		shape []int
		a     []uint64
		task  api.Task
		back  bool
		want  []uint64
	}{
		{[]int{1}, []uint64{p + 4}, span(0, 0, 1), false, []uint64{4}},
		{[]int{2}, []uint64{3, 5}, span(0, 0, 1), false, []uint64{8, p - 2}},
		{[]int{2}, []uint64{8, p - 2}, span(0, 0, 1), true, []uint64{3, 5}},
		{[]int{2, 2}, four, span(0, 0, 1), false, []uint64{4, 2, p - 2, 4}},
		{[]int{2, 2}, four, span(0, 1, 2), false, []uint64{1, 6, 3, p - 2}},
		{[]int{2, 2}, four, span(0, 0, 2), false, []uint64{4, 6, p - 2, p - 2}},
		{[]int{2, 2}, four, span(1, 0, 1), false, []uint64{3, p - 1, 3, 4}},
		{[]int{2, 2}, four, span(1, 1, 2), false, []uint64{1, 2, 7, p - 1}},
		{[]int{2, 2}, []uint64{1, 2, 7, p - 1}, span(1, 1, 2), true, four},
		// Numbers of other lines are told by P, too.
		{[]int{2, 2}, []uint64{1, 2, p, math.MaxUint64}, span(1, 0, 1), false, []uint64{3, p - 1, 0, 1<<32 - 2}},
		{[]int{1, 4}, filled(4, p+9), span(0, 1, 2), true, filled(4, 9)},
		{[]int{2, 2, 2}, []uint64{1, 2, 3, 4, 5, 6, 7, 8}, span(1, 1, 3), false,
			[]uint64{1, 6, 3, p - 2, 12, 6, p - 2, 8}},
	} {
		got, e := Do(c.shape, c.a, c.task, c.back)
		check(t, fmt.Sprint("Do ", c.task, c.back), c.shape, got, e, c.want)
	}
}

func TestP11Do(t *testing.T) {
	for _, shape := range few() {
		n := sizeOf(shape)
		for _, a := range [][]uint64{words(n, 1), words(n, 99), filled(n, p), filled(n, math.MaxUint64)} {
			for axis, d := range shape {
				lines := n / d
				for _, ends := range [][2]int{{0, 1}, {0, lines}, {lines - 1, lines}, {lines / 2, lines}, {lines / 3, lines/2 + 1}} {
					task := span(axis, ends[0], ends[1])
					for _, back := range []bool{false, true} {
						got, e := Do(shape, a, task, back)
						check(t, fmt.Sprint("Do ", task, back), shape, got, e, wantDo(shape, a, task, back))
					}
				}
			}
		}
	}
}

// Of all tasks of a small shape each does what it must, and, done back, gives what was.
func TestP11DoEachTask(t *testing.T) {
	for _, shape := range shapes(16) {
		n := sizeOf(shape)
		a := words(n, 7)
		for axis, d := range shape {
			for first := range n / d {
				for last := first + 1; last <= n/d; last++ {
					task := span(axis, first, last)
					there, e := Do(shape, a, task, false)
					check(t, fmt.Sprint("Do ", task), shape, there, e, wantDo(shape, a, task, false))
					back, e := Do(shape, there, task, true)
					check(t, fmt.Sprint("Do and back ", task), shape, back, e, rests(a))
				}
			}
		}
	}
}

// turned are orders of a phase's tasks: as they are, the other way round, and mixed.
func turned(phase api.Phase) []api.Phase {
	back := slices.Clone(phase)
	slices.Reverse(back)
	var mixed api.Phase
	for step := range 3 {
		for i := step; i < len(phase); i += 3 {
			mixed = append(mixed, phase[i])
		}
	}
	return []api.Phase{phase, back, mixed}
}

// All tasks of all phases, a phase's in any order, are the transform, and the transform back.
func TestP11DoAll(t *testing.T) {
	for _, shape := range shapes(api.MaxSize) {
		n := sizeOf(shape)
		l, e := Make(shape, max(1, n/11))
		if e != api.OK {
			t.Fatal(shape, e)
		}
		a := words(n, 3)
		forward, _ := many.Forward(shape, a)
		inverse, _ := many.Inverse(shape, a)
		for order := range 3 {
			there, back := a, a
			for _, phase := range l {
				for _, task := range turned(phase)[order] {
					there, _ = Do(shape, there, task, false)
					back, _ = Do(shape, back, task, true)
				}
			}
			check(t, fmt.Sprint("all tasks, order ", order), shape, there, api.OK, forward)
			check(t, fmt.Sprint("all tasks back, order ", order), shape, back, api.OK, inverse)
		}
	}
}

// checkDoError holds both directions against an error.
func checkDoError(t *testing.T, shape []int, n int, task api.Task, want api.Errno) {
	t.Helper()
	for _, back := range []bool{false, true} {
		if l, e := Do(shape, words(n, 1), task, back); l != nil || e != want {
			t.Errorf("Do(%v, %d numbers, %v, %t) = %v, %d, want %d", shape, n, task, back, l, e, want)
		}
	}
}

// wrongTasks are those that a shape doesn't have.
func wrongTasks(shape []int) []api.Task {
	var l []api.Task
	axes := len(shape)
	for _, axis := range []int{axes, axes + 1, 4, 1 << 32, math.MaxInt, -1, -axes, math.MinInt} {
		l = append(l, span(axis, 0, 1))
	}
	for axis, d := range shape {
		n := sizeOf(shape) / d
		for _, ends := range [][2]int{
			{0, 0}, {n, n}, {n - 1, n - 1}, {0, n + 1}, {n, n + 1}, {n - 1, n + 1}, {-1, 0}, {-1, 1}, {-1, n}, {-n, n}, {-2, -1},
			{1, 0}, {n, 0}, {n, n - 1}, {n + 1, n}, {n + 1, n + 2}, {0, -1}, {0, 1025}, {0, math.MaxInt}, {0, math.MinInt},
			{math.MinInt, n}, {math.MinInt, math.MaxInt}, {math.MaxInt, math.MinInt}, {math.MinInt, math.MinInt},
			{math.MinInt, math.MinInt + 1}, {math.MaxInt - 1, math.MaxInt}, {math.MaxInt, n}, {math.MaxInt, 1},
		} {
			l = append(l, span(axis, ends[0], ends[1]))
		}
	}
	return l
}

func TestP11DoWrong(t *testing.T) {
	for _, shape := range few() {
		size := sizeOf(shape)
		whole := span(0, 0, size/shape[0])
		for _, task := range wrongTasks(shape) {
			checkDoError(t, shape, size, task, api.ErrArg)
		}
		// A wrong list comes ahead of a wrong task.
		for _, n := range []int{0, size - 1, size + 1, 2 * size, 1024, 1025} {
			if n == size {
				continue
			}
			for _, task := range append(wrongTasks(shape), whole) {
				checkDoError(t, shape, n, task, api.ErrForm)
			}
		}
	}
	// many.Check's error comes ahead of all else.
	for _, n := range []int{0, 1, 4, 1024, 2048} {
		for _, task := range append(wrongTasks([]int{2, 2}), span(0, 0, 1)) {
			for _, shape := range noShapes() {
				checkDoError(t, shape, n, task, api.ErrArg)
			}
			for _, shape := range largeShapes() {
				checkDoError(t, shape, n, task, api.ErrLarge)
			}
		}
	}
}

func TestP11Print(t *testing.T) {
	for _, c := range []struct {
		l    []api.Phase
		want string
	}{
		{nil, ""},
		{[]api.Phase{}, ""},
		{[]api.Phase{nil}, "\n"},
		{[]api.Phase{{}, nil, {}}, "\n\n\n"},
		{[]api.Phase{{span(0, 0, 2)}}, "0:0-2\n"},
		{[]api.Phase{{span(0, 0, 2)}, {span(1, 0, 3), span(1, 3, 4)}}, "0:0-2\n1:0-3 1:3-4\n"},
		{[]api.Phase{{span(1, 3, 4), span(1, 0, 3)}}, "1:3-4 1:0-3\n"},
		{[]api.Phase{{span(2, 10, 1024)}, {}, {span(0, 0, 0), span(0, 0, 0), span(7, 9, 8)}}, "2:10-1024\n\n0:0-0 0:0-0 7:9-8\n"},
		{[]api.Phase{{span(-1, -2, -3)}}, "-1:-2--3\n"},
		{[]api.Phase{{span(0, -1, 0), span(0, 0, -1)}}, "0:-1-0 0:0--1\n"},
		{[]api.Phase{{span(math.MaxInt, math.MinInt, math.MaxInt)}}, "9223372036854775807:-9223372036854775808-9223372036854775807\n"},
	} {
		if s := Print(c.l); s != c.want {
			t.Errorf("Print(%v) = %q, want %q", c.l, s, c.want)
		}
	}
}

func TestP11PrintMade(t *testing.T) {
	for _, shape := range shapes(api.MaxSize) {
		l, _ := Make(shape, 16)
		var lines []string
		for _, phase := range l {
			var tasks []string
			for _, task := range phase {
				tasks = append(tasks, fmt.Sprintf("%d:%d-%d", task.Axis, task.First, task.Last))
			}
			lines = append(lines, strings.Join(tasks, " ")+"\n")
		}
		if got, want := Print(l), strings.Join(lines, ""); got != want {
			t.Errorf("Print of Make(%v, 16) = %q, want %q", shape, got, want)
		}
	}
}

// given is what may be handed in to all calls.
type given struct {
	shape []int
	cut   int
	l     []api.Phase
	a     []uint64
	task  api.Task
}

// answers are those of all calls.
type answers struct {
	made   []api.Phase
	lists  [2][]uint64
	text   string
	errors [4]api.Errno
}

func all(c given) answers {
	var x answers
	x.made, x.errors[0] = Make(c.shape, c.cut)
	x.errors[1] = Check(c.shape, c.l)
	x.lists[0], x.errors[2] = Do(c.shape, c.a, c.task, false)
	x.lists[1], x.errors[3] = Do(c.shape, c.a, c.task, true)
	x.text = Print(c.l)
	return x
}

func same(x, y answers) bool {
	return equal(x.made, y.made) && slices.Equal(x.lists[0], y.lists[0]) && slices.Equal(x.lists[1], y.lists[1]) &&
		x.text == y.text && x.errors == y.errors
}

// everything are things of all kinds, right and wrong.
func everything() []given {
	var l []given
	for _, shape := range few() {
		n := sizeOf(shape)
		made, _ := Make(shape, 16)
		for axis, d := range shape {
			l = append(l, given{shape, 16, made, words(n, 1), span(axis, 0, n/d)},
				given{shape, 1, made, filled(n, p), span(axis, n/d/2, n/d)})
		}
		l = append(l, given{shape, 0, nil, nil, api.Task{}}, given{shape, 5, made[:1], words(n+1, 2), span(9, 0, 1)})
	}
	for _, shape := range slices.Concat(noShapes(), largeShapes()) {
		l = append(l, given{shape, 1, nil, nil, api.Task{}}, given{shape, 1, []api.Phase{{span(0, 0, 1)}}, words(1024, 1), span(0, 0, 1)})
	}
	return l
}

// A panic in any of the calls fails the test.
func TestP1AnswersWhateverIsGiven(t *testing.T) {
	var tasks []api.Task
	for _, axis := range extremes() {
		for _, first := range extremes() {
			for _, last := range extremes() {
				tasks = append(tasks, span(axis, first, last))
			}
		}
	}
	some := slices.Concat(shapes(4), noShapes(), largeShapes())
	for _, shape := range some {
		for i, task := range tasks {
			cut := extremes()[i%len(extremes())]
			phases := []api.Phase{{task}, {task, task}, {span(0, 0, 1), task}}
			for _, n := range []int{0, 1, 2, 4} {
				c := given{shape, cut, phases[:min(n, 3)], words(n, 1), task}
				x := all(c)
				for _, number := range slices.Concat(x.lists[:]...) {
					if number >= p {
						t.Errorf("%v, %d numbers, %v: %d is told", shape, n, task, number)
					}
				}
			}
		}
	}
}

// padded lays room with something in it behind a list.
func padded[T any](a []T, behind T) []T {
	return append(slices.Clone(a), behind, behind, behind)
}

// spoilPhases writes over all phases, their spare room included, and over the list of them.
func spoilPhases(l []api.Phase) {
	l = l[:cap(l)]
	for i, phase := range l {
		phase = phase[:cap(phase)]
		for j := range phase {
			phase[j] = span(77, -77, 777)
		}
		l[i] = nil
	}
}

func spoil(a []uint64) {
	a = a[:cap(a)]
	for i := range a {
		a[i] = 0x5ead
	}
}

// paddedPhases are phases with room behind them and behind each of them, and the same again, to
// be held against them.
func paddedPhases(l []api.Phase) (whole, kept []api.Phase) {
	stray := span(1, 2, 3)
	for _, phase := range l {
		whole = append(whole, api.Phase(padded(phase, stray)))
	}
	whole = padded(whole, api.Phase{stray})
	return whole, clone(whole)
}

// What is handed in stays as it is, the room behind it included, and what is told is written
// over without harm.
func TestP2MemoryOfItsOwn(t *testing.T) {
	for _, c := range everything() {
		shape, a := padded(c.shape, 2), padded(c.a, 11)
		whole, kept := paddedPhases(c.l)
		keptShape, keptA := slices.Clone(shape), slices.Clone(a)
		handed := slices.Clone(whole)
		for i := range c.l {
			handed[i] = whole[i][:len(c.l[i])]
		}
		again := all(c)
		got := all(given{shape[:len(c.shape)], c.cut, handed[:len(c.l)], a[:len(c.a)], c.task})
		if !same(got, again) {
			t.Errorf("%v, %v: room behind what is handed in makes another answer", c.shape, c.task)
		}
		spoilPhases(got.made)
		spoil(got.lists[0])
		spoil(got.lists[1])
		if !slices.Equal(shape, keptShape) || !slices.Equal(a, keptA) || !equal(whole, kept) || !equal(handed[len(c.l):], kept[len(c.l):]) {
			t.Errorf("%v, %v: what was handed in is changed", c.shape, c.task)
		}
		if !same(all(c), again) {
			t.Errorf("%v, %v: what was told is kept", c.shape, c.task)
		}
	}
}

// No phase that is told has room in common with another one.
func TestP2PhasesApart(t *testing.T) {
	for _, shape := range few() {
		l, _ := Make(shape, 16)
		for i := range l {
			want := clone(l)
			spoilPhases([]api.Phase{l[i]})
			l[i] = append(l[i], span(5, 5, 5))
			for j := range l {
				if j != i && !slices.Equal(l[j], want[j]) {
					t.Errorf("Make(%v): phase %d changes with phase %d", shape, j, i)
				}
			}
		}
	}
}

// What is answered hangs on what is handed in alone, whatever was asked ahead of it.
func TestP2NothingIsKept(t *testing.T) {
	l := everything()
	var first []answers
	for _, c := range l {
		first = append(first, all(c))
	}
	for i := len(l) - 1; i >= 0; i-- {
		if !same(all(l[i]), first[i]) {
			t.Errorf("%v, %v: another answer the second time", l[i].shape, l[i].task)
		}
	}
}
