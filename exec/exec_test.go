package exec

import (
	"fmt"
	"math"
	"runtime"
	"slices"
	"sync"
	"testing"

	"goldmill/api"
	"goldmill/many"
	"goldmill/plan"
)

const p = api.P

// words are n words of a fixed rule, spread over all 64 bits.
func words(n int, seed uint64) []uint64 {
	l := make([]uint64, n)
	x := seed
	for i := range l {
		x = x*6364136223846793005 + 1442695040888963407
		l[i] = x ^ x>>29
	}
	return l
}

func rests(a []uint64) []uint64 {
	l := slices.Clone(a)
	for i := range l {
		l[i] %= p
	}
	return l
}

func sizeOf(shape []int) int {
	n := 1
	for _, d := range shape {
		n *= d
	}
	return n
}

// shapes are all of those whose arrays have at most so many numbers.
func shapes(most int) [][]int {
	var l [][]int
	for x := 1; x <= most; x *= 2 {
		l = append(l, []int{x})
		for y := 1; x*y <= most; y *= 2 {
			l = append(l, []int{x, y})
			for z := 1; x*y*z <= most; z *= 2 {
				l = append(l, []int{x, y, z})
			}
		}
	}
	return l
}

// great are shapes of all numbers of axes, with as many numbers as there may be, or nearly.
func great() [][]int {
	return [][]int{{1024}, {1024, 1}, {1, 1024}, {32, 32}, {2, 128}, {1, 1024, 1}, {8, 16, 8}, {4, 2, 32}, {64, 1, 16}}
}

// span is a task.
func span(axis, first, last int) api.Task {
	return api.Task{Axis: axis, First: first, Last: last}
}

func clone(l []api.Phase) []api.Phase {
	var c []api.Phase
	for _, phase := range l {
		c = append(c, slices.Clone(phase))
	}
	return c
}

func planned(t *testing.T, shape []int, cut int) []api.Phase {
	t.Helper()
	l, e := plan.Make(shape, cut)
	if e != api.OK {
		t.Fatalf("plan.Make(%v, %d): %d", shape, cut, e)
	}
	return l
}

// plans are some of a shape: even ones, and ones whose tasks differ in size and stand in no order.
func plans(shape []int) [][]api.Phase {
	var l [][]api.Phase
	for _, cut := range []int{1, 2, 3, 16, 1024} {
		if even, e := plan.Make(shape, cut); e == api.OK {
			l = append(l, even)
		}
	}
	last := l[len(l)-1]
	return append(l, uneven(last, 1), uneven(last, 2))
}

// uneven cuts the lines of each axis anew, by a fixed rule, and mixes the tasks.
func uneven(l []api.Phase, seed uint64) []api.Phase {
	var out []api.Phase
	for axis, phase := range l {
		lines := 0
		for _, x := range phase {
			lines = max(lines, x.Last)
		}
		var tasks api.Phase
		turns := words(api.MaxCut, seed+uint64(axis))
		for first := 0; first < lines; {
			n := min(lines-first, lines/32+1+int(turns[len(tasks)]%5))
			tasks = slices.Insert(tasks, int(turns[len(tasks)]>>20)%(len(tasks)+1), span(axis, first, first+n))
			first += n
		}
		out = append(out, tasks)
	}
	return out
}

func made(t *testing.T, shape []int, a []uint64, l []api.Phase, workers int, back bool) *Run {
	t.Helper()
	r, e := New(shape, a, l, workers, back)
	if r == nil || e != api.OK {
		t.Fatalf("New(%v, %v, %d workers): %v, %d", shape, l, workers, r, e)
	}
	return r
}

func pick(worker, victim int) api.Pick {
	return api.Pick{Worker: worker, Victim: victim}
}

// model is a run made of plain lists.
type model struct {
	shape  []int
	array  []uint64
	phases []api.Phase
	phase  int
	left   int
	hands  [][]api.Task
	log    []api.Task
	back   bool
}

func modelOf(shape []int, a []uint64, l []api.Phase, workers int, back bool) *model {
	m := &model{shape: shape, array: rests(a), phases: clone(l), hands: make([][]api.Task, workers), back: back}
	m.deal()
	return m
}

func (m *model) deal() {
	w := 0
	for _, x := range m.phases[m.phase] {
		m.hands[w] = append(m.hands[w], x)
		w++
		if w == len(m.hands) {
			w = 0
		}
	}
	m.left = len(m.phases[m.phase])
}

func (m *model) step(w, v int) api.Errno {
	if m.phase == len(m.phases) {
		return api.ErrState
	}
	if w < 0 || v < 0 || w >= len(m.hands) || v >= len(m.hands) {
		return api.ErrArg
	}
	var x api.Task
	if own := m.hands[w]; len(own) > 0 {
		x, m.hands[w] = own[len(own)-1], own[:len(own)-1]
	} else if other := m.hands[v]; len(other) > 0 {
		x, m.hands[v] = other[0], other[1:]
	} else {
		return api.OK
	}
	m.array, _ = plan.Do(m.shape, m.array, x, m.back)
	m.log = append(m.log, x)
	m.left--
	if m.left == 0 {
		m.phase++
		if m.phase < len(m.phases) {
			m.deal()
		}
	}
	return api.OK
}

// differs tells in what a run is not as its model is; nothing, if it is.
func differs(r *Run, m *model) string {
	if phase, left := r.Left(); phase != m.phase || left != m.left {
		return fmt.Sprintf("Left %d, %d, want %d, %d", phase, left, m.phase, m.left)
	}
	if r.Done() != (m.phase == len(m.phases)) {
		return fmt.Sprintf("Done %v in phase %d", r.Done(), m.phase)
	}
	if l := r.Log(); !slices.Equal(l, m.log) {
		return fmt.Sprintf("Log %v, want %v", l, m.log)
	}
	if a := r.Array(); !slices.Equal(a, m.array) {
		return fmt.Sprintf("Array %v, want %v", a, m.array)
	}
	return ""
}

// state is all that a run tells.
func state(r *Run) string {
	phase, left := r.Left()
	return fmt.Sprint(phase, left, r.Done(), r.Array(), r.Log())
}

// whole is the transform of an array, or the one back, by the axes.
func whole(t *testing.T, shape []int, a []uint64, back bool) []uint64 {
	t.Helper()
	transform := many.Forward
	if back {
		transform = many.Inverse
	}
	b, e := transform(shape, a)
	if e != api.OK {
		t.Fatalf("transform of %v: %d", shape, e)
	}
	return b
}

// wrong is what New and Together tell an error of.
type wrong struct {
	name    string
	shape   []int
	a       []uint64
	l       []api.Phase
	workers int
	want    api.Errno
}

func wrongs(t *testing.T) []wrong {
	t.Helper()
	good := planned(t, []int{2, 4}, 1)
	a := words(8, 1)
	// As fine a plan as no phase may be: 128 tasks of one line each.
	fine := []api.Phase{{}, {span(1, 0, 1)}}
	for i := range 128 {
		fine[0] = append(fine[0], span(0, i, i+1))
	}
	l := []wrong{
		{"no shape", nil, a, good, 1, api.ErrArg},
		{"an axis of 3", []int{2, 3}, a, good, 1, api.ErrArg},
		{"an axis of 0", []int{2, 0}, a, good, 1, api.ErrArg},
		{"four axes", []int{2, 2, 2, 1}, a, good, 1, api.ErrArg},
		{"a great axis below 0", []int{math.MinInt, 2}, a, good, 1, api.ErrArg},
		{"a large shape", []int{64, 32}, words(2048, 1), good, 1, api.ErrLarge},
		{"a shape beyond a word", []int{1 << 62, 4}, nil, good, 1, api.ErrLarge},
		{"no phases", []int{2, 4}, a, nil, 1, api.ErrForm},
		{"one phase", []int{2, 4}, a, good[:1], 1, api.ErrForm},
		{"three phases", []int{2, 4}, a, append(clone(good), api.Phase{span(2, 0, 1)}), 1, api.ErrForm},
		{"phases of another order", []int{2, 4}, a, []api.Phase{good[1], good[0]}, 1, api.ErrForm},
		{"an empty phase", []int{2, 4}, a, []api.Phase{good[0], {}}, 1, api.ErrForm},
		{"a line left out", []int{2, 4}, a, []api.Phase{good[0][1:], good[1]}, 1, api.ErrForm},
		{"a line twice", []int{2, 4}, a, []api.Phase{good[0], append(slices.Clone(good[1]), span(1, 1, 2))}, 1, api.ErrForm},
		{"an empty task", []int{2, 4}, a, []api.Phase{good[0], append(slices.Clone(good[1]), span(1, 1, 1))}, 1, api.ErrForm},
		{"a task beyond all lines", []int{2, 4}, a, []api.Phase{{span(0, 0, 5)}, good[1]}, 1, api.ErrForm},
		{"extreme tasks", []int{2, 4}, a, []api.Phase{{span(0, math.MinInt, math.MaxInt)}, good[1]}, 1, api.ErrForm},
		{"128 tasks", []int{1, 128}, words(128, 1), fine, 1, api.ErrLarge},
		{"no array", []int{2, 4}, nil, good, 1, api.ErrForm},
		{"a number too few", []int{2, 4}, a[:7], good, 1, api.ErrForm},
		{"a number too many", []int{2, 4}, words(9, 1), good, 1, api.ErrForm},
		// Of several, the one that is told first.
		{"shape, phases, array, workers", []int{3}, a, good, 0, api.ErrArg},
		{"large shape, phases, array, workers", []int{2048}, a, good, 0, api.ErrLarge},
		{"phases, array, workers", []int{2, 4}, a[:1], good[:1], 0, api.ErrForm},
		{"large phases, array, workers", []int{1, 128}, a, fine, 0, api.ErrLarge},
		{"large phases, array", []int{1, 128}, a, fine, 1, api.ErrLarge},
		{"array, workers", []int{2, 4}, a[:1], good, 0, api.ErrForm},
		{"array, many workers", []int{2, 4}, a[:1], good, 9, api.ErrForm},
	}
	for _, workers := range []int{0, -1, -8, 9, 10, 64, 1 << 32, 1<<32 + 1, -1 << 32, math.MaxInt, math.MinInt, math.MinInt + 1} {
		l = append(l, wrong{fmt.Sprint(workers, " workers"), []int{2, 4}, a, good, workers, api.ErrArg})
	}
	return l
}

func TestP13NewWrong(t *testing.T) {
	for _, c := range wrongs(t) {
		for _, back := range []bool{false, true} {
			if r, e := New(c.shape, c.a, c.l, c.workers, back); r != nil || e != c.want {
				t.Errorf("%s: %v, %d, want %d", c.name, r, e, c.want)
			}
		}
	}
}

func TestP13New(t *testing.T) {
	for _, shape := range append(shapes(16), great()...) {
		a := words(sizeOf(shape), 5)
		for _, l := range plans(shape) {
			for workers := 1; workers <= api.MaxWork; workers++ {
				r := made(t, shape, a, l, workers, false)
				if s := differs(r, modelOf(shape, a, l, workers, false)); s != "" {
					t.Errorf("%v, %v, %d workers: %s", shape, l, workers, s)
				}
			}
		}
	}
}

// The first phase is dealt one task each, again and again: each worker pops what it was dealt
// last first, and has no more than that.
func TestP13Deal(t *testing.T) {
	shape := []int{2, 32}
	l := planned(t, shape, 1)
	for workers := 1; workers <= api.MaxWork; workers++ {
		for w := range workers {
			r := made(t, shape, words(64, 3), l, workers, false)
			var want []api.Task
			for i := 31; i >= 0; i-- {
				if i%workers == w {
					want = append(want, l[0][i])
				}
			}
			for range 40 {
				if phase, _ := r.Left(); phase > 0 {
					break
				}
				if e := r.Step(pick(w, w)); e != api.OK {
					t.Fatal(e)
				}
			}
			if got := r.Log(); !slices.Equal(got, want) {
				t.Errorf("worker %d of %d: %v, want %v", w, workers, got, want)
			}
		}
	}
}

// A thief takes what the victim was dealt first; one that has tasks of its own does not steal.
func TestP13Steal(t *testing.T) {
	shape := []int{1, 8}
	l := planned(t, shape, 1)
	r := made(t, shape, words(8, 3), l, 2, false)
	// Worker 0 has lines 0, 2, 4, 6, worker 1 has 1, 3, 5, 7.
	var want []api.Task
	for _, line := range []int{7, 5, 3, 1, 0, 2, 4, 6} {
		if e := r.Step(pick(1, 0)); e != api.OK {
			t.Fatal(e)
		}
		want = append(want, span(0, line, line+1))
		if got := r.Log(); !slices.Equal(got, want) {
			t.Fatalf("%v, want %v", got, want)
		}
	}
	if phase, left := r.Left(); phase != 1 || left != 1 {
		t.Error(phase, left)
	}
}

// A worker that has nothing, and steals of one that has nothing, or of itself, does nothing.
func TestP13NothingToDo(t *testing.T) {
	shape := []int{2, 4}
	l := planned(t, shape, 2)
	r := made(t, shape, words(8, 3), l, 4, false)
	was := state(r)
	for _, x := range []api.Pick{pick(2, 2), pick(2, 3), pick(3, 2), pick(3, 3)} {
		for range 5 {
			if e := r.Step(x); e != api.OK || state(r) != was {
				t.Fatal(x, e, state(r))
			}
		}
	}
	if e := r.Step(pick(0, 0)); e != api.OK || !slices.Equal(r.Log(), l[0][:1]) {
		t.Fatal(e, r.Log())
	}
	was = state(r)
	for _, x := range []api.Pick{pick(0, 0), pick(0, 2), pick(2, 0)} {
		if e := r.Step(x); e != api.OK || state(r) != was {
			t.Fatal(x, e, state(r))
		}
	}
}

// There is no such worker, or victim, whatever the other is, and whether or not one need steal.
func TestP13StepWrong(t *testing.T) {
	shape := []int{2, 4}
	l := planned(t, shape, 1)
	for workers := 1; workers <= api.MaxWork; workers++ {
		r := made(t, shape, words(8, 3), l, workers, false)
		for !r.Done() {
			was := state(r)
			for _, no := range []int{-1, workers, workers + 1, -workers, 8, 64, 1 << 32, -1 << 32, math.MaxInt, math.MinInt} {
				for w := range workers {
					for _, x := range []api.Pick{pick(no, w), pick(w, no), pick(no, no)} {
						if e := r.Step(x); e != api.ErrArg || state(r) != was {
							t.Fatalf("%d workers, %v: %d, %s", workers, x, e, state(r))
						}
					}
				}
			}
			for w := range workers {
				r.Step(pick(0, w))
			}
		}
	}
}

// What is done stays as it is; that is told ahead of a worker who is none.
func TestP13StepWhenDone(t *testing.T) {
	for _, shape := range shapes(4) {
		r := made(t, shape, words(sizeOf(shape), 3), planned(t, shape, 1), 2, false)
		for turn := 0; !r.Done(); turn++ {
			r.Step(pick(turn%2, 1-turn%2))
		}
		was := state(r)
		for _, x := range []api.Pick{pick(0, 0), pick(0, 1), pick(1, 0), pick(-1, 0), pick(0, -1), pick(2, 2), pick(math.MaxInt, math.MinInt)} {
			if e := r.Step(x); e != api.ErrState || state(r) != was {
				t.Errorf("%v, %v: %d, %s", shape, x, e, state(r))
			}
		}
		if phase, left := r.Left(); phase != len(shape) || left != 0 {
			t.Errorf("%v: Left %d, %d", shape, phase, left)
		}
	}
}

// An array of which nothing is done yet is told by P as well, and so is each line that waits.
func TestP13ArrayIsByP(t *testing.T) {
	shape := []int{2, 4}
	for _, a := range [][]uint64{
		{p, p + 1, math.MaxUint64, p - 1, 0, 1, 1 << 63, p + 7},
		slices.Repeat([]uint64{p}, 8),
		slices.Repeat([]uint64{math.MaxUint64}, 8),
	} {
		r := made(t, shape, a, planned(t, shape, 1), 3, false)
		if got := r.Array(); !slices.Equal(got, rests(a)) {
			t.Errorf("%v, want %v", got, rests(a))
		}
		for turn := 0; !r.Done(); turn++ {
			r.Step(pick(turn%3, (turn+1)%3))
			for _, x := range r.Array() {
				if x >= p {
					t.Fatal(r.Array())
				}
			}
		}
		if want := whole(t, shape, a, false); !slices.Equal(r.Array(), want) {
			t.Errorf("%v, want %v", r.Array(), want)
		}
	}
}

// walk goes through all that may be picked in so many steps, wrong picks among them, each way
// held against its model.
func walk(t *testing.T, begin func() (*Run, *model), workers, steps int) {
	t.Helper()
	picks := workers + 1
	ways := 1
	for range steps {
		ways *= picks * picks
	}
	for way := range ways {
		r, m := begin()
		rest := way
		for step := range steps {
			w, v := rest%picks, rest/picks%picks
			rest /= picks * picks
			if got, want := r.Step(pick(w, v)), m.step(w, v); got != want {
				t.Fatalf("way %d, step %d: %d, want %d", way, step, got, want)
			}
		}
		if s := differs(r, m); s != "" {
			t.Fatalf("way %d: %s", way, s)
		}
	}
}

func TestP13AllWays(t *testing.T) {
	for _, c := range []struct {
		shape               []int
		cut, workers, steps int
	}{
		{[]int{2}, 1, 1, 8}, {[]int{1, 2}, 1, 1, 7}, {[]int{2, 2}, 1, 1, 7}, {[]int{2, 2}, 1, 2, 5}, {[]int{2, 2}, 1, 3, 3},
		{[]int{1, 2}, 1, 2, 5}, {[]int{1, 4}, 1, 2, 5}, {[]int{1, 1, 2}, 1, 2, 5},
	} {
		a := words(sizeOf(c.shape), 9)
		l := planned(t, c.shape, c.cut)
		for _, back := range []bool{false, true} {
			walk(t, func() (*Run, *model) {
				r, e := New(c.shape, a, l, c.workers, back)
				if e != api.OK {
					t.Fatal(e)
				}
				return r, modelOf(c.shape, a, l, c.workers, back)
			}, c.workers, c.steps)
		}
	}
}

// Long ways to the end, looked at after each step.
func TestP13LongWays(t *testing.T) {
	for i, shape := range append(shapes(16), []int{8, 16}, []int{4, 4, 8}, []int{64, 1}) {
		a := words(sizeOf(shape), uint64(i))
		for j, l := range plans(shape) {
			for workers := 1; workers <= api.MaxWork; workers++ {
				back := (i+j+workers)%2 == 0
				r, m := made(t, shape, a, l, workers, back), modelOf(shape, a, l, workers, back)
				x := uint64(i*1000 + j*10 + workers)
				for step := 0; !r.Done() && step < 20000; step++ {
					x = x*6364136223846793005 + 1442695040888963407
					// Now and then one who is no worker.
					w, v := int(x>>33)%(workers+1), int(x>>44)%(workers+1)
					if step%7 != 0 {
						w, v = w%workers, v%workers
					}
					if got, want := r.Step(pick(w, v)), m.step(w, v); got != want {
						t.Fatalf("%v, %v, %d workers, step %d: %d, want %d", shape, l, workers, step, got, want)
					}
					if s := differs(r, m); s != "" {
						t.Fatalf("%v, %v, %d workers, step %d: %s", shape, l, workers, step, s)
					}
				}
				if want := whole(t, shape, a, back); !r.Done() || !slices.Equal(r.Array(), want) {
					t.Errorf("%v, %v, %d workers: done %v, %v, want %v", shape, l, workers, r.Done(), r.Array(), want)
				}
			}
		}
	}
}

// As many tasks as a phase may have are dealt to few workers, too.
func TestP13FullPhases(t *testing.T) {
	for _, shape := range [][]int{{1, 64}, {64, 1}, {64, 2}, {32, 32}, {1, 1, 64}, {16, 1, 64}} {
		a := words(sizeOf(shape), 4)
		cut := sizeOf(shape) / slices.Min(shape) / 64
		l := planned(t, shape, max(cut, 1))
		for workers := 1; workers <= api.MaxWork; workers++ {
			r, m := made(t, shape, a, l, workers, false), modelOf(shape, a, l, workers, false)
			for turn := 0; turn < 5000 && !r.Done(); turn++ {
				w, v := turn%workers, turn/3%workers
				if r.Step(pick(w, v)) != m.step(w, v) || r.Done() != (m.phase == len(shape)) {
					t.Fatalf("%v, %d workers, turn %d", shape, workers, turn)
				}
			}
			if s := differs(r, m); s != "" || !r.Done() {
				t.Errorf("%v, %d workers: done %v, %s", shape, workers, r.Done(), s)
			}
			if want := whole(t, shape, a, false); !slices.Equal(r.Array(), want) {
				t.Errorf("%v, %d workers: not the transform", shape, workers)
			}
		}
	}
}

func TestP14Known(t *testing.T) {
	shape, a := []int{2, 2}, []uint64{1, 2, 3, 4}
	want := []uint64{10, p - 2, p - 4, 0}
	for workers := 1; workers <= api.MaxWork; workers++ {
		for _, l := range plans(shape) {
			if b, e := Together(shape, a, l, workers, false); e != api.OK || !slices.Equal(b, want) {
				t.Errorf("%d workers, %v: %v, %d", workers, l, b, e)
			}
			if b, e := Together(shape, want, l, workers, true); e != api.OK || !slices.Equal(b, a) {
				t.Errorf("%d workers, %v, back: %v, %d", workers, l, b, e)
			}
		}
	}
}

func TestP14Together(t *testing.T) {
	for i, shape := range append(shapes(32), great()...) {
		a := words(sizeOf(shape), uint64(i))
		forward, inverse := whole(t, shape, a, false), whole(t, shape, a, true)
		for _, l := range plans(shape) {
			for workers := 1; workers <= api.MaxWork; workers++ {
				if b, e := Together(shape, a, l, workers, false); e != api.OK || !slices.Equal(b, forward) {
					t.Errorf("%v, %v, %d workers: %v, %d", shape, l, workers, b, e)
				}
				if b, e := Together(shape, a, l, workers, true); e != api.OK || !slices.Equal(b, inverse) {
					t.Errorf("%v, %v, %d workers, back: %v, %d", shape, l, workers, b, e)
				}
			}
		}
	}
}

// All shapes, forward and back again.
func TestP14ForwardAndBack(t *testing.T) {
	for i, shape := range shapes(api.MaxSize) {
		a := words(sizeOf(shape), uint64(i))
		all := plans(shape)
		l, m := all[i%len(all)], all[(i+1)%len(all)]
		b, e := Together(shape, a, l, i%api.MaxWork+1, false)
		if want := whole(t, shape, a, false); e != api.OK || !slices.Equal(b, want) {
			t.Errorf("%v: %d, not the transform", shape, e)
		}
		c, e := Together(shape, b, m, (i+3)%api.MaxWork+1, true)
		if e != api.OK || !slices.Equal(c, rests(a)) {
			t.Errorf("%v: %d, not what was", shape, e)
		}
	}
}

func TestP14Wrong(t *testing.T) {
	for _, c := range wrongs(t) {
		for _, back := range []bool{false, true} {
			if b, e := Together(c.shape, c.a, c.l, c.workers, back); b != nil || e != c.want {
				t.Errorf("%s: %v, %d, want %d", c.name, b, e, c.want)
			}
		}
	}
}

// However the workers come to run, and beside whom, they tell the same.
func TestP14Again(t *testing.T) {
	shape := []int{8, 4, 8}
	a := words(256, 11)
	l := planned(t, shape, 1)
	want := whole(t, shape, a, false)
	defer runtime.GOMAXPROCS(runtime.GOMAXPROCS(0))
	for _, procs := range []int{1, 2, 8} {
		runtime.GOMAXPROCS(procs)
		var group sync.WaitGroup
		for caller := range 8 {
			group.Go(func() {
				for range 10 {
					if b, e := Together(shape, a, l, caller+1, false); e != api.OK || !slices.Equal(b, want) {
						t.Errorf("%d procs, %d workers: %d, not the transform", procs, caller+1, e)
					}
				}
			})
		}
		group.Wait()
	}
}

// No worker is left behind when the answer is there.
func TestP14AllJoined(t *testing.T) {
	shape := []int{8, 8, 4}
	a := words(256, 11)
	l := planned(t, shape, 1)
	was := runtime.NumGoroutine()
	for range 50 {
		Together(shape, a, l, api.MaxWork, false)
		Together(shape, a, l, 9, false)
	}
	// One that has said that it is done may still be on its way out.
	for turn := 0; runtime.NumGoroutine() > was && turn < 100000; turn++ {
		runtime.Gosched()
	}
	if n := runtime.NumGoroutine(); n > was {
		t.Errorf("%d goroutines, %d at first", n, was)
	}
}

// A run that New did not make has no phases: it is done.
func TestP1ZeroRun(t *testing.T) {
	r := new(Run)
	for range 2 {
		if phase, left := r.Left(); phase != 0 || left != 0 || !r.Done() || len(r.Array()) != 0 || len(r.Log()) != 0 {
			t.Error(state(r))
		}
		for _, x := range []api.Pick{{}, pick(1, 1), pick(-1, 0), pick(math.MaxInt, math.MinInt)} {
			if e := r.Step(x); e != api.ErrState {
				t.Error(x, e)
			}
		}
	}
}

// Whatever numbers are handed in together, both calls answer, and tell the same error.
func TestP1Extremes(t *testing.T) {
	numbers := []int{math.MinInt, math.MinInt + 1, -1 << 32, -1, 0, 1, 2, 9, 1025, 1 << 32, 1 << 62, math.MaxInt}
	for _, x := range numbers {
		for _, y := range numbers {
			for _, z := range numbers {
				l := []api.Phase{{span(x, y, z)}, {span(z, x, y), span(y, z, x)}}
				for _, shape := range [][]int{{1, 1}, {2, 1}, {x, y}} {
					r, e := New(shape, []uint64{1, 2}, l, z, false)
					b, f := Together(shape, []uint64{1, 2}, l, z, false)
					if e != f || (r != nil) != (e == api.OK) || (b != nil) != (e == api.OK) {
						t.Errorf("%v, %v, %d: %d, %d", shape, l, z, e, f)
					}
				}
			}
		}
	}
}

// roomy is a list with other things in the room behind it.
func roomy[T any](l []T, behind T) (list, room []T) {
	room = append(slices.Clone(l), behind, behind, behind)
	return room[:len(l)], room
}

func TestP2NothingHandedInChanges(t *testing.T) {
	shape, shapeRoom := roomy([]int{4, 2}, 77)
	a, aRoom := roomy([]uint64{p, p + 1, math.MaxUint64, 3, 4, 5, 6, 7}, 88)
	l, lRoom := roomy(planned(t, shape, 1), api.Phase{span(5, 6, 7)})
	var tasksRooms [][]api.Task
	for i := range l {
		var room []api.Task
		l[i], room = roomy(l[i], span(7, 8, 9))
		tasksRooms = append(tasksRooms, room)
	}
	was := fmt.Sprint(shapeRoom, aRoom, lRoom, tasksRooms)
	for workers := 0; workers <= 9; workers++ {
		for _, back := range []bool{false, true} {
			Together(shape, a, l, workers, back)
			Together(shape, a[:7], l, workers, back)
			if r, e := New(shape, a, l, workers, back); e == api.OK {
				for turn := 0; !r.Done(); turn++ {
					r.Step(pick(turn%workers, (turn+1)%workers))
					r.Array()
					r.Log()
				}
			}
			if s := fmt.Sprint(shapeRoom, aRoom, lRoom, tasksRooms); s != was {
				t.Fatalf("%d workers: %s, was %s", workers, s, was)
			}
		}
	}
}

// What is handed in may be changed behind the call: the run does not see it.
func TestP2NothingHandedInIsKept(t *testing.T) {
	shape, a := []int{4, 2}, words(8, 6)
	l := planned(t, shape, 1)
	for workers := 1; workers <= api.MaxWork; workers++ {
		s, b, k := slices.Clone(shape), slices.Clone(a), clone(l)
		r, m := made(t, s, b, k, workers, false), modelOf(shape, a, l, workers, false)
		for turn := 0; !r.Done(); turn++ {
			clear(s)
			clear(b)
			for _, phase := range k {
				clear(phase)
			}
			clear(k)
			w, v := turn%workers, (turn+1)%workers
			if got, want := r.Step(pick(w, v)), m.step(w, v); got != want {
				t.Fatal(got, want)
			}
			if s := differs(r, m); s != "" {
				t.Fatalf("%d workers: %s", workers, s)
			}
		}
	}
}

// scribble writes over a list and the room behind it.
func scribble[T any](l []T, x T) {
	l = l[:cap(l)]
	for i := range l {
		l[i] = x
	}
}

// What is answered is the caller's: written over, spare room included, it changes no run, and no
// other answer.
func TestP2AnswersAreNew(t *testing.T) {
	shape, a := []int{4, 8}, words(32, 6)
	l := planned(t, shape, 1)
	r, m := made(t, shape, a, l, 3, false), modelOf(shape, a, l, 3, false)
	for turn := 0; !r.Done(); turn++ {
		array, log := r.Array(), r.Log()
		scribble(r.Array(), 99)
		scribble(r.Log(), span(9, 9, 9))
		if !slices.Equal(array, m.array) || !slices.Equal(log, m.log) {
			t.Fatal(turn, array, log)
		}
		arrayWas, logWas := slices.Clone(array), slices.Clone(log)
		w, v := turn%3, (turn+1)%3
		r.Step(pick(w, v))
		m.step(w, v)
		if !slices.Equal(array, arrayWas) || !slices.Equal(log, logWas) {
			t.Fatal("an answer was changed by a step", turn)
		}
		scribble(array, 99)
		scribble(log, span(9, 9, 9))
		if s := differs(r, m); s != "" {
			t.Fatal(turn, s)
		}
	}
	b, _ := Together(shape, a, l, 3, false)
	c, _ := Together(shape, a, l, 3, false)
	scribble(b, 99)
	if want := whole(t, shape, a, false); !slices.Equal(c, want) || !slices.Equal(a, words(32, 6)) {
		t.Error("an answer of Together is shared")
	}
}

// Even the transform that changes nothing is new memory.
func TestP2TogetherOfOneNumber(t *testing.T) {
	for _, shape := range [][]int{{1}, {1, 1}, {1, 1, 1}} {
		a := []uint64{5}
		b, e := Together(shape, a, planned(t, shape, 1), 8, false)
		if e != api.OK || !slices.Equal(b, []uint64{5}) {
			t.Fatal(shape, b, e)
		}
		scribble(b, 99)
		if a[0] != 5 {
			t.Error(shape, a)
		}
	}
}

func TestP2RunsAreApart(t *testing.T) {
	shape, a := []int{2, 4}, words(8, 6)
	l := planned(t, shape, 1)
	r, s := made(t, shape, a, l, 2, false), made(t, shape, a, l, 2, true)
	m, n := modelOf(shape, a, l, 2, false), modelOf(shape, a, l, 2, true)
	for turn := range 12 {
		if r.Step(pick(0, 1)) != m.step(0, 1) {
			t.Fatal(turn)
		}
		if x := differs(s, n); x != "" {
			t.Fatal(turn, x)
		}
		if s.Step(pick(1, turn%2)) != n.step(1, turn%2) {
			t.Fatal(turn)
		}
		if x := differs(r, m); x != "" {
			t.Fatal(turn, x)
		}
	}
}
