package deque

import (
	"math"
	"slices"
	"testing"

	"goldmill/api"
)

// task is the n-th of tasks that are all different, in each of their numbers.
func task(n int) api.Task {
	return api.Task{Axis: 3*n + 1, First: 3*n + 2, Last: 3*n + 3}
}

// made is an empty deque.
func made(t *testing.T, room int) *Deque {
	t.Helper()
	d, e := New(room)
	if d == nil || e != api.OK {
		t.Fatalf("New(%d): %v, %v", room, d, e)
	}
	return d
}

// model is a deque that is one plain list.
type model struct {
	room int
	list []api.Task
}

func (m *model) push(t api.Task) api.Errno {
	if len(m.list) == m.room {
		return api.ErrLarge
	}
	m.list = append(m.list, t)
	return api.OK
}

func (m *model) pop() (api.Task, bool) {
	n := len(m.list)
	if n == 0 {
		return api.Task{}, false
	}
	x := m.list[n-1]
	m.list = m.list[:n-1]
	return x, true
}

func (m *model) steal() (api.Task, bool) {
	if len(m.list) == 0 {
		return api.Task{}, false
	}
	x := m.list[0]
	m.list = slices.Clone(m.list[1:])
	return x, true
}

// What may be done to a deque.
const (
	push = iota
	pop
	steal
	acts
)

// same does one thing to a deque and to its model, and tells whether both answered the same.
func same(d *Deque, m *model, act int, x api.Task) bool {
	switch act {
	case push:
		return d.Push(x) == m.push(x) && d.Len() == len(m.list)
	case pop:
		got, gotOK := d.Pop()
		want, wantOK := m.pop()
		return got == want && gotOK == wantOK && d.Len() == len(m.list)
	default:
		got, gotOK := d.Steal()
		want, wantOK := m.steal()
		return got == want && gotOK == wantOK && d.Len() == len(m.list)
	}
}

func TestP12New(t *testing.T) {
	for room := 1; room <= api.MaxRoom; room++ {
		d := made(t, room)
		if d.Len() != 0 {
			t.Errorf("room %d: Len %d", room, d.Len())
		}
		if x, ok := d.Pop(); ok || x != (api.Task{}) {
			t.Errorf("room %d: Pop %v, %v", room, x, ok)
		}
		if x, ok := d.Steal(); ok || x != (api.Task{}) {
			t.Errorf("room %d: Steal %v, %v", room, x, ok)
		}
	}
}

func TestP12NewWrong(t *testing.T) {
	for _, room := range []int{0, -1, -2, -64, 65, 66, 128, 1 << 32, 1<<32 + 1, -1 << 32, math.MaxInt, math.MinInt, math.MinInt + 1} {
		if d, e := New(room); d != nil || e != api.ErrArg {
			t.Errorf("New(%d): %v, %v", room, d, e)
		}
	}
}

func TestP12PushUpToRoom(t *testing.T) {
	for room := 1; room <= api.MaxRoom; room++ {
		d := made(t, room)
		for i := range room {
			if e := d.Push(task(i)); e != api.OK || d.Len() != i+1 {
				t.Fatalf("room %d, push %d: %v, Len %d", room, i, e, d.Len())
			}
		}
		for range 3 {
			if e := d.Push(task(-7)); e != api.ErrLarge || d.Len() != room {
				t.Fatalf("room %d, full: %v, Len %d", room, e, d.Len())
			}
		}
		// What was refused left all of them as they were.
		for i := range room {
			if x, ok := d.Steal(); !ok || x != task(i) {
				t.Fatalf("room %d, steal %d: %v, %v", room, i, x, ok)
			}
		}
		if d.Len() != 0 {
			t.Errorf("room %d: Len %d in the end", room, d.Len())
		}
	}
}

func TestP12PopIsLast(t *testing.T) {
	d := made(t, 5)
	for i := range 5 {
		d.Push(task(i))
	}
	for i := 4; i >= 0; i-- {
		if x, ok := d.Pop(); !ok || x != task(i) || d.Len() != i {
			t.Errorf("pop %d: %v, %v, Len %d", i, x, ok, d.Len())
		}
	}
	if x, ok := d.Pop(); ok || x != (api.Task{}) || d.Len() != 0 {
		t.Errorf("pop of none: %v, %v, Len %d", x, ok, d.Len())
	}
}

func TestP12StealIsFirst(t *testing.T) {
	d := made(t, 5)
	for i := range 5 {
		d.Push(task(i))
	}
	for i := range 5 {
		if x, ok := d.Steal(); !ok || x != task(i) || d.Len() != 4-i {
			t.Errorf("steal %d: %v, %v, Len %d", i, x, ok, d.Len())
		}
	}
	if x, ok := d.Steal(); ok || x != (api.Task{}) || d.Len() != 0 {
		t.Errorf("steal of none: %v, %v, Len %d", x, ok, d.Len())
	}
}

func TestP12OneTaskHasBothEnds(t *testing.T) {
	d := made(t, 1)
	for i := range 300 {
		take := d.Pop
		if i%3 == 0 {
			take = d.Steal
		}
		if e := d.Push(task(i)); e != api.OK {
			t.Fatal(i, e)
		}
		if x, ok := take(); !ok || x != task(i) {
			t.Fatal(i, x, ok)
		}
		if x, ok := take(); ok || x != (api.Task{}) {
			t.Fatal(i, x, ok)
		}
	}
}

// A list that stays as long as it is goes round the ring, wherever it begins.
func TestP12Round(t *testing.T) {
	for room := 1; room <= api.MaxRoom; room++ {
		for kept := 1; kept <= room; kept++ {
			d := made(t, room)
			m := &model{room: room}
			for i := range kept - 1 {
				same(d, m, push, task(i))
			}
			for i := kept - 1; i < kept+2*api.MaxRoom; i++ {
				if !same(d, m, push, task(i)) || !same(d, m, steal, task(0)) {
					t.Fatalf("room %d, kept %d, turn %d", room, kept, i)
				}
			}
			for range kept {
				if !same(d, m, pop, task(0)) {
					t.Fatalf("room %d, kept %d: pop in the end", room, kept)
				}
			}
		}
	}
}

// All that can be done to a small deque in so many steps.
func TestP12AllWays(t *testing.T) {
	const steps = 9
	ways := 1
	for range steps {
		ways *= acts
	}
	for room := 1; room <= 4; room++ {
		for way := range ways {
			d := made(t, room)
			m := &model{room: room}
			rest := way
			for step := range steps {
				if !same(d, m, rest%acts, task(step)) {
					t.Fatalf("room %d, way %d, step %d", room, way, step)
				}
				rest /= acts
			}
		}
	}
}

// Long ways, in which each room is full, and empty, again and again.
func TestP12LongWays(t *testing.T) {
	for room := 1; room <= api.MaxRoom; room++ {
		d := made(t, room)
		m := &model{room: room}
		x := uint64(room)
		full, empty := 0, 0
		for step := range 6000 {
			x = x*6364136223846793005 + 1442695040888963407
			act := push
			// Some stretches of steps push more often, others take more often.
			if often := uint64(step / 400 % 2); (x>>33)%8 >= 6-4*often {
				act = pop + int(x>>40)%2
			}
			if !same(d, m, act, task(step)) {
				t.Fatalf("room %d, step %d, act %d", room, step, act)
			}
			if len(m.list) == room {
				full++
			}
			if len(m.list) == 0 {
				empty++
			}
		}
		if full == 0 || empty == 0 {
			t.Errorf("room %d: full %d times, empty %d times", room, full, empty)
		}
	}
}

// A deque asks nothing of its tasks: any numbers, the same ones again, the zero task.
func TestP12AnyTasks(t *testing.T) {
	l := []api.Task{
		{}, {}, {Axis: -1, First: -1, Last: -1}, {Axis: 3, First: 5, Last: 2},
		{Axis: math.MaxInt, First: math.MinInt, Last: math.MaxInt},
		{Axis: math.MinInt, First: math.MaxInt, Last: math.MinInt}, {Last: 1}, {Last: 1},
	}
	d := made(t, len(l))
	for range 20 {
		for _, x := range l {
			if e := d.Push(x); e != api.OK {
				t.Fatal(x, e)
			}
		}
		for first, last := 0, len(l)-1; first < last; first, last = first+1, last-1 {
			if x, ok := d.Steal(); !ok || x != l[first] {
				t.Fatal(first, x, ok)
			}
			if x, ok := d.Pop(); !ok || x != l[last] {
				t.Fatal(last, x, ok)
			}
		}
	}
}

func TestP12LenChangesNothing(t *testing.T) {
	d := made(t, 4)
	for i := range 3 {
		d.Push(task(i))
	}
	was := *d
	for range 5 {
		if n := d.Len(); n != 3 || *d != was {
			t.Fatal(n)
		}
	}
}

// A deque that New did not make has no room: it answers all the same.
func TestP1ZeroDeque(t *testing.T) {
	d := new(Deque)
	for range 3 {
		if e := d.Push(task(1)); e != api.ErrLarge || d.Len() != 0 {
			t.Error(e, d.Len())
		}
		if x, ok := d.Pop(); ok || x != (api.Task{}) {
			t.Error(x, ok)
		}
		if x, ok := d.Steal(); ok || x != (api.Task{}) {
			t.Error(x, ok)
		}
	}
}

// What is refused, and what is asked of an empty deque, leaves it as it was to the last bit.
func TestP2RefusedChangesNothing(t *testing.T) {
	for turns := range 2*api.MaxRoom + 1 {
		d := made(t, 3)
		for i := range turns {
			d.Push(task(i))
			d.Steal()
		}
		was := *d
		d.Pop()
		d.Steal()
		if *d != was {
			t.Fatal("empty", turns)
		}
		for i := range 3 {
			d.Push(task(i))
		}
		was = *d
		if e := d.Push(task(9)); e != api.ErrLarge || *d != was {
			t.Fatal("full", turns, e)
		}
	}
}

func TestP2DequesAreApart(t *testing.T) {
	a, b := made(t, 2), made(t, 3)
	a.Push(task(0))
	if b.Len() != 0 {
		t.Error(b.Len())
	}
	b.Push(task(1))
	b.Push(task(2))
	c := *b
	c.Pop()
	c.Push(task(3))
	if x, ok := b.Pop(); !ok || x != task(2) {
		t.Error(x, ok)
	}
	if x, ok := a.Steal(); !ok || x != task(0) || a.Len() != 0 {
		t.Error(x, ok)
	}
	if x, ok := b.Steal(); !ok || x != task(1) || b.Len() != 0 {
		t.Error(x, ok)
	}
	if x, ok := c.Pop(); !ok || x != task(3) || c.Len() != 1 {
		t.Error(x, ok)
	}
}

// What is told is the caller's: changed there, it is not changed in the deque, nor kept by it.
func TestP2TasksAreValues(t *testing.T) {
	d := made(t, 2)
	x := task(0)
	d.Push(x)
	x.First = -5
	d.Push(task(1))
	if y, ok := d.Steal(); !ok || y != task(0) {
		t.Error(y, ok)
	}
	if y, ok := d.Pop(); !ok || y != task(1) {
		t.Error(y, ok)
	}
	for _, kept := range d.tasks {
		if kept != (api.Task{}) {
			t.Error("kept:", kept)
		}
	}
}
