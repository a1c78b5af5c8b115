package event_test

import (
	"math"
	"slices"
	"testing"
	"unsafe"

	"braidwork/event"
)

// read and written: an object's mark.
func read(object int) event.Mark {
	return event.Mark{Object: object}
}

func written(object int) event.Mark {
	return event.Mark{Object: object, Write: true}
}

func marks(l ...event.Mark) []event.Mark {
	return l
}

// of: an event with marks as they stand, such as New need not have made.
func of(thread int, l ...event.Mark) event.Event {
	return event.Event{Thread: thread, Marks: l}
}

func same(a, b event.Event) bool {
	return a.Thread == b.Thread && slices.Equal(a.Marks, b.Marks)
}

func checkNew(t *testing.T, thread int, l []event.Mark, want ...event.Mark) {
	t.Helper()
	if e := event.New(thread, l...); !same(e, of(thread, want...)) {
		t.Errorf("P8.1: New(%d, %v) is %v, not of the marks %v", thread, l, e, want)
	}
}

// checkClash: and that the one that comes first doesn't matter, and events of two threads depend just if their marks clash.
func checkClash(t *testing.T, a, b []event.Mark, want bool) {
	t.Helper()
	if event.Clash(a, b) != want || event.Clash(b, a) != want {
		t.Errorf("P8.1: Clash of %v and %v is %v, and the other way round %v", a, b, event.Clash(a, b), event.Clash(b, a))
	}
	checkDepend(t, of(0, a...), of(1, b...), want)
	checkDepend(t, of(-7, a...), of(-7, b...), true)
}

func checkDepend(t *testing.T, a, b event.Event, want bool) {
	t.Helper()
	if event.Depend(a, b) != want || event.Depend(b, a) != want {
		t.Errorf("P8.1: Depend of %v and %v is %v, and the other way round %v", a, b, event.Depend(a, b), event.Depend(b, a))
	}
}

func checkSame(t *testing.T, a, b event.Event, want bool) {
	t.Helper()
	if event.Same(a, b) != want || event.Same(b, a) != want {
		t.Errorf("P8.1: Same of %v and %v is %v, and the other way round %v", a, b, event.Same(a, b), event.Same(b, a))
	}
}

func TestNew(t *testing.T) {
	checkNew(t, 0, marks(read(3), written(1), written(3)), written(1), written(3))
	checkNew(t, 4, marks(read(5), read(2), read(9), read(0)), read(0), read(2), read(5), read(9))
	checkNew(t, 1, marks(written(8), read(7), written(6)), written(6), read(7), written(8))
	checkNew(t, 1, marks(read(1), read(2), written(2), read(1), read(2)), read(1), written(2))
	checkNew(t, 2, marks(read(10), read(9), read(100), read(11)), read(9), read(10), read(11), read(100))
}

func TestNewOfOneObject(t *testing.T) {
	checkNew(t, 3, marks(read(6)), read(6))
	checkNew(t, 3, marks(written(6)), written(6))
	checkNew(t, 3, marks(read(6), read(6), read(6)), read(6))
	checkNew(t, 3, marks(written(6), written(6)), written(6))
	checkNew(t, 3, marks(read(6), written(6)), written(6))
	checkNew(t, 3, marks(written(6), read(6)), written(6))
	checkNew(t, 3, marks(read(6), written(6), read(6)), written(6))
	checkNew(t, 3, marks(written(6), read(6), written(6)), written(6))
}

func TestNewOfNoMarks(t *testing.T) {
	for _, thread := range []int{0, 1, -1, math.MaxInt, math.MinInt} {
		if e := event.New(thread); e.Thread != thread || len(e.Marks) != 0 {
			t.Errorf("P8.1: New(%d) is %v", thread, e)
		}
		checkNew(t, thread, nil)
		checkNew(t, thread, marks())
		checkNew(t, thread, make([]event.Mark, 0, 4))
	}
}

func TestNewOfStrangeObjects(t *testing.T) {
	checkNew(t, math.MinInt, marks(read(math.MaxInt), written(0), read(math.MinInt), written(-1)), read(math.MinInt), written(-1), written(0), read(math.MaxInt))
	checkNew(t, math.MaxInt, marks(read(math.MaxInt), read(math.MinInt), written(math.MaxInt)), read(math.MinInt), written(math.MaxInt))
	checkNew(t, -1, marks(read(-3), read(-2), read(-30), written(-2)), read(-30), read(-3), written(-2))
	checkNew(t, 0, marks(read(1<<32), read(1), read(1<<32+1), written(0)), written(0), read(1), read(1<<32), read(1<<32+1))
}

// TestNewOfAsManyAsMayBe: marks from the last object to the first one, all of them twice.
func TestNewOfAsManyAsMayBe(t *testing.T) {
	const most = 100000
	var l, want []event.Mark
	for i := range most {
		l = append(l, read(most-1-i))
		want = append(want, event.Mark{Object: i, Write: i%3 == 0})
	}
	for i := range most {
		l = append(l, event.Mark{Object: i, Write: i%3 == 0})
	}
	e := event.New(5, l...)
	if !same(e, of(5, want...)) {
		t.Errorf("P8.1: of %d marks %d are left", len(l), len(e.Marks))
	}
	checkClashOfMany(t, l, want)
}

// checkClashOfMany: lists too long to hold each mark of the one against each of the other one.
func checkClashOfMany(t *testing.T, l, sorted []event.Mark) {
	t.Helper()
	var beside, onlyRead []event.Mark
	for _, m := range l {
		beside = append(beside, written(m.Object+len(l)))
		onlyRead = append(onlyRead, read(m.Object))
	}
	for _, a := range [][]event.Mark{l, sorted} {
		if !event.Clash(a, onlyRead) || !event.Clash(onlyRead, a) || event.Clash(a, beside) || event.Clash(beside, a) {
			t.Errorf("P8.1: Clash of %d marks", len(a))
		}
	}
	if event.Clash(onlyRead, onlyRead) {
		t.Errorf("P8.1: %d marks that only read clash", len(l))
	}
}

func TestClash(t *testing.T) {
	checkClash(t, marks(read(3)), marks(read(3)), false)
	checkClash(t, marks(written(3)), marks(read(3)), true)
	checkClash(t, marks(written(3)), marks(written(3)), true)
	checkClash(t, marks(written(3)), marks(written(4)), false)
	checkClash(t, marks(written(1), read(2), written(3)), marks(written(0), read(2), written(4)), false)
	checkClash(t, marks(written(1), read(2), written(3)), marks(written(0), written(2), written(4)), true)
	checkClash(t, marks(read(1), read(2), read(3)), marks(read(1), read(2), read(3)), false)
	checkClash(t, marks(read(1), read(2), read(3)), marks(read(1), read(2), written(3)), true)
	checkClash(t, marks(read(1), read(2), read(3)), marks(written(1), read(2), read(3)), true)
	checkClash(t, marks(read(1), written(2), read(3)), marks(read(1), read(3)), false)
	checkClash(t, marks(read(1), read(9)), marks(written(2), written(3), written(4), read(9)), false)
	checkClash(t, marks(read(1), read(9)), marks(written(2), written(3), written(4), written(9)), true)
}

func TestClashOfNoMarks(t *testing.T) {
	for _, none := range [][]event.Mark{nil, {}, make([]event.Mark, 0, 3)} {
		checkClash(t, none, nil, false)
		checkClash(t, none, marks(), false)
		checkClash(t, none, marks(written(0)), false)
		checkClash(t, none, marks(written(0), written(-1), read(0)), false)
	}
}

// TestClashInAnyOrder: of lists that New didn't make.
func TestClashInAnyOrder(t *testing.T) {
	checkClash(t, marks(read(9), read(1)), marks(written(9)), true)
	checkClash(t, marks(read(9), read(1)), marks(written(1)), true)
	checkClash(t, marks(written(9), read(5), written(1)), marks(read(5), written(2), written(0)), false)
	checkClash(t, marks(written(9), read(5), written(1)), marks(read(1), written(2), written(0)), true)
	checkClash(t, marks(read(3), written(3)), marks(read(3)), true)
	checkClash(t, marks(written(3), read(3)), marks(read(3)), true)
	checkClash(t, marks(read(3), read(3), written(3)), marks(read(3), read(3)), true)
	checkClash(t, marks(read(3), read(3), read(3)), marks(read(3), read(3)), false)
	checkClash(t, marks(read(3), read(3)), marks(read(4), read(3), written(4)), false)
	checkClash(t, marks(written(3), read(4), read(3)), marks(read(4), read(4), written(5), written(5)), false)
}

// TestClashOfStrangeObjects: such as overflow, if one is taken from another one.
func TestClashOfStrangeObjects(t *testing.T) {
	least, most := math.MinInt, math.MaxInt
	checkClash(t, marks(read(least)), marks(written(least)), true)
	checkClash(t, marks(read(most)), marks(written(most)), true)
	checkClash(t, marks(written(least)), marks(written(most)), false)
	checkClash(t, marks(read(least), read(most)), marks(written(-1), written(0), written(most)), true)
	checkClash(t, marks(read(most), read(least)), marks(written(0), written(least)), true)
	checkClash(t, marks(read(-2), read(-1)), marks(written(-1)), true)
	checkClash(t, marks(read(-1)), marks(written(1)), false)
	checkClash(t, marks(written(1<<32)), marks(written(0)), false)
}

func TestDepend(t *testing.T) {
	a := event.New(0, read(3), written(1), written(3))
	b, c := event.New(1, read(3)), event.New(2, read(3))
	checkDepend(t, a, b, true)
	checkDepend(t, a, c, true)
	checkDepend(t, b, c, false)
	checkDepend(t, a, a, true)
	checkDepend(t, a, event.New(3, read(2), written(4)), false)
	checkDepend(t, b, event.New(1), true)
	checkDepend(t, event.New(1), event.New(1), true)
	checkDepend(t, event.New(1), event.New(2), false)
	checkDepend(t, event.New(1, written(5)), event.New(1, written(6)), true)
	checkDepend(t, event.New(-1, read(5)), event.New(1, read(5)), false)
	checkDepend(t, event.New(math.MinInt), event.New(math.MaxInt), false)
	checkDepend(t, event.New(math.MinInt), event.New(math.MinInt), true)
	checkDepend(t, event.New(0), event.New(1<<32), false)
}

func TestSame(t *testing.T) {
	a := event.New(1, read(3), written(5))
	checkSame(t, a, a, true)
	checkSame(t, a, event.New(1, written(5), read(3), read(5), read(3)), true)
	checkSame(t, a, event.New(2, read(3), written(5)), false)
	checkSame(t, a, event.New(1, read(4), written(5)), false)
	checkSame(t, a, event.New(1, read(3), written(6)), false)
	checkSame(t, a, event.New(1, written(3), written(5)), false)
	checkSame(t, a, event.New(1, read(3), read(5)), false)
	checkSame(t, a, event.New(1, written(3), read(5)), false)
	checkSame(t, a, event.New(1, read(3)), false)
	checkSame(t, a, event.New(1, written(5)), false)
	checkSame(t, a, event.New(1, read(3), written(5), read(7)), false)
	checkSame(t, a, event.New(1), false)
	checkSame(t, event.New(-1, read(-1)), event.New(1, read(-1)), false)
	checkSame(t, event.New(1, read(-1)), event.New(1, read(1)), false)
	checkSame(t, event.New(0), event.New(1<<32), false)
	checkSame(t, event.New(0, read(0)), event.New(0, read(1<<32)), false)
}

func TestSameOfNoMarks(t *testing.T) {
	none := [][]event.Mark{nil, {}, make([]event.Mark, 0, 2), event.New(3).Marks}
	for _, a := range none {
		for _, b := range none {
			checkSame(t, of(3, a...), of(3, b...), true)
			checkSame(t, of(3, a...), of(4, b...), false)
		}
		checkSame(t, of(3, a...), of(3, read(0)), false)
	}
}

// TestSameMarkByMark: of lists that New didn't make.
func TestSameMarkByMark(t *testing.T) {
	checkSame(t, of(1, written(5), read(3), read(5)), of(1, written(5), read(3), read(5)), true)
	checkSame(t, of(1, written(5), read(3)), of(1, read(3), written(5)), false)
	checkSame(t, of(1, read(3), read(3)), of(1, read(3)), false)
	checkSame(t, of(1, read(3), written(3)), of(1, written(3)), false)
}

func TestExample(t *testing.T) {
	if event.Clash(event.New(0, read(4)).Marks, event.New(1, read(4)).Marks) {
		t.Error("P8.1: two that read the same cell clash")
	}
}

// lists: in any order, with objects several times, and spare room behind them.
func lists() [][]event.Mark {
	long := marks(written(4), read(2), read(4), read(-1), written(-1), read(2), written(9), read(0))
	return [][]event.Mark{nil, {}, long[:1], long[:2], long[1:4], long[:5], long, marks(read(1), written(2), read(3))[:2]}
}

// TestWhatIsHandedInIsNotChanged: spare room included.
func TestWhatIsHandedInIsNotChanged(t *testing.T) {
	for i, a := range lists() {
		for k, b := range lists() {
			event.New(1, a...)
			event.Clash(a, b)
			event.Depend(of(1, a...), of(2, b...))
			event.Same(of(1, a...), of(1, b...))
			for _, x := range [][2][]event.Mark{{a, lists()[i]}, {b, lists()[k]}} {
				if !slices.Equal(x[0][:cap(x[0])], x[1][:cap(x[1])]) {
					t.Fatalf("R5: what is handed in is now %v, not %v", x[0][:cap(x[0])], x[1][:cap(x[1])])
				}
			}
		}
	}
}

// overlap: do lists share any memory, spare room included?
func overlap(a, b []event.Mark) bool {
	if cap(a) == 0 || cap(b) == 0 {
		return false
	}
	a, b = a[:cap(a)], b[:cap(b)]
	p, q := uintptr(unsafe.Pointer(&a[0])), uintptr(unsafe.Pointer(&b[0]))
	size := unsafe.Sizeof(a[0])
	return p < q+uintptr(len(b))*size && q < p+uintptr(len(a))*size
}

func TestAnswersAreNewMemory(t *testing.T) {
	for _, x := range append(lists(), marks(read(1)), marks(read(1), read(2))) {
		l := slices.Clone(x)
		a, b := event.New(1, l...), event.New(1, l...)
		if overlap(a.Marks, l) || overlap(a.Marks, b.Marks) {
			t.Errorf("R5: New of %v shares memory", x)
		}
		for i := range l {
			l[i] = written(77)
		}
		if !same(a, b) || slices.Contains(a.Marks, written(77)) {
			t.Errorf("R5: New of %v keeps what it was handed", x)
		}
	}
}

func TestAlikeEachTime(t *testing.T) {
	for _, a := range lists() {
		for _, b := range lists() {
			e, clash := event.New(2, a...), event.Clash(a, b)
			depend, alike := event.Depend(of(1, a...), of(2, b...)), event.Same(of(1, a...), of(1, b...))
			event.New(3, b...)
			event.Clash(b, a)
			if !same(e, event.New(2, a...)) || clash != event.Clash(a, b) || depend != event.Depend(of(1, a...), of(2, b...)) || alike != event.Same(of(1, a...), of(1, b...)) {
				t.Errorf("R6: %v and %v: other answers the second time", a, b)
			}
		}
	}
}
