package event_test

import (
	"maps"
	"math"
	"slices"
	"testing"

	"braidwork/event"
)

// expected: a second reading of New, by a map.
func expected(thread int, l []event.Mark) event.Event {
	writes := map[int]bool{}
	for _, m := range l {
		writes[m.Object] = writes[m.Object] || m.Write
	}
	out := event.Event{Thread: thread}
	for _, object := range slices.Sorted(maps.Keys(writes)) {
		out.Marks = append(out.Marks, event.Mark{Object: object, Write: writes[object]})
	}
	return out
}

// clash: a second reading of Clash, each mark held against each.
func clash(a, b []event.Mark) bool {
	for _, x := range a {
		for _, y := range b {
			if x.Object == y.Object && (x.Write || y.Write) {
				return true
			}
		}
	}
	return false
}

func checkAll(t *testing.T, a, b []event.Mark) {
	t.Helper()
	want := clash(a, b)
	checkClash(t, a, b, want)
	x, y := event.New(3, a...), event.New(6, b...)
	checkDepend(t, x, y, want)
	checkDepend(t, x, event.New(3, b...), true)
	checkSame(t, x, y, false)
	checkSame(t, x, event.New(3, b...), same(expected(3, a), expected(3, b)))
	checkSame(t, of(3, a...), of(3, b...), slices.Equal(a, b))
}

// longer: the lists, and each with one more of the marks.
func longer(l [][]event.Mark, from []event.Mark) [][]event.Mark {
	out := slices.Clone(l)
	for _, x := range l {
		for _, m := range from {
			out = append(out, append(slices.Clone(x), m))
		}
	}
	return out
}

// TestAllShortLists: of three objects, read and written, all lists of up to three marks, held against each other.
func TestAllShortLists(t *testing.T) {
	all := marks(read(0), written(0), read(1), written(1), read(-1), written(-1))
	l := [][]event.Mark{nil}
	for range 3 {
		l = longer(l, all)
	}
	for _, a := range l {
		checkNew(t, 2, a, expected(2, a).Marks...)
		for _, b := range l {
			checkAll(t, a, b)
			if t.Failed() {
				t.FailNow()
			}
		}
	}
}

// source of numbers, always the same ones.
type source uint64

func (s *source) below(n int) int {
	*s = *s*6364136223846793005 + 1442695040888963407
	return int(uint64(*s)>>33) % n
}

// object: of so many that some meet, and such as are the least and the greatest there are.
func (s *source) object(many int) int {
	edges := []int{math.MinInt, math.MinInt + 1, -1 << 32, 1 << 31, 1 << 32, math.MaxInt - 1, math.MaxInt}
	if s.below(4) == 0 {
		return edges[s.below(len(edges))]
	}
	return s.below(many) - many/4
}

func (s *source) list(most, many int) []event.Mark {
	var out []event.Mark
	for range s.below(most + 1) {
		out = append(out, event.Mark{Object: s.object(many), Write: s.below(5) == 0})
	}
	return out
}

// TestMadeLists: some as New makes them, and some not.
func TestMadeLists(t *testing.T) {
	s := source(8)
	clashes, calm := 0, 0
	for range 20000 {
		most := 1 + s.below(12)
		many := 4 + s.below(60)
		a, b := s.list(most, many), s.list(most, many)
		checkNew(t, s.below(6), a, expected(0, a).Marks...)
		if s.below(2) == 0 {
			a = expected(0, a).Marks
		}
		if s.below(2) == 0 {
			b = expected(0, b).Marks
		}
		checkAll(t, a, b)
		if t.Failed() {
			t.FailNow()
		}
		if clash(a, b) {
			clashes++
		} else {
			calm++
		}
	}
	if clashes < 2000 || calm < 2000 {
		t.Errorf("%d lists that clash, %d that don't", clashes, calm)
	}
}

// changed: an event that differs from e in one thing: the thread, an object, whether it is written, or how many marks there are.
func (s *source) changed(e event.Event) event.Event {
	out := event.Event{Thread: e.Thread, Marks: slices.Clone(e.Marks)}
	i := s.below(len(out.Marks))
	switch s.below(5) {
	case 0:
		out.Thread++
	case 1:
		out.Marks[i].Object++
	case 2:
		out.Marks[i].Write = !out.Marks[i].Write
	case 3:
		out.Marks = slices.Delete(out.Marks, i, i+1)
	case 4:
		out.Marks = append(out.Marks, read(math.MaxInt))
	}
	return out
}

func TestSameButForOneThing(t *testing.T) {
	s := source(9)
	for range 5000 {
		l := append(s.list(6, 20), read(s.below(20)))
		e := event.New(s.below(6), l...)
		if e.Marks[len(e.Marks)-1].Object == math.MaxInt {
			continue
		}
		slices.Reverse(l)
		checkSame(t, e, event.New(e.Thread, append(l, l...)...), true)
		checkSame(t, e, s.changed(e), false)
	}
}
