package clock_test

import (
	"slices"
	"testing"

	"braidwork/clock"
	"braidwork/event"
)

// closed: a second reading of the chapter, word by word: of each event those that it depends on, and then, as long as something is added, those that happen ahead of one that happens ahead of it.
func closed(l []event.Event) table {
	is := make([][]bool, len(l))
	for j := range l {
		is[j] = make([]bool, len(l))
		for i := range j {
			is[j][i] = event.Depend(l[j], l[i])
		}
	}
	for added := true; added; {
		added = addWays(is)
	}
	want := make(table, len(l))
	for j := range l {
		for i := range l {
			if is[j][i] {
				want[j] = append(want[j], i)
			}
		}
	}
	return want
}

// addWays: is one of them ahead by another one, though it wasn't noted?
func addWays(is [][]bool) bool {
	added := false
	for i := range is {
		for by := range is {
			for j := range is {
				if is[by][i] && is[j][by] && !is[j][i] {
					is[j][i], added = true, true
				}
			}
		}
	}
	return added
}

// checkRead: against the second reading; and the counts against Before.
func checkRead(t *testing.T, l []event.Event) {
	t.Helper()
	check(t, l, closed(l))
	o := clock.New(l)
	for _, threads := range counts(l) {
		c := clock.Clocks(l, threads)
		for j := range l {
			for thread := range max(threads, 0) {
				if c[j][thread] != counted(o, l, j, thread) {
					t.Errorf("P11.1: Clocks of %d threads: %v, of %v: %d of thread %d", threads, c, l, j, thread)
					return
				}
			}
		}
	}
}

// counted: as Before tells it.
func counted(o clock.Order, l []event.Event, j, thread int) int {
	n := 0
	for i, e := range l {
		if e.Thread == thread && (i == j || o.Before(i, j)) {
			n++
		}
	}
	return n
}

// TestAllShortRuns: of three threads, that touch two objects in all ways, all runs of up to four events.
func TestAllShortRuns(t *testing.T) {
	var l []event.Event
	checkLonger(t, l, events("0; 0 w1; 0 r1 w2; 1 r1; 1 w1; 1 r1 r2; 2; 2 w2; 2 r1 w2"), 4)
}

func checkLonger(t *testing.T, l, from []event.Event, more int) {
	if t.Failed() {
		return
	}
	checkBefore(t, l, closed(l))
	checkClocks(t, l, 3, closed(l).clocks(l, 3)...)
	if more == 0 {
		return
	}
	for _, e := range from {
		checkLonger(t, append(slices.Clone(l), e), from, more-1)
	}
}

// source of numbers, always the same ones.
type source uint64

func (s *source) below(n int) int {
	*s = *s*6364136223846793005 + 1442695040888963407
	return int(uint64(*s)>>33) % n
}

// event: many have no mark, or one, some several; the more objects there are, the fewer depend on one another.
func (s *source) event(threads, objects int) event.Event {
	e := event.Event{Thread: s.below(threads)}
	for range max(s.below(6)-1, 0) {
		e.Marks = append(e.Marks, event.Mark{Object: s.below(objects), Write: s.below(3) == 0})
	}
	if s.below(4) > 0 {
		return event.New(e.Thread, e.Marks...)
	}
	return e
}

func (s *source) run(most, threads, objects int) []event.Event {
	var l []event.Event
	for range s.below(most + 1) {
		l = append(l, s.event(threads, objects))
	}
	return l
}

func TestMadeRuns(t *testing.T) {
	s := source(11)
	for range 600 {
		checkRead(t, s.run(26, 1+s.below(6), 1+s.below(30)))
		if t.Failed() {
			return
		}
	}
}

// TestLongMadeRuns: of so many events that their bits are several words, and of so many threads and objects that some have nothing to do with one another.
func TestLongMadeRuns(t *testing.T) {
	s := source(12)
	for range 12 {
		l := s.run(220, 40, 160)
		want := closed(l)
		checkBefore(t, l, want)
		checkClocks(t, l, 40, want.clocks(l, 40)...)
		if t.Failed() {
			return
		}
	}
}
