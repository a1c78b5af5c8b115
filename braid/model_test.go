package braid_test

import (
	"fmt"
	"slices"
	"testing"

	"braidwork/braid"
	"braidwork/event"
)

// text tells runs apart: the same one for the same events in the same order.
func text(l []event.Event) string {
	out := ""
	for _, e := range l {
		out += fmt.Sprintln(e.Thread, e.Marks)
	}
	return out
}

// exchanged: the chapter's one exchange, unless the two depend on one another.
func exchanged(l []event.Event, i int) ([]event.Event, bool) {
	if event.Depend(l[i], l[i+1]) {
		return nil, false
	}
	out := slices.Clone(l)
	out[i], out[i+1] = l[i+1], l[i]
	return out, true
}

// class: a run, and all that come of it by exchanges, till nothing new comes.
func class(l []event.Event) map[string][]event.Event {
	out := map[string][]event.Event{text(l): l}
	for left := [][]event.Event{l}; len(left) > 0; left = left[1:] {
		for i := range len(l) - 1 {
			next, ok := exchanged(left[0], i)
			if ok && out[text(next)] == nil {
				out[text(next)] = next
				left = append(left, next)
			}
		}
	}
	return out
}

// plainNormal: a second reading of the chapter, word by word.
func plainNormal(l []event.Event) []int {
	var left, out []int
	for i := range l {
		left = append(left, i)
	}
	for len(left) > 0 {
		best := -1
		for k, i := range left {
			dependsOn := func(ahead int) bool { return event.Depend(l[ahead], l[i]) }
			if !slices.ContainsFunc(left[:k], dependsOn) && (best < 0 || l[i].Thread < l[left[best]].Thread) {
				best = k
			}
		}
		out = append(out, left[best])
		left = slices.Delete(left, best, best+1)
	}
	return out
}

// threads of the events, one by one.
func threads(l []event.Event) []int {
	var out []int
	for _, e := range l {
		out = append(out, e.Thread)
	}
	return out
}

// checkClass: Form is of the class, and of all of it the one whose threads are lowest, from the first one on; and Initials are all threads that come first in it.
func checkClass(t *testing.T, l []event.Event, all map[string][]event.Event) {
	t.Helper()
	form := braid.Form(l)
	if all[text(form)] == nil && len(l) > 0 {
		t.Errorf("P12.2: Form of %v is %v", l, form)
	}
	var first uint64
	for _, other := range all {
		if slices.Compare(threads(form), threads(other)) > 0 {
			t.Errorf("P12.1: Form of %v is %v, but %v is lower", l, form, other)
			return
		}
		if len(other) > 0 {
			first |= 1 << other[0].Thread
		}
	}
	if got := braid.Initials(l); got != first {
		t.Errorf("P12.1: Initials is %b, not %b, of %v", got, first, l)
	}
}

// checkSwaps: at all places, and some beside.
func checkSwaps(t *testing.T, l []event.Event) {
	t.Helper()
	for i := -2; i < len(l)+2; i++ {
		var want []event.Event
		ok := false
		if 0 <= i && i < len(l)-1 {
			want, ok = exchanged(l, i)
		}
		if got, gotOk := braid.Swap(l, i); gotOk != ok || !equal(got, want) {
			t.Errorf("P12.1: Swap at %d is %v, %v, of %v", i, got, gotOk, l)
			return
		}
	}
}

// checkAll: each of them by itself, and each two of them, against the closure.
func checkAll(t *testing.T, runs [][]event.Event) {
	t.Helper()
	for _, a := range runs {
		all := class(a)
		checkClass(t, a, all)
		checkNormal(t, a, plainNormal(a)...)
		checkSwaps(t, a)
		for _, b := range runs {
			_, want := all[text(b)]
			if braid.Same(a, b) != want {
				t.Errorf("P12.1: Same isn't %v of %v and %v", want, a, b)
			}
			if equal(braid.Form(a), braid.Form(b)) != want {
				t.Errorf("P12.2: Forms are the same isn't %v of %v and %v", want, a, b)
			}
		}
		if t.Failed() {
			return
		}
	}
}

// orders: all orders of events, each once.
func orders(l []event.Event) [][]event.Event {
	if len(l) == 0 {
		return [][]event.Event{nil}
	}
	var out [][]event.Event
	seen := map[string]int{}
	for i := range l {
		for _, rest := range orders(slices.Concat(l[:i], l[i+1:])) {
			next := append([]event.Event{l[i]}, rest...)
			if seen[text(next)] == 0 {
				seen[text(next)] = 1
				out = append(out, next)
			}
		}
	}
	return out
}

// TestAllShortRuns: all runs of up to three events, with unlike events, and of unlike lengths.
func TestAllShortRuns(t *testing.T) {
	runs := [][]event.Event{nil}
	from := events("0; 0 w1; 1 r1; 1 r1 w2; 2; 2 r1 r2")
	for start, n := 0, 1; n <= 3; n++ {
		end := len(runs)
		for _, l := range runs[start:end] {
			for _, e := range from {
				runs = append(runs, append(slices.Clone(l), e))
			}
		}
		start = end
	}
	checkAll(t, runs)
}

func TestAllOrders(t *testing.T) {
	for _, text := range []string{
		"0; 1; 2; 3; 4",
		"0 w1; 1 w1; 2 w1; 3 w1; 4 w1",
		"0 w1; 0 w1; 1 w1; 1 w1; 2",
		"0; 0; 1; 1; 1",
		"0 w1; 1 w1 w2; 2 w2 w3; 3 w3 w4; 4 w4",
		"0 r1; 1 r1; 2 w1; 3 r1; 4 w1",
		"0 w1 r2; 1 r1 w2; 2 r1 r2; 3; 0 w3",
		"2 w1; 1 w2; 0 w1; 2 w2; 1 w1",
		"0 w1; 1; 0 w2; 1; 0 w1",
	} {
		checkAll(t, orders(events(text)))
	}
}

// source of numbers, always the same ones.
type source uint64

func (s *source) below(n int) int {
	*s = *s*6364136223846793005 + 1442695040888963407
	return int(uint64(*s)>>33) % n
}

// event: some have no mark, some one, some several; the more objects there are, the fewer depend on one another.
func (s *source) event(threads, objects int) event.Event {
	var l []event.Mark
	for range max(s.below(6)-2, 0) {
		l = append(l, event.Mark{Object: s.below(objects), Write: s.below(3) == 0})
	}
	return event.New(s.below(threads), l...)
}

func (s *source) run(many, threads, objects int) []event.Event {
	var l []event.Event
	for range many {
		l = append(l, s.event(threads, objects))
	}
	return l
}

func TestAllOrdersOfMadeEvents(t *testing.T) {
	s := source(12)
	for range 40 {
		checkAll(t, orders(s.run(s.below(6), 1+s.below(5), 1+s.below(4))))
		if t.Failed() {
			return
		}
	}
}

// ordered: a second reading for runs whose classes are too great to go through: each thread's events are the same, one by one, and each two that depend on one another stand in the same order.
func ordered(a, b []event.Event) bool {
	places := placesByThread(b)
	var where []int
	for _, e := range a {
		l := places[e.Thread]
		if len(l) == 0 || !event.Same(e, b[l[0]]) {
			return false
		}
		where = append(where, l[0])
		places[e.Thread] = l[1:]
	}
	for j := range a {
		for i := range j {
			if event.Depend(a[i], a[j]) && where[i] > where[j] {
				return false
			}
		}
	}
	return len(a) == len(b)
}

func placesByThread(l []event.Event) map[int][]int {
	out := map[int][]int{}
	for i, e := range l {
		out[e.Thread] = append(out[e.Thread], i)
	}
	return out
}

// mixed: what comes of a run by many exchanges.
func (s *source) mixed(l []event.Event) []event.Event {
	for range 200 {
		if next, ok := exchanged(l, s.below(len(l)-1)); ok {
			l = next
		}
	}
	return l
}

// spoilt: with two exchanged, whether or not they depend on one another, or one another one, or one less.
func (s *source) spoilt(l []event.Event) []event.Event {
	l = slices.Clone(l)
	i := s.below(len(l) - 1)
	switch s.below(6) {
	case 0:
		return slices.Delete(l, i, i+1)
	case 1:
		l[i] = s.event(5, 6)
	default:
		l[i], l[i+1] = l[i+1], l[i]
	}
	return s.mixed(l)
}

func TestMadeRuns(t *testing.T) {
	s := source(13)
	same := 0
	for range 1500 {
		a := s.run(15+s.below(11), 1+s.below(6), 1+s.below(12))
		checkNormal(t, a, plainNormal(a)...)
		checkSwaps(t, a)
		b := s.mixed(a)
		checkSame(t, a, b, true)
		if braid.Initials(a) != braid.Initials(b) {
			t.Errorf("P12.1: Initials aren't the same of %v and %v", a, b)
		}
		c := s.spoilt(b)
		if ordered(a, c) {
			same++
		}
		checkSame(t, a, c, ordered(a, c))
		checkSame(t, a, braid.Form(a), true)
		if t.Failed() {
			return
		}
	}
	if same < 100 || same > 1400 {
		t.Errorf("only one kind was made: %d", same)
	}
}

// TestSwapAgainAndAgain: by Swap alone, each next run is the same but for swaps, and the same exchange leads back.
func TestSwapAgainAndAgain(t *testing.T) {
	s := source(14)
	for range 60 {
		first := s.run(20, 5, 8)
		l := first
		for range 60 {
			i := s.below(len(l) - 1)
			next, ok := braid.Swap(l, i)
			if !ok {
				continue
			}
			if back, ok := braid.Swap(next, i); !ok || !equal(back, l) {
				t.Fatalf("P12.1: Swap at %d of %v doesn't lead back", i, next)
			}
			l = next
		}
		checkSame(t, first, l, true)
	}
}
