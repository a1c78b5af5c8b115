package braid_test

import (
	"fmt"
	"math"
	"slices"
	"strings"
	"testing"

	"braidwork/braid"
	"braidwork/event"
)

// events of a text: "0 w9 r3; 1" is one of thread 0 that writes the object 9 and reads 3, and one of thread 1 without a mark; "" is none.
func events(text string) []event.Event {
	var out []event.Event
	for part := range strings.SplitSeq(text, ";") {
		if words := strings.Fields(part); len(words) > 0 {
			out = append(out, event.New(number(words[0]), marks(words[1:])...))
		}
	}
	return out
}

func marks(words []string) []event.Mark {
	var out []event.Mark
	for _, w := range words {
		out = append(out, event.Mark{Object: number(w[1:]), Write: w[0] == 'w'})
	}
	return out
}

func number(text string) int {
	var out int
	if n, err := fmt.Sscan(text, &out); n != 1 || err != nil {
		panic(text)
	}
	return out
}

// at: the events at places.
func at(l []event.Event, places []int) []event.Event {
	var out []event.Event
	for _, i := range places {
		out = append(out, l[i])
	}
	return out
}

// equal: the same events in the same order.
func equal(a, b []event.Event) bool {
	return slices.EqualFunc(a, b, event.Same)
}

// checkNormal: of Normal and Form, and that they let a run stay that is in that order.
func checkNormal(t *testing.T, l []event.Event, want ...int) {
	t.Helper()
	if got := braid.Normal(l); !slices.Equal(got, want) {
		t.Errorf("P12.1: Normal is %v, not %v, of %v", got, want, l)
	}
	form := at(l, want)
	if got := braid.Form(l); !equal(got, form) {
		t.Errorf("P12.1: Form is %v, not %v, of %v", got, form, l)
	}
	for k, i := range braid.Normal(form) {
		if k != i {
			t.Errorf("P12.1: Normal of %v is %v", form, braid.Normal(form))
			return
		}
	}
}

func checkText(t *testing.T, text string, want ...int) {
	t.Helper()
	checkNormal(t, events(text), want...)
}

// checkSame: both ways round, and that Forms tell it, too.
func checkSame(t *testing.T, a, b []event.Event, want bool) {
	t.Helper()
	if braid.Same(a, b) != want || braid.Same(b, a) != want {
		t.Errorf("P12.1: Same isn't %v of %v and %v", want, a, b)
	}
	if equal(braid.Form(a), braid.Form(b)) != want {
		t.Errorf("P12.2: Forms are the same isn't %v of %v and %v", want, a, b)
	}
	if !braid.Same(a, a) || !braid.Same(b, b) {
		t.Errorf("P12.1: not the same as itself: %v or %v", a, b)
	}
}

func checkTexts(t *testing.T, a, b string, want bool) {
	t.Helper()
	checkSame(t, events(a), events(b), want)
}

// checkSwap: a want of "" is that there is no such exchange.
func checkSwap(t *testing.T, text string, i int, want string) {
	t.Helper()
	got, ok := braid.Swap(events(text), i)
	if ok != (want != "") || !equal(got, events(want)) {
		t.Errorf("P12.1: Swap at %d is %v, %v, not %q, of %q", i, got, ok, want, text)
	}
}

func checkInitials(t *testing.T, text string, threads ...int) {
	t.Helper()
	var want uint64
	for _, thread := range threads {
		want |= 1 << thread
	}
	if got := braid.Initials(events(text)); got != want {
		t.Errorf("P12.1: Initials is %b, not %b, of %q", got, want, text)
	}
}

func TestExamples(t *testing.T) {
	checkInitials(t, "0", 0)
	checkInitials(t, "5 w3", 5)
	checkText(t, "2 w9; 1; 0 w9", 1, 0, 2)
	checkSwap(t, "2 w9; 1; 0 w9", 0, "1; 2 w9; 0 w9")
	checkSwap(t, "2 w9; 0 w9", 0, "")
	checkInitials(t, "2 w9; 1; 0 w9", 1, 2)
}

func TestNoEvents(t *testing.T) {
	for _, l := range [][]event.Event{nil, {}, events("0 w1; 0 w1; 1 w1")[:0]} {
		checkNormal(t, l)
		for _, i := range []int{math.MinInt, -2, -1, 0, 1, 2, math.MaxInt} {
			if got, ok := braid.Swap(l, i); ok || len(got) != 0 {
				t.Errorf("P12.1: Swap at %d of none is %v, %v", i, got, ok)
			}
		}
		if braid.Initials(l) != 0 {
			t.Error("P12.1: Initials of none")
		}
		checkSame(t, l, nil, true)
		checkSame(t, l, []event.Event{}, true)
		checkSame(t, l, events("0"), false)
	}
}

func TestOneEvent(t *testing.T) {
	for _, text := range []string{"0", "0 w1", "3 r1 r2 w3", "63", "64 w1"} {
		checkText(t, text, 0)
		checkTexts(t, text, text, true)
		for _, i := range []int{math.MinInt, -1, 0, 1, math.MaxInt} {
			checkSwap(t, text, i, "")
		}
	}
	checkTexts(t, "0 w1", "1 w1", false)
	checkTexts(t, "0 w1", "0 r1", false)
	checkTexts(t, "0 w1", "0 w2", false)
	checkTexts(t, "0 w1", "0", false)
	checkTexts(t, "0 w1", "0 w1 r2", false)
}

// TestOneThread: its events stay as they are, whatever they touch.
func TestOneThread(t *testing.T) {
	for _, text := range []string{"0; 0; 0", "2 w1; 2 w2; 2 w3", "1 r3; 1; 1 w2 r3", "7 w1; 7 w1; 7 w1"} {
		checkText(t, text, 0, 1, 2)
		for i := -1; i < 4; i++ {
			checkSwap(t, text, i, "")
		}
	}
	checkInitials(t, "2 w1; 2; 2 w3", 2)
	checkTexts(t, "2 w1; 2 w2; 2 w3", "2 w2; 2 w1; 2 w3", false)
	checkTexts(t, "2 w1; 2 w2; 2 w3", "2 w1; 2 w3; 2 w2", false)
	checkTexts(t, "2; 2", "2; 2; 2", false)
}

func TestNothingInCommon(t *testing.T) {
	for _, text := range []string{"3; 1; 2; 0", "3 w3; 1 w1; 2 w2; 0 w0", "3 r7; 1 r7; 2 r7; 0 r7", "3 r1 w2; 1 r1; 2 r1 w3; 0 r4"} {
		checkText(t, text, 3, 1, 2, 0)
		checkInitials(t, text, 0, 1, 2, 3)
	}
	checkText(t, "1; 0; 1; 0", 1, 3, 0, 2)
	checkText(t, "9; 5; 9; 2; 5", 3, 1, 4, 0, 2)
	checkTexts(t, "3; 1; 2; 0", "0; 1; 2; 3", true)
	checkTexts(t, "3; 1; 2; 0", "2; 0; 3; 1", true)
	checkTexts(t, "1; 0; 1; 0", "0; 1; 1; 0", true)
	checkTexts(t, "1; 0; 1; 0", "0; 1; 1; 1", false)
	checkSwap(t, "3; 1; 2; 0", 0, "1; 3; 2; 0")
	checkSwap(t, "3; 1; 2; 0", 1, "3; 2; 1; 0")
	checkSwap(t, "3; 1; 2; 0", 2, "3; 1; 0; 2")
}

func TestReadAndWritten(t *testing.T) {
	checkText(t, "1 r5; 0 r5", 1, 0)
	checkText(t, "1 r5; 0 w5", 0, 1)
	checkText(t, "1 w5; 0 r5", 0, 1)
	checkText(t, "1 w5; 0 w5", 0, 1)
	checkText(t, "1 w5; 0 w6", 1, 0)
	checkSwap(t, "1 r5; 0 r5", 0, "0 r5; 1 r5")
	checkSwap(t, "1 r5; 0 w5", 0, "")
	checkSwap(t, "1 w5; 0 r5", 0, "")
	checkSwap(t, "1 w5; 0 w5", 0, "")
	checkSwap(t, "1 w5; 0 w6", 0, "0 w6; 1 w5")
	checkInitials(t, "1 r5; 0 r5", 0, 1)
	checkInitials(t, "1 r5; 0 w5", 1)
	checkInitials(t, "1 w5; 0 r5", 1)
	checkInitials(t, "1 w5; 0 w6", 0, 1)
}

// TestOfThoseThatAreLeft: what an event waits for may be taken early, so that it comes ahead of others that waited for nothing.
func TestOfThoseThatAreLeft(t *testing.T) {
	checkText(t, "1 w1; 2; 0 w1; 1", 0, 2, 3, 1)
	checkText(t, "2 w1; 0 w1; 1", 2, 0, 1)
	checkText(t, "3; 1 w1; 0 w1; 2; 0", 1, 2, 4, 3, 0)
	// Each waits for the one ahead of it alone.
	checkText(t, "2 w2; 1 w1 w2; 0 w1", 0, 1, 2)
	checkText(t, "4; 2 w2; 1 w1 w2; 0 w1", 1, 2, 3, 0)
	// The lowest thread waits for the highest one, which comes no earlier than it must.
	checkText(t, "3 w1; 2; 1; 0 w1", 2, 1, 0, 3)
	// Two ways to wait: all must be taken.
	checkText(t, "1 w1; 3 w2; 0 w1 w2; 2", 0, 3, 1, 2)
	checkText(t, "1 r1; 2 r1; 0 w1; 1 r1", 0, 1, 2, 3)
	checkText(t, "1 r1; 2 r1; 3; 0 w1; 1", 0, 4, 1, 3, 2)
}

func TestOrdersThatSwapsReach(t *testing.T) {
	checkTexts(t, "2 w9; 1; 0 w9", "2 w9; 0 w9; 1", true)
	checkTexts(t, "2 w9; 1; 0 w9", "1; 2 w9; 0 w9", true)
	checkTexts(t, "0 w1; 1 w2; 0 w3; 1 w4", "1 w2; 1 w4; 0 w1; 0 w3", true)
	checkTexts(t, "0 r1; 1 r1; 2 w1", "1 r1; 0 r1; 2 w1", true)
	checkTexts(t, "2 w1; 0 r1; 1 r1", "2 w1; 1 r1; 0 r1", true)
}

func TestOrdersThatSwapsDoNotReach(t *testing.T) {
	checkTexts(t, "2 w9; 1; 0 w9", "1; 0 w9; 2 w9", false)
	checkTexts(t, "0 w1; 1 w1", "1 w1; 0 w1", false)
	checkTexts(t, "0 w1; 1 r1", "1 r1; 0 w1", false)
	checkTexts(t, "0 r1; 1 r1; 2 w1", "0 r1; 2 w1; 1 r1", false)
	checkTexts(t, "0 w1; 1 w1 w2; 2 w2", "2 w2; 0 w1; 1 w1 w2", false)
	// The first and the last one have nothing to do with one another, but neither comes past the one between.
	checkTexts(t, "0 w1; 1 w1 w2; 2 w2", "2 w2; 1 w1 w2; 0 w1", false)
	checkTexts(t, "0 w1; 0 w2; 1 w3", "0 w2; 0 w1; 1 w3", false)
}

func TestUnlikeLengths(t *testing.T) {
	checkTexts(t, "0 w1; 1 w1; 2", "0 w1; 1 w1", false)
	checkTexts(t, "0 w1; 1 w1", "0 w1", false)
	checkTexts(t, "0; 0; 0", "0; 0", false)
	checkTexts(t, "0; 1; 2", "1; 2; 0; 0", false)
	checkTexts(t, "1; 0", "0", false)
}

// TestAlike: events of one thread, with the same marks, are the same one for whoever looks, but others stay between them.
func TestAlike(t *testing.T) {
	checkText(t, "0 w1; 0 w1; 0 w1", 0, 1, 2)
	checkText(t, "1 w1; 0 r2; 1 w1; 0 r2", 1, 3, 0, 2)
	checkTexts(t, "0; 1; 0", "0; 0; 1", true)
	checkTexts(t, "0; 1; 0", "1; 0; 0", true)
	checkTexts(t, "0; 1; 0", "1; 0; 1", false)
	checkTexts(t, "0 w1; 1 w1; 0 w1", "0 w1; 0 w1; 1 w1", false)
	checkTexts(t, "0 w1; 1 w1; 0 w1", "1 w1; 0 w1; 0 w1", false)
	checkTexts(t, "0 w1; 1 w1; 0 w1; 1 w1", "1 w1; 0 w1; 1 w1; 0 w1", false)
	checkTexts(t, "0 r1; 1 r1; 0 r1; 1 r1", "1 r1; 0 r1; 1 r1; 0 r1", true)
	checkSwap(t, "0 w1; 0 w1", 0, "")
	checkSwap(t, "0 w1; 1; 1; 0 w1", 1, "")
	checkInitials(t, "0 w1; 0 w1; 1; 1", 0, 1)
}

func TestSwapPlaces(t *testing.T) {
	text := "0 w1; 1 r1; 2 r1; 3"
	checkSwap(t, text, 0, "")
	checkSwap(t, text, 1, "0 w1; 2 r1; 1 r1; 3")
	checkSwap(t, text, 2, "0 w1; 1 r1; 3; 2 r1")
	for _, i := range []int{math.MinInt, math.MinInt + 1, -1 << 32, -4, -3, -2, -1, 3, 4, 5, 1 << 32, 1<<32 + 1, math.MaxInt - 1, math.MaxInt} {
		checkSwap(t, text, i, "")
	}
}

// TestSwapLooksAtNeighboursAlone: what stands around them doesn't matter.
func TestSwapLooksAtNeighboursAlone(t *testing.T) {
	checkSwap(t, "0 w1; 1 w1; 2; 1 w1", 1, "0 w1; 2; 1 w1; 1 w1")
	checkSwap(t, "0 w1; 1; 2 w2; 0 w1; 2 w2", 1, "0 w1; 2 w2; 1; 0 w1; 2 w2")
	checkSwap(t, "3; 0; 0; 3", 1, "")
	checkSwap(t, "3; 0; 1; 0", 2, "3; 0; 0; 1")
}

func TestInitials(t *testing.T) {
	// The first event of thread 1 depends on one ahead, though a later one doesn't.
	checkInitials(t, "0 w1; 1 w1; 1 w2", 0)
	checkInitials(t, "0 w1; 1 w1; 1", 0)
	checkInitials(t, "0 w1; 1 w2; 1 w1", 0, 1)
	// By others: the first of thread 2 has nothing to do with thread 0's, but waits for thread 1's.
	checkInitials(t, "0 w1; 1 w1 w2; 2 w2", 0)
	checkInitials(t, "0 w1; 1 w1; 2 w2; 3 w2; 4", 0, 2, 4)
	checkInitials(t, "4; 2; 0", 0, 2, 4)
	// Ahead of it all, not only the neighbour.
	checkInitials(t, "0 w1; 2; 3; 1 r1", 0, 2, 3)
}

// TestInitialsThatAreNotTold: they hold others up all the same.
func TestInitialsThatAreNotTold(t *testing.T) {
	checkInitials(t, "62; 63; 64; 65; 127; 128", 62, 63)
	checkInitials(t, "64 w1; 0 w1")
	checkInitials(t, "64 w1; 0 w1; 63 w2; 1 w2", 63)
	checkInitials(t, "1000 r1; 5 r1", 5)
	for _, thread := range []int{math.MinInt, math.MinInt + 1, -1 << 32, -64, -63, -1, 64, 1 << 31, 1 << 32, 1<<32 + 1, math.MaxInt - 1, math.MaxInt} {
		l := []event.Event{event.New(thread, marks([]string{"w1"})...), event.New(0, marks([]string{"w1"})...), event.New(3)}
		if got := braid.Initials(l); got != 1<<3 {
			t.Errorf("P12.1: Initials is %b behind one of thread %d", got, thread)
		}
	}
}

// TestStrangeThreads: lower is lower, however far.
func TestStrangeThreads(t *testing.T) {
	order := []int{math.MinInt, math.MinInt + 1, -1 << 32, -1, 0, 1, 63, 64, 1 << 31, 1 << 32, math.MaxInt - 1, math.MaxInt}
	var l []event.Event
	var want []int
	for i := range order {
		l = append(l, event.New(order[len(order)-1-i]))
		want = append(want, len(order)-1-i)
	}
	checkNormal(t, l, want...)
	back := slices.Clone(l)
	slices.Reverse(back)
	checkSame(t, l, back, true)
	got, ok := braid.Swap(l, 0)
	if !ok || got[0].Thread != math.MaxInt-1 || got[1].Thread != math.MaxInt {
		t.Errorf("P12.1: Swap is %v, %v", got, ok)
	}
	checkText(t, "700 w1; 3; 700; 3 r1; 0", 4, 1, 0, 3, 2)
}

func TestStrangeObjects(t *testing.T) {
	for _, object := range []int{math.MinInt, -1, 0, 1 << 32, math.MaxInt} {
		l := []event.Event{event.New(2, event.Mark{Object: object}), event.New(1, event.Mark{Object: object, Write: true}), event.New(0, event.Mark{Object: 7, Write: true})}
		checkNormal(t, l, 2, 0, 1)
		checkSame(t, l, []event.Event{l[0], l[2], l[1]}, true)
		checkSame(t, l, []event.Event{l[1], l[0], l[2]}, false)
	}
}

// TestMarksInAnyOrder: of events that event.New didn't make; they stay as they are.
func TestMarksInAnyOrder(t *testing.T) {
	l := []event.Event{
		{Thread: 4, Marks: marks([]string{"r9", "w4", "r9"})},
		{Thread: 3, Marks: marks([]string{"r9", "r4", "r1"})},
		{Thread: 2, Marks: marks([]string{"r9", "r8", "r1"})},
		{Thread: 1, Marks: marks([]string{"r1", "w8"})},
		{Thread: 0, Marks: marks([]string{"r9", "r1"})},
	}
	checkNormal(t, l, 4, 2, 3, 0, 1)
	if got := braid.Initials(l); got != 1<<4|1<<2|1 {
		t.Errorf("P12.1: Initials is %b", got)
	}
	for i, want := range []bool{false, true, false, true, false} {
		if got, ok := braid.Swap(l, i); ok != want || want && (!event.Same(got[i], l[i+1]) || !event.Same(got[i+1], l[i])) {
			t.Errorf("P12.1: Swap at %d is %v, %v", i, got, ok)
		}
	}
}

// TestLongRun: it ends.
func TestLongRun(t *testing.T) {
	const many = 2000
	var l []event.Event
	for i := range many {
		l = append(l, event.New(4-i%5, event.Mark{Object: i % 5}))
	}
	var want []int
	for thread := range 5 {
		for i := range many / 5 {
			want = append(want, i*5+4-thread)
		}
	}
	checkNormal(t, l, want...)
	if braid.Initials(l) != 31 {
		t.Error("P12.1: Initials of a long run")
	}
	other := slices.Clone(l)
	other[many-1] = events("0 w0")[0]
	checkSame(t, l, other, false)
}
