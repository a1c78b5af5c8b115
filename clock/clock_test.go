package clock_test

import (
	"fmt"
	"math"
	"slices"
	"strings"
	"testing"

	"braidwork/clock"
	"braidwork/event"
)

// events of a text: "0 w9 r3; 1" is one of thread 0 that writes the object 9 and reads 3, and one of thread 1 without a mark.
func events(text string) []event.Event {
	var out []event.Event
	for part := range strings.SplitSeq(text, ";") {
		words := strings.Fields(part)
		out = append(out, event.New(number(words[0]), marks(words[1:])...))
	}
	return out
}

func marks(words []string) []event.Mark {
	var out []event.Mark
	for _, w := range words {
		out = append(out, event.Mark{Object: number(w[1:]), Write: w[0] == 'w'})
	}
	return out
}

func number(text string) int {
	var out int
	if n, err := fmt.Sscan(text, &out); n != 1 || err != nil {
		panic(text)
	}
	return out
}

// table: of each event, the places of those that happen ahead of it, rising.
type table [][]int

// ahead: is one of them ahead of the other one? No, of places that there aren't.
func (want table) ahead(i, j int) bool {
	return 0 <= j && j < len(want) && slices.Contains(want[j], i)
}

// clocks: the table's counts.
func (want table) clocks(l []event.Event, threads int) [][]int {
	out := make([][]int, len(l))
	for j := range l {
		out[j] = make([]int, max(threads, 0))
		for _, i := range append(slices.Clone(want[j]), j) {
			if t := l[i].Thread; 0 <= t && t < threads {
				out[j][t]++
			}
		}
	}
	return out
}

// places: all that there are, and some that there aren't.
func places(many int) []int {
	out := []int{math.MinInt, math.MinInt + 1, -1 << 32, -65, -64, -63, -2, -1}
	for i := range many + 66 {
		out = append(out, i)
	}
	return append(out, many+128, 1<<32, 1<<32+1, math.MaxInt-1, math.MaxInt)
}

// counts of threads: as many as there are, more, fewer, none, and below 0.
func counts(l []event.Event) []int {
	out := []int{math.MinInt, -1, 0, 1, 2}
	for _, e := range l {
		if 0 <= e.Thread && e.Thread < 1000 {
			out = append(out, e.Thread, e.Thread+1, e.Thread+2, e.Thread+9)
		}
	}
	slices.Sort(out)
	return slices.Compact(out)
}

// check: of each pair of places what Before tells, and all counts.
func check(t *testing.T, l []event.Event, want table) {
	t.Helper()
	checkBefore(t, l, want)
	for _, threads := range counts(l) {
		checkClocks(t, l, threads, want.clocks(l, threads)...)
	}
}

func checkBefore(t *testing.T, l []event.Event, want table) {
	t.Helper()
	o := clock.New(l)
	for _, i := range places(len(l)) {
		for _, j := range places(len(l)) {
			if o.Before(i, j) != want.ahead(i, j) {
				t.Errorf("P11.1: Before(%d, %d) is %v in %v", i, j, o.Before(i, j), l)
				return
			}
		}
	}
}

func checkClocks(t *testing.T, l []event.Event, threads int, want ...[]int) {
	t.Helper()
	if got := clock.Clocks(l, threads); !slices.EqualFunc(got, want, slices.Equal) {
		t.Errorf("P11.1: Clocks of %d threads is %v, not %v, of %v", threads, got, want, l)
	}
}

func TestExamples(t *testing.T) {
	check(t, events("0; 0"), table{{}, {0}})
	l := events("0 w9; 1; 1 w9; 2")
	check(t, l, table{{}, {}, {0, 1}, {}})
	checkClocks(t, l, 2, []int{1, 0}, []int{0, 1}, []int{1, 2}, []int{0, 0})
	checkClocks(t, l, 3, []int{1, 0, 0}, []int{0, 1, 0}, []int{1, 2, 0}, []int{0, 0, 1})
}

func TestNoEvents(t *testing.T) {
	for _, l := range [][]event.Event{nil, {}, events("0 w1; 0 w1; 1 w1")[:0]} {
		check(t, l, table{})
		for _, threads := range []int{3, 1 << 40, math.MaxInt} {
			checkClocks(t, l, threads)
		}
	}
}

func TestOneEvent(t *testing.T) {
	for _, text := range []string{"0", "0 w1", "3 r1 r2 w3"} {
		check(t, events(text), table{{}})
	}
	checkClocks(t, events("0 w1"), 1, []int{1})
	checkClocks(t, events("0 w1"), 2, []int{1, 0})
	checkClocks(t, events("1 w1"), 2, []int{0, 1})
	checkClocks(t, events("1 w1"), 1, []int{0})
	checkClocks(t, events("1 w1"), 0, []int{})
	checkClocks(t, events("1 w1"), -1, []int{})
}

// TestOneThread: whatever its events touch, each happens ahead of all that are later.
func TestOneThread(t *testing.T) {
	want := table{{}, {0}, {0, 1}, {0, 1, 2}, {0, 1, 2, 3}}
	for _, text := range []string{"0; 0; 0; 0; 0", "2 w1; 2 w2; 2 w3; 2 w4; 2 w5", "1; 1 r1; 1; 1 r1 w2; 1"} {
		check(t, events(text), want)
	}
	checkClocks(t, events("1; 1; 1 w4"), 3, []int{0, 1, 0}, []int{0, 2, 0}, []int{0, 3, 0})
}

func TestNothingInCommon(t *testing.T) {
	none := table{{}, {}, {}, {}}
	for _, text := range []string{"0; 1; 2; 3", "0 w0; 1 w1; 2 w2; 3 w3", "3 r7; 2 r7; 1 r7; 0 r7", "1 r1 w2; 0 r1; 2 r1 w3; 3 r4"} {
		check(t, events(text), none)
	}
	checkClocks(t, events("1; 0; 2"), 3, []int{0, 1, 0}, []int{1, 0, 0}, []int{0, 0, 1})
}

func TestReadAndWritten(t *testing.T) {
	check(t, events("0 r5; 1 r5"), table{{}, {}})
	check(t, events("0 r5; 1 w5"), table{{}, {0}})
	check(t, events("0 w5; 1 r5"), table{{}, {0}})
	check(t, events("0 w5; 1 w5"), table{{}, {0}})
	check(t, events("0 w5; 1 w6"), table{{}, {}})
	// One that writes stands between those that read, behind them, and ahead of them.
	check(t, events("0 r5; 1 w5; 2 r5"), table{{}, {0}, {0, 1}})
	check(t, events("0 r5; 1 r5; 2 w5"), table{{}, {}, {0, 1}})
	check(t, events("0 w5; 1 r5; 2 r5"), table{{}, {0}, {0}})
	check(t, events("0 r5; 1 r6; 2 w5 w6; 3 r5; 4 r6"), table{{}, {}, {0, 1}, {0, 1, 2}, {0, 1, 2}})
	// What is written last isn't all that is ahead of one that writes again, and those that only read meet behind it alone.
	check(t, events("0 w5; 1 r5; 2 r5; 3 w5; 4 r5"), table{{}, {0}, {0}, {0, 1, 2}, {0, 1, 2, 3}})
}

// TestByOthers: what an event happens ahead of, though the two have nothing in common.
func TestByOthers(t *testing.T) {
	check(t, events("0 w1; 1 w1 w2; 2 w2"), table{{}, {0}, {0, 1}})
	check(t, events("0 w1; 1 w1; 1 w2; 2 w2"), table{{}, {0}, {0, 1}, {0, 1, 2}})
	check(t, events("0 w1; 1 w2; 1 w1; 2 w2"), table{{}, {}, {0, 1}, {1}})
	check(t, events("0 w1; 0 w2; 1 w1; 1 w2"), table{{}, {0}, {0}, {0, 1, 2}})
	check(t, events("0 w1; 1 w1; 2; 3 w3; 1 w3; 2"), table{{}, {0}, {}, {}, {0, 1, 3}, {2}})
	// An event that is between the two, but depends on the one alone, isn't a way.
	check(t, events("0 w1; 1 w1; 2 w2"), table{{}, {0}, {}})
	check(t, events("0 w1; 1 w2; 2 w2"), table{{}, {}, {1}})
}

// TestByTwoWays: it is counted once.
func TestByTwoWays(t *testing.T) {
	l := events("0 w1 w2; 1 w1 w3; 2 w2 w4; 3 w3 w4")
	check(t, l, table{{}, {0}, {0}, {0, 1, 2}})
	checkClocks(t, l, 4, []int{1, 0, 0, 0}, []int{1, 1, 0, 0}, []int{1, 0, 1, 0}, []int{1, 1, 1, 1})
	l = events("0 w1; 1 w1; 2 w1; 0 w1")
	check(t, l, table{{}, {0}, {0, 1}, {0, 1, 2}})
	checkClocks(t, l, 3, []int{1, 0, 0}, []int{1, 1, 0}, []int{1, 1, 1}, []int{2, 1, 1})
}

// TestThreadsThatAreNotTold: events of theirs are ways all the same.
func TestThreadsThatAreNotTold(t *testing.T) {
	l := events("0 w1; 2 w1 w2; 1 w2; 2 w3; 0 w3")
	checkClocks(t, l, 2, []int{1, 0}, []int{1, 0}, []int{1, 1}, []int{1, 0}, []int{2, 0})
	checkClocks(t, l, 1, []int{1}, []int{1}, []int{1}, []int{1}, []int{2})
	for _, threads := range []int{0, -1, -2, math.MinInt} {
		checkClocks(t, l, threads, nil, nil, nil, nil, nil)
	}
	checkClocks(t, l, 5, []int{1, 0, 0, 0, 0}, []int{1, 0, 1, 0, 0}, []int{1, 1, 1, 0, 0}, []int{1, 0, 2, 0, 0}, []int{2, 0, 2, 0, 0})
}

// chain: each event is of a thread of its own, and only neighbours depend on one another.
func chain(many int) ([]event.Event, table) {
	var l []event.Event
	var want table
	var all []int
	for i := range many {
		l = append(l, events(fmt.Sprintf("%d w%d w%d", i, i, i+1))...)
		want = append(want, slices.Clone(all))
		all = append(all, i)
	}
	return l, want
}

// TestChain: as long as one, two and three words of bits, and a bit less and more.
func TestChain(t *testing.T) {
	for _, many := range []int{2, 3, 20, 63, 64, 65, 66, 127, 128, 129, 192, 193} {
		l, want := chain(many)
		for j := range l {
			for i := range j {
				if event.Depend(l[i], l[j]) != (i == j-1) {
					t.Fatalf("%d and %d of the chain", i, j)
				}
			}
		}
		checkBefore(t, l, want)
		for _, threads := range []int{many, many - 1, many + 1, 1, 0} {
			checkClocks(t, l, threads, want.clocks(l, threads)...)
		}
	}
}

// TestFarFromOneAnother: events with many between them that have nothing to do with them.
func TestFarFromOneAnother(t *testing.T) {
	for _, between := range []int{61, 62, 63, 64, 65, 126, 127, 128} {
		l, want := events("0 w1"), table{{}}
		for i := range between {
			l = append(l, event.New(i+3))
			want = append(want, nil)
		}
		l = append(l, events("1 r1 w2; 2 r1; 2 w2")...)
		want = append(want, []int{0}, []int{0}, []int{0, between + 1, between + 2})
		checkBefore(t, l, want)
		checkClocks(t, l, between+3, want.clocks(l, between+3)...)
	}
}

// TestMarksInAnyOrder: of events that event.New didn't make.
func TestMarksInAnyOrder(t *testing.T) {
	l := []event.Event{
		{Thread: 0, Marks: marks([]string{"r9", "w4", "r9"})},
		{Thread: 1, Marks: marks([]string{"r9", "r4", "r1"})},
		{Thread: 2, Marks: marks([]string{"r9", "w9", "r8"})},
		{Thread: 3, Marks: marks([]string{"r5", "r9"})},
		{Thread: 4, Marks: marks([]string{"r1", "r8"})},
	}
	check(t, l, table{{}, {0}, {0, 1}, {0, 1, 2}, {}})
}

func TestStrangeObjects(t *testing.T) {
	for _, object := range []int{math.MinInt, -1, 0, 1 << 32, math.MaxInt} {
		l := []event.Event{event.New(0, event.Mark{Object: object}), event.New(1, event.Mark{Object: object, Write: true}), event.New(2, event.Mark{Object: 7, Write: true})}
		check(t, l, table{{}, {0}, {}})
	}
}

// TestStrangeThreads: far from one another, and so far that their numbers are no place of a list.
func TestStrangeThreads(t *testing.T) {
	check(t, events("700 w1; 3; 700; 3 r1; 0"), table{{}, {}, {0}, {0, 1}, {}})
	for _, thread := range []int{1 << 31, 1 << 32, 1<<32 + 1, math.MaxInt - 1, math.MaxInt} {
		l := []event.Event{event.New(thread), event.New(1), event.New(thread), event.New(0)}
		check(t, l, table{{}, {}, {0}, {}})
		checkClocks(t, l, 2, []int{0, 0}, []int{0, 1}, []int{0, 0}, []int{1, 0})
	}
}

// TestThreadsBelow0: New isn't promised anything of them, but the chapter's words hold of them, too; no clock tells them.
func TestThreadsBelow0(t *testing.T) {
	for _, thread := range []int{-1, -64, math.MinInt} {
		l := []event.Event{event.New(thread), event.New(1), event.New(thread), event.New(0)}
		check(t, l, table{{}, {}, {0}, {}})
		checkClocks(t, l, 2, []int{0, 0}, []int{0, 1}, []int{0, 0}, []int{1, 0})
	}
}

func TestNoOrder(t *testing.T) {
	var o clock.Order
	for _, i := range places(1) {
		for _, j := range places(1) {
			if o.Before(i, j) {
				t.Errorf("P11.1: Before(%d, %d) without events", i, j)
			}
		}
	}
}

// TestMoreThreadsThanMemoryHolds: there is no room for an answer, but the call ends.
func TestMoreThreadsThanMemoryHolds(t *testing.T) {
	for _, l := range [][]event.Event{events("0 w1"), events("0 w1; 1 w1; 2")} {
		for _, threads := range []int{1 << 32, 1 << 40, 1 << 60, 1 << 61, 1 << 62, math.MaxInt / 3, math.MaxInt - 1, math.MaxInt} {
			if c := clock.Clocks(l, threads); len(c) != 0 {
				t.Errorf("P1: Clocks of %d threads has %d rows", threads, len(c))
			}
		}
	}
}

// TestManyThreads: as many as fit.
func TestManyThreads(t *testing.T) {
	const many = 1 << 20
	l := []event.Event{event.New(many - 1), event.New(0), event.New(many - 1)}
	c := clock.Clocks(l, many)
	if len(c) != 3 || len(c[2]) != many || c[2][many-1] != 2 || c[2][0] != 0 || c[1][0] != 1 || c[0][many-1] != 1 {
		t.Error("P11.1: Clocks of many threads")
	}
}

// TestManyEvents: calls end soon enough, of long runs of few threads, and of long chains of many.
func TestManyEvents(t *testing.T) {
	const many = 4000
	var l []event.Event
	for i := range many {
		l = append(l, event.New(i%5, event.Mark{Object: i % 7, Write: i%3 == 0}))
	}
	o, c := clock.New(l), clock.Clocks(l, 5)
	if !o.Before(0, many-1) || o.Before(1, 2) || !o.Before(many-6, many-1) || len(c) != many || c[many-1][(many-1)%5] != many/5 {
		t.Error("P11.1: of a long run")
	}
	l, _ = chain(many)
	o = clock.New(l)
	for i := range many - 1 {
		if !o.Before(i, many-1) || !o.Before(0, i+1) || o.Before(i+1, i) {
			t.Fatalf("P11.1: %d of a long chain", i)
		}
	}
}
