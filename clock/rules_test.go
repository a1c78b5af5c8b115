package clock_test

import (
	"fmt"
	"math"
	"slices"
	"testing"
	"unsafe"

	"braidwork/clock"
	"braidwork/event"
)

// roomy: a run whose lists, of events and of marks, have spare room in which something stands.
func roomy(many int) []event.Event {
	l := events("0 w9 r3; 1; 1 w9 r1; 2 r3; 0 w3; 3 w5 w6; 1 w6; 0 w9; 2 w9")
	for i := range l {
		all := append(slices.Clone(l[i].Marks), event.Mark{Object: 9, Write: true}, event.Mark{Object: 5})
		l[i].Marks = all[:len(all)-2]
	}
	return l[:many]
}

// runs: each in memory of its own.
func runs() [][]event.Event {
	return [][]event.Event{nil, {}, roomy(0), roomy(1), roomy(4), roomy(7), roomy(9)}
}

// inFull: all that stands in lists, spare room included.
func inFull(l []event.Event) string {
	out := ""
	for _, e := range l[:cap(l)] {
		out += fmt.Sprintln(e.Thread, len(e.Marks), e.Marks[:cap(e.Marks)])
	}
	return out
}

// wreck: writes over all that stands in lists, spare room included.
func wreck(l []event.Event) {
	l = l[:cap(l)]
	for i := range l {
		all := l[i].Marks[:cap(l[i].Marks)]
		for k := range all {
			all[k] = event.Mark{Object: 77, Write: true}
		}
		l[i] = event.Event{Thread: 77}
	}
}

// told: all that an order tells of its places, and beside them.
func told(o clock.Order, many int) string {
	out := ""
	for i := -2; i < many+3; i++ {
		for j := -2; j < many+3; j++ {
			out += fmt.Sprint(o.Before(i, j))
		}
	}
	return out
}

func TestWhatIsHandedInIsNotChanged(t *testing.T) {
	for k, l := range runs() {
		before := inFull(l)
		for _, threads := range []int{math.MinInt, -1, 0, 2, 4, 9, math.MaxInt} {
			clock.Clocks(l, threads)
		}
		told(clock.New(l), len(l))
		if inFull(l) != before {
			t.Errorf("R5: run %d is changed", k)
		}
	}
}

// TestOrderStaysAsItWasMade: whatever is done with its list, and with other orders.
func TestOrderStaysAsItWasMade(t *testing.T) {
	for k, l := range runs() {
		o := clock.New(l)
		copied := o
		want := told(o, len(l))
		c := clock.Clocks(l, 4)
		counts := fmt.Sprint(c)
		other := clock.New(append(slices.Clone(l), events("4 w9; 0")...))
		wreck(l)
		clock.New(l)
		told(other, len(l)+2)
		if told(o, len(l)) != want || told(copied, len(l)) != want {
			t.Errorf("R5: the order of run %d keeps its list", k)
		}
		if fmt.Sprint(c) != counts {
			t.Errorf("R5: the counts of run %d share memory with it", k)
		}
	}
}

// overlap: do lists share any memory, spare room included?
func overlap(a, b []int) bool {
	if cap(a) == 0 || cap(b) == 0 {
		return false
	}
	a, b = a[:cap(a)], b[:cap(b)]
	p, q := uintptr(unsafe.Pointer(&a[0])), uintptr(unsafe.Pointer(&b[0]))
	size := unsafe.Sizeof(a[0])
	return p < q+uintptr(len(b))*size && q < p+uintptr(len(a))*size
}

// TestCountsAreNewMemory: each list of them by itself.
func TestCountsAreNewMemory(t *testing.T) {
	for k, l := range runs() {
		for _, threads := range []int{1, 4, 6} {
			rows := append(clock.Clocks(l, threads), clock.Clocks(l, threads)...)
			for i := range rows {
				for j := range i {
					if overlap(rows[i], rows[j]) {
						t.Fatalf("R5: run %d, of %d threads: rows %d and %d share memory", k, threads, i, j)
					}
				}
			}
		}
	}
}

// TestCountsWrittenOver: an order, and what is answered later, don't hang on what was answered.
func TestCountsWrittenOver(t *testing.T) {
	for k, l := range runs() {
		o := clock.New(l)
		want, c := told(o, len(l)), clock.Clocks(l, 4)
		counts := fmt.Sprint(c)
		for _, row := range c {
			for i := range row[:cap(row)] {
				row[:cap(row)][i] = 99
			}
		}
		if told(o, len(l)) != want || fmt.Sprint(clock.Clocks(l, 4)) != counts {
			t.Errorf("R5: run %d: what was answered is kept", k)
		}
	}
}

func TestAlikeEachTime(t *testing.T) {
	for k, l := range runs() {
		o := clock.New(l)
		want := told(o, len(l))
		for _, threads := range []int{-1, 0, 2, 4, 9} {
			first := fmt.Sprint(clock.Clocks(l, threads))
			clock.Clocks(events("0 w9; 1 w9; 3"), 3)
			clock.New(events("0 w9; 1 w9; 3"))
			if fmt.Sprint(clock.Clocks(l, threads)) != first {
				t.Errorf("R6: run %d: Clocks of %d threads is another one the second time", k, threads)
			}
		}
		if told(o, len(l)) != want || told(clock.New(l), len(l)) != want {
			t.Errorf("R6: run %d: Before is another one the second time", k)
		}
	}
}

// TestSpareRoomIsNotLookedAt: nor do nil and empty lists of marks differ (R4).
func TestSpareRoomIsNotLookedAt(t *testing.T) {
	for k, l := range runs() {
		var plain []event.Event
		for _, e := range l {
			plain = append(plain, event.New(e.Thread, e.Marks...))
		}
		if told(clock.New(l), len(l)) != told(clock.New(plain), len(l)) || fmt.Sprint(clock.Clocks(l, 4)) != fmt.Sprint(clock.Clocks(plain, 4)) {
			t.Errorf("R5: run %d: spare room is looked at", k)
		}
	}
	l := []event.Event{{Thread: 0}, {Thread: 1, Marks: []event.Mark{}}, {Thread: 0, Marks: []event.Mark{}}, {Thread: 1}}
	check(t, l, table{{}, {}, {0}, {1}})
}
