package braid_test

import (
	"fmt"
	"math"
	"slices"
	"testing"
	"unsafe"

	"braidwork/braid"
	"braidwork/event"
)

// roomy: a run whose lists, of events and of marks, have spare room in which something stands.
func roomy(many int) []event.Event {
	l := events("2 w9 r3; 1; 1 w9 r1; 0 r3; 2 w3; 3 w5 w6; 1 w6; 0 w9; 2 w9")
	for i := range l {
		all := append(slices.Clone(l[i].Marks), event.Mark{Object: 9, Write: true}, event.Mark{Object: 5})
		l[i].Marks = all[:len(all)-2]
	}
	return l[:many]
}

// shared: a run whose events have one list of marks.
func shared() []event.Event {
	l := append(events("5 r1 r2")[0].Marks, event.Mark{Object: 3})
	return []event.Event{{Thread: 2, Marks: l[:2]}, {Thread: 1, Marks: l[:2]}, {Thread: 0, Marks: l[1:2]}, {Thread: 2, Marks: l[:2]}}
}

// runs: each in memory of its own.
func runs() [][]event.Event {
	return [][]event.Event{nil, {}, roomy(0), roomy(1), roomy(2), roomy(4), roomy(7), roomy(9), shared()}
}

// inFull: all that stands in lists, spare room included.
func inFull(l []event.Event) string {
	out := ""
	for _, e := range l[:cap(l)] {
		out += fmt.Sprintln(e.Thread, len(e.Marks), e.Marks[:cap(e.Marks)])
	}
	return out
}

// wreck: writes over all that stands in lists, spare room included.
func wreck(l []event.Event) {
	l = l[:cap(l)]
	for i := range l {
		all := l[i].Marks[:cap(l[i].Marks)]
		for k := range all {
			all[k] = event.Mark{Object: 77, Write: true}
		}
		l[i] = event.Event{Thread: 77}
	}
}

// lists: all runs that are answered of one, Swap's at each place.
func lists(l []event.Event) [][]event.Event {
	out := [][]event.Event{braid.Form(l)}
	for i := -1; i <= len(l); i++ {
		if got, ok := braid.Swap(l, i); ok {
			out = append(out, got)
		}
	}
	return out
}

// told: all that is answered of a run.
func told(l []event.Event) string {
	out := fmt.Sprintln(braid.Normal(l), braid.Initials(l), braid.Same(l, l), braid.Same(l, roomy(9)), braid.Same(roomy(9), l))
	for _, answer := range lists(l) {
		out += fmt.Sprintln(answer)
	}
	return out
}

func TestWhatIsHandedInIsNotChanged(t *testing.T) {
	for k, l := range runs() {
		before := inFull(l)
		told(l)
		braid.Swap(l, math.MinInt)
		braid.Swap(l, math.MaxInt)
		if inFull(l) != before {
			t.Errorf("R5: run %d is changed", k)
		}
	}
}

// TestAnswersDoNotKeepWhatIsHandedIn: they stay, whatever becomes of it.
func TestAnswersDoNotKeepWhatIsHandedIn(t *testing.T) {
	for k, l := range runs() {
		places, answers := braid.Normal(l), lists(l)
		before := fmt.Sprint(places, answers)
		wreck(l)
		if fmt.Sprint(places, answers) != before {
			t.Errorf("R5: answers of run %d share memory with it", k)
		}
	}
}

// overlap: do lists share any memory, spare room included?
func overlap[T any](a, b []T) bool {
	if cap(a) == 0 || cap(b) == 0 {
		return false
	}
	a, b = a[:cap(a)], b[:cap(b)]
	p, q := uintptr(unsafe.Pointer(&a[0])), uintptr(unsafe.Pointer(&b[0]))
	size := unsafe.Sizeof(a[0])
	return p < q+uintptr(len(b))*size && q < p+uintptr(len(a))*size
}

// TestAnswersAreNewMemory: each list by itself, of answers, and of the events in them, against those of others and of what was handed in.
func TestAnswersAreNewMemory(t *testing.T) {
	for k, l := range runs() {
		all := append(lists(l), lists(l)...)
		var own [][]event.Mark
		for i := range all {
			for _, other := range append(slices.Clone(all[:i]), l) {
				if overlap(all[i], other) {
					t.Fatalf("R5: run %d: answer %d shares its list", k, i)
				}
			}
			for _, e := range all[i] {
				own = append(own, e.Marks)
			}
		}
		var handed [][]event.Mark
		for _, e := range l[:cap(l)] {
			handed = append(handed, e.Marks)
		}
		for i := range own {
			for _, other := range append(slices.Clone(own[:i]), handed...) {
				if overlap(own[i], other) {
					t.Fatalf("R5: run %d: marks of an answer share memory", k)
				}
			}
		}
		if overlap(braid.Normal(l), braid.Normal(l)) {
			t.Errorf("R5: run %d: Normal answers the same list again", k)
		}
	}
}

// TestAnswersWrittenOver: what is answered later doesn't hang on them.
func TestAnswersWrittenOver(t *testing.T) {
	for k, l := range runs() {
		before, want := inFull(l), told(l)
		for _, answer := range lists(l) {
			wreck(answer)
		}
		places := braid.Normal(l)
		for i := range places[:cap(places)] {
			places[:cap(places)][i] = 99
		}
		if inFull(l) != before || told(l) != want {
			t.Errorf("R5: run %d: what was answered is kept", k)
		}
	}
}

func TestAlikeEachTime(t *testing.T) {
	all := runs()
	for k, l := range all {
		first := told(l)
		for _, other := range all {
			told(other)
		}
		if told(l) != first {
			t.Errorf("R6: run %d: another answer the second time", k)
		}
	}
}

// TestSpareRoomIsNotLookedAt: nor do nil and empty lists differ (R4).
func TestSpareRoomIsNotLookedAt(t *testing.T) {
	for k, l := range runs() {
		var plain []event.Event
		for _, e := range l {
			plain = append(plain, event.New(e.Thread, e.Marks...))
		}
		if told(l) != told(plain) {
			t.Errorf("R5: run %d: spare room is looked at", k)
		}
	}
	a := []event.Event{{Thread: 1}, {Thread: 0, Marks: []event.Mark{}}, {Thread: 1, Marks: []event.Mark{}}, {Thread: 0}}
	b := []event.Event{{Thread: 0}, {Thread: 0, Marks: []event.Mark{}}, {Thread: 1, Marks: []event.Mark{}}, {Thread: 1}}
	checkNormal(t, a, 1, 3, 0, 2)
	checkSame(t, a, b, true)
}

// TestNothingBesideFalse: not even a list as it was (R3).
func TestNothingBesideFalse(t *testing.T) {
	for k, l := range runs() {
		for i := -2; i < len(l)+2; i++ {
			if got, ok := braid.Swap(l, i); !ok && len(got) != 0 {
				t.Errorf("R3: run %d: Swap at %d is %v beside false", k, i, got)
			}
		}
	}
}
