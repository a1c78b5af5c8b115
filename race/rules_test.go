package race_test

import (
	"fmt"
	"math"
	"slices"
	"testing"
	"unsafe"

	"braidwork/event"
	"braidwork/race"
)

// roomy: a run whose lists, of events and of marks, have spare room in which something stands.
func roomy(many int) []event.Event {
	l := events("2 w9 r3; 1; 1 w9 r1; 0 r3; 2 w3; 3 w5 w6; 1 w6; 0 w9; 2 w9")
	for i := range l {
		all := append(slices.Clone(l[i].Marks), event.Mark{Object: 9, Write: true}, event.Mark{Object: 5})
		l[i].Marks = all[:len(all)-2]
	}
	return l[:many]
}

// shared: a run whose events have one list of marks.
func shared() []event.Event {
	l := append(events("5 w1 r2")[0].Marks, event.Mark{Object: 3})
	return []event.Event{{Thread: 2, Marks: l[:2]}, {Thread: 1, Marks: l[:2]}, {Thread: 0, Marks: l[1:2]}, {Thread: 2, Marks: l[:2]}}
}

// unsorted: a run whose marks stand in no order.
func unsorted() []event.Event {
	return []event.Event{{Thread: 1, Marks: marks([]string{"r9", "w4", "r9"})}, {Thread: 0, Marks: marks([]string{"w4", "r9", "r1"})}, {Thread: 2, Marks: marks([]string{"r8", "w1"})}}
}

// runs: each in memory of its own.
func runs() [][]event.Event {
	return [][]event.Event{nil, {}, roomy(0), roomy(1), roomy(2), roomy(4), roomy(7), roomy(9), shared(), unsorted()}
}

// inFull: all that stands in lists, spare room included.
func inFull(l []event.Event) string {
	out := ""
	for _, e := range l[:cap(l)] {
		out += fmt.Sprintln(e.Thread, len(e.Marks), e.Marks[:cap(e.Marks)])
	}
	return out
}

// wreck: writes over all that stands in lists, spare room included.
func wreck(l []event.Event) {
	l = l[:cap(l)]
	for i := range l {
		all := l[i].Marks[:cap(l[i].Marks)]
		for k := range all {
			all[k] = event.Mark{Object: 77, Write: true}
		}
		l[i] = event.Event{Thread: 77}
	}
}

// lists: what is answered of Turned at each two places, and some beside.
func lists(l []event.Event) [][]event.Event {
	var out [][]event.Event
	for first := -1; first <= len(l); first++ {
		for second := -1; second <= len(l); second++ {
			out = append(out, race.Turned(l, race.Race{First: first, Second: second}))
		}
	}
	return out
}

// told: all that is answered of a run.
func told(l []event.Event) string {
	out := fmt.Sprintln(race.All(l))
	for _, answer := range lists(l) {
		out += fmt.Sprintln(answer)
	}
	return out
}

func TestWhatIsHandedInIsNotChanged(t *testing.T) {
	for k, l := range runs() {
		before := inFull(l)
		told(l)
		race.Turned(l, race.Race{First: math.MinInt, Second: math.MaxInt})
		race.Turned(l, race.Race{First: 0, Second: math.MaxInt})
		if inFull(l) != before {
			t.Errorf("R5: run %d is changed", k)
		}
	}
}

// TestAnswersDoNotKeepWhatIsHandedIn: they stay, whatever becomes of it.
func TestAnswersDoNotKeepWhatIsHandedIn(t *testing.T) {
	for k, l := range runs() {
		all, answers := race.All(l), lists(l)
		before := fmt.Sprint(all, answers)
		wreck(l)
		if fmt.Sprint(all, answers) != before {
			t.Errorf("R5: answers of run %d share memory with it", k)
		}
	}
}

// overlap: do lists share any memory, spare room included?
func overlap[T any](a, b []T) bool {
	if cap(a) == 0 || cap(b) == 0 {
		return false
	}
	a, b = a[:cap(a)], b[:cap(b)]
	p, q := uintptr(unsafe.Pointer(&a[0])), uintptr(unsafe.Pointer(&b[0]))
	size := unsafe.Sizeof(a[0])
	return p < q+uintptr(len(b))*size && q < p+uintptr(len(a))*size
}

// TestAnswersAreNewMemory: each list by itself, of answers, and of the events in them, against those of others and of what was handed in.
func TestAnswersAreNewMemory(t *testing.T) {
	for k, l := range runs() {
		var handed [][]event.Mark
		for _, e := range l[:cap(l)] {
			handed = append(handed, e.Marks)
		}
		all := lists(l)
		for i, answer := range all {
			for _, other := range append(slices.Clone(all[:i]), l) {
				if overlap(answer, other) {
					t.Fatalf("R5: run %d: answer %d shares its list", k, i)
				}
			}
			for _, e := range answer[:cap(answer)] {
				for _, other := range handed {
					if overlap(e.Marks, other) {
						t.Fatalf("R5: run %d: marks of answer %d share memory", k, i)
					}
				}
				handed = append(handed, e.Marks)
			}
		}
		if overlap(race.All(l), race.All(l)) {
			t.Errorf("R5: run %d: All answers the same list again", k)
		}
	}
}

// TestAnswersWrittenOver: what is answered later doesn't hang on them.
func TestAnswersWrittenOver(t *testing.T) {
	for k, l := range runs() {
		before, want := inFull(l), told(l)
		for _, answer := range lists(l) {
			wreck(answer)
		}
		all := race.All(l)
		for i := range all[:cap(all)] {
			all[:cap(all)][i] = race.Race{First: 99, Second: 99}
		}
		if inFull(l) != before || told(l) != want {
			t.Errorf("R5: run %d: what was answered is kept", k)
		}
	}
}

func TestAlikeEachTime(t *testing.T) {
	all := runs()
	for k, l := range all {
		first := told(l)
		for _, other := range all {
			told(other)
		}
		if told(l) != first {
			t.Errorf("R6: run %d: another answer the second time", k)
		}
	}
}

// TestSpareRoomIsNotLookedAt: nor do nil and empty lists differ (R4).
func TestSpareRoomIsNotLookedAt(t *testing.T) {
	for k, l := range runs() {
		var plain []event.Event
		for _, e := range l {
			plain = append(plain, event.Event{Thread: e.Thread, Marks: slices.Clip(slices.Clone(e.Marks))})
		}
		if told(l) != told(slices.Clip(plain)) {
			t.Errorf("R5: run %d: spare room is looked at", k)
		}
	}
	none, empty := events("1; 0; 1; 2 w1; 0 w1"), events("1; 0; 1; 2 w1; 0 w1")
	for i := range empty[:3] {
		none[i].Marks, empty[i].Marks = nil, []event.Mark{}
	}
	if told(none) != told(empty) {
		t.Error("R4: an empty list isn't as none")
	}
}
