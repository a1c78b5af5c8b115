package race_test

import (
	"fmt"
	"math"
	"slices"
	"strings"
	"testing"

	"braidwork/event"
	"braidwork/race"
)

// events of a text: "0 w9 r3; 1" is one of thread 0 that writes the object 9 and reads 3, and one of thread 1 without a mark; "" is none.
func events(text string) []event.Event {
	var out []event.Event
	for part := range strings.SplitSeq(text, ";") {
		if words := strings.Fields(part); len(words) > 0 {
			out = append(out, event.New(number(words[0]), marks(words[1:])...))
		}
	}
	return out
}

func marks(words []string) []event.Mark {
	var out []event.Mark
	for _, w := range words {
		out = append(out, event.Mark{Object: number(w[1:]), Write: w[0] == 'w'})
	}
	return out
}

func number(text string) int {
	var out int
	if n, err := fmt.Sscan(text, &out); n != 1 || err != nil {
		panic(text)
	}
	return out
}

// races of a text: "0 2, 1 3" is that of the places 0 and 2, and that of 1 and 3; "" is none.
func races(text string) []race.Race {
	var out []race.Race
	for part := range strings.SplitSeq(text, ",") {
		if words := strings.Fields(part); len(words) > 0 {
			out = append(out, race.Race{First: number(words[0]), Second: number(words[1])})
		}
	}
	return out
}

// at: the events at places.
func at(l []event.Event, places []int) []event.Event {
	var out []event.Event
	for _, i := range places {
		out = append(out, l[i])
	}
	return out
}

// equal: the same events in the same order.
func equal(a, b []event.Event) bool {
	return slices.EqualFunc(a, b, event.Same)
}

func checkAll(t *testing.T, l []event.Event, want []race.Race) {
	t.Helper()
	if got := race.All(l); !slices.Equal(got, want) {
		t.Errorf("P13.1: All is %v, not %v, of %v", got, want, l)
	}
}

func checkText(t *testing.T, text, want string) {
	t.Helper()
	checkAll(t, events(text), races(want))
}

func checkTurned(t *testing.T, l []event.Event, r race.Race, want []event.Event) {
	t.Helper()
	if got := race.Turned(l, r); !equal(got, want) {
		t.Errorf("P13.1: Turned of %v is %v, not %v, of %v", r, got, want, l)
	}
}

// checkPlaces: places of no event at all are none.
func checkPlaces(t *testing.T, text string, first, second int, places ...int) {
	t.Helper()
	l := events(text)
	checkTurned(t, l, race.Race{First: first, Second: second}, at(l, places))
}

func TestExamples(t *testing.T) {
	checkText(t, "0 w1; 1 w1", "0 1")
	checkText(t, "0 w9; 2; 1 w9; 0 w9", "0 2, 2 3")
	checkPlaces(t, "0 w9; 2; 1 w9; 0 w9", 0, 2, 1, 2)
	checkPlaces(t, "0 w9; 2; 1 w9; 0 w9", 2, 3, 0, 1, 3)
	checkPlaces(t, "0 w9; 2; 1 w9; 0 w9", 2, 2)
}

func TestNoEvents(t *testing.T) {
	for _, l := range [][]event.Event{nil, {}, events("0 w1; 1 w1; 0 w1")[:0]} {
		checkAll(t, l, nil)
		for _, first := range odd {
			for _, second := range odd {
				checkTurned(t, l, race.Race{First: first, Second: second}, nil)
			}
		}
	}
}

// odd places: of a list of three, all of its own are among them.
var odd = []int{math.MinInt, math.MinInt + 1, -64, -3, -2, -1, 0, 1, 2, 3, 4, 5, 64, math.MaxInt - 1, math.MaxInt}

func TestOneEvent(t *testing.T) {
	for _, text := range []string{"0", "0 w1", "3 r1 r2 w3", "63 w1", "64 w1"} {
		checkText(t, text, "")
		for _, first := range odd {
			for _, second := range odd {
				checkPlaces(t, text, first, second)
			}
		}
	}
}

// TestOneThread: its events depend on one another, but are no races.
func TestOneThread(t *testing.T) {
	for _, text := range []string{"0; 0; 0", "2 w1; 2 w1; 2 w1", "1 r3; 1; 1 w2 r3", "7 w1; 7 r1; 7 w1"} {
		checkText(t, text, "")
		checkPlaces(t, text, 0, 1, 1)
		checkPlaces(t, text, 0, 2, 2)
		checkPlaces(t, text, 1, 2, 0, 2)
	}
}

func TestNothingInCommon(t *testing.T) {
	for _, text := range []string{"3; 1; 2; 0", "3 w3; 1 w1; 2 w2; 0 w0", "3 r7; 1 r7; 2 r7; 0 r7", "3 r1 w2; 1 r1; 2 r1 w3; 0 r4"} {
		checkText(t, text, "")
		checkPlaces(t, text, 0, 1, 1)
		checkPlaces(t, text, 0, 3, 1, 2, 3)
		checkPlaces(t, text, 1, 3, 0, 2, 3)
		checkPlaces(t, text, 2, 3, 0, 1, 3)
	}
	checkText(t, "1; 0; 1; 0", "")
	checkText(t, "1 w1; 0 w2; 1 w1; 0 w2", "")
}

// TestAllDepend: only neighbours have none between; those of one thread are no races.
func TestAllDepend(t *testing.T) {
	checkText(t, "0 w1; 1 w1; 2 w1; 3 w1", "0 1, 1 2, 2 3")
	checkText(t, "0 w1; 1 w1; 0 w1; 1 w1", "0 1, 1 2, 2 3")
	checkText(t, "0 w1; 0 w1; 1 w1; 1 w1; 2 w1", "1 2, 3 4")
	checkText(t, "0 w1 w2; 1 w1; 2 w1 w2; 3 w1 w2", "0 1, 1 2, 2 3")
	checkPlaces(t, "0 w1; 1 w1; 2 w1; 3 w1", 0, 3, 3)
	checkPlaces(t, "0 w1; 1 w1; 2 w1; 3 w1", 1, 3, 0, 3)
	checkPlaces(t, "0 w1; 1 w1; 2 w1; 3 w1", 2, 3, 0, 1, 3)
}

func TestReadAndWritten(t *testing.T) {
	checkText(t, "0 w5; 1 w5", "0 1")
	checkText(t, "0 w5; 1 r5", "0 1")
	checkText(t, "0 r5; 1 w5", "0 1")
	checkText(t, "0 r5; 1 r5", "")
	checkText(t, "0 w5; 1 w6", "")
	checkText(t, "0 w0; 1 w0", "0 1")
	checkText(t, "1 w5; 0 w5", "0 1")
	checkText(t, "0 w5 r6; 1 w5 w6", "0 1")
	checkText(t, "0 r5 w6; 1 r5 r6", "0 1")
	checkText(t, "0 w9 w4; 1 w4 w9", "0 1")
}

// TestOneBetween: what two have to do with one another by way of a third one is no race, whatever way that is.
func TestOneBetween(t *testing.T) {
	// By a third thread, that touches what both do.
	checkText(t, "0 w1; 2 w1; 1 w1", "0 1, 1 2")
	checkText(t, "0 w1; 2 r1; 1 w1", "0 1, 1 2")
	// By a third thread, that touches something else with each.
	checkText(t, "0 w1 w2; 2 w2 w3; 1 w1 w3", "0 1, 1 2")
	// By two others.
	checkText(t, "0 w1 w2; 2 w2 w3; 3 w3 w4; 1 w1 w4", "0 1, 1 2, 2 3")
	// By an own event of the first one, of the second one, of both.
	checkText(t, "0 w1; 0 w1; 1 w1", "1 2")
	checkText(t, "0 w1; 1 w1; 1 w1", "0 1")
	checkText(t, "0 w1 w2; 0 w2; 1 w2; 1 w1", "1 2")
	checkText(t, "0 w1 w2; 1 w2; 1 w1", "0 1")
	checkText(t, "0 w2; 0 w1; 1 w1 w2", "1 2")
	// By way of a third thread's own order.
	checkText(t, "0 w1 w2; 2 w2; 2 w3; 1 w1 w3", "0 1, 2 3")
	// Of the two ways of the first one only one has one between.
	checkText(t, "0 w1; 2 w1; 1 w1; 3 w1", "0 1, 1 2, 2 3")
}

// TestNoneBetween: others stand between, but not on the way from the one to the other one.
func TestNoneBetween(t *testing.T) {
	// One that has to do with neither, one with the first one alone, one with the second one alone.
	checkText(t, "0 w1; 2; 1 w1", "0 2")
	checkText(t, "0 w1 w2; 2 w2; 1 w1", "0 1, 0 2")
	checkText(t, "0 w1; 2 w2; 1 w1 w2", "0 2, 1 2")
	// One after the first one, and one ahead of the second one, that have nothing to do with one another.
	checkText(t, "0 w1 w2; 2 w2; 3 w3; 1 w1 w3", "0 1, 0 3, 2 3")
	// The other way round: ahead of the second one stands what the first one isn't ahead of yet.
	checkText(t, "0 w1 w2; 2 w3; 3 w2; 1 w1 w3", "0 2, 0 3, 1 3")
	checkText(t, "0 w1; 1; 0; 1 w1", "0 3")
	checkText(t, "0 w1; 1; 2; 1 w1", "0 3")
	checkText(t, "0; 0 w1; 1; 1 w1; 0", "1 3")
	checkText(t, "0 r1; 2 r1; 1 w1", "0 2, 1 2")
	checkText(t, "1 w1; 0 r1; 2 r1", "0 1, 0 2")
}

// TestInOrder: by the second one, then by the first one.
func TestInOrder(t *testing.T) {
	checkText(t, "0 r1; 1 r1; 2 r1; 3 w1", "0 3, 1 3, 2 3")
	checkText(t, "3 r1; 2 r1; 1 r1; 0 w1", "0 3, 1 3, 2 3")
	checkText(t, "0 w1; 1 r1; 2 r1; 3 r1", "0 1, 0 2, 0 3")
	checkText(t, "0 w1; 1 w2; 2 w2; 3 w1", "1 2, 0 3")
	checkText(t, "0 w1; 1 w2; 2 w1; 3 w2", "0 2, 1 3")
	checkText(t, "0 w1 w2; 1 w3; 2 w2; 3 w1 w3", "0 2, 0 3, 1 3")
	checkText(t, "0 r1; 1 r1; 2 w1; 3 r1; 4 r1; 5 w1", "0 2, 1 2, 2 3, 2 4, 3 5, 4 5")
}

// TestPlacesOfTheSameEvents: a race is of places, so it may be told again of the same events.
func TestPlacesOfTheSameEvents(t *testing.T) {
	checkText(t, "0 w1; 1 w1; 0 w1; 1 w1; 0 w1", "0 1, 1 2, 2 3, 3 4")
	checkText(t, "0 w1; 1 r1; 1 r1; 0 w1", "0 1, 2 3")
}

// TestGreatThreads: above 63, and as great as numbers are.
func TestGreatThreads(t *testing.T) {
	checkText(t, "64 w1; 0 w1", "0 1")
	checkText(t, "64 w1; 128 w1; 0 w1", "0 1, 1 2")
	checkText(t, "64; 0; 64", "")
	checkText(t, "63 r1; 64 r1; 65 w1; 127 r1; 128 r1", "0 2, 1 2, 2 3, 2 4")
	checkText(t, "1000000 w1; 9223372036854775807 w1; 4294967296 w1", "0 1, 1 2")
	checkText(t, "4294967296 w1; 0 w1; 4294967296 w1", "0 1, 1 2")
	checkPlaces(t, "64 w1; 128; 9223372036854775807; 64; 0 w1", 0, 4, 1, 2, 4)
}

// TestThreadsBelow0: of these nothing is promised, but that the calls end, and don't panic.
func TestThreadsBelow0(t *testing.T) {
	for _, text := range []string{"-1 w1; 0 w1", "-1; -1; -1", "-64 w1; -9223372036854775808 w1; 5 w1; -64 w1"} {
		race.All(events(text))
		for first := -2; first < 5; first++ {
			for second := -2; second < 5; second++ {
				race.Turned(events(text), race.Race{First: first, Second: second})
			}
		}
	}
}

// TestPlacesThatAreNot: not rising, alike, below 0, beyond the end.
func TestPlacesThatAreNot(t *testing.T) {
	l := events("0 w1; 1 w1; 2 w1")
	for _, first := range odd {
		for _, second := range odd {
			if first < 0 || first >= second || second > 2 {
				checkTurned(t, l, race.Race{First: first, Second: second}, nil)
			}
		}
	}
	checkPlaces(t, "0 w1; 1 w1; 2 w1", 0, 1, 1)
	checkPlaces(t, "0 w1; 1 w1; 2 w1", 1, 2, 0, 2)
	checkPlaces(t, "0 w1; 1 w1; 2 w1", 0, 2, 2)
	// What stands in the spare room isn't there.
	checkTurned(t, l[:2], race.Race{First: 0, Second: 2}, nil)
	checkTurned(t, l[:2], race.Race{First: 1, Second: 2}, nil)
}

// TestTurned: the first one is told no more, nor is anything behind the second one.
func TestTurned(t *testing.T) {
	const text = "4; 0 w1 w2; 2 w2; 3 w3; 0 w3; 2; 3 r3; 5; 1 w1; 0 w1; 1"
	checkText(t, text, "1 2, 3 4, 4 6, 1 8, 8 9")
	checkPlaces(t, text, 1, 8, 0, 3, 7, 8)
	checkPlaces(t, text, 1, 2, 0, 2)
	checkPlaces(t, text, 3, 4, 0, 1, 2, 4)
	checkPlaces(t, text, 4, 6, 0, 1, 2, 3, 5, 6)
	checkPlaces(t, text, 8, 9, 0, 1, 2, 3, 4, 5, 6, 7, 9)
}

// TestTurnedAheadOfAll: of those between, the first one happens ahead of all, of some, of none.
func TestTurnedAheadOfAll(t *testing.T) {
	checkPlaces(t, "3; 0 w1 r2; 0; 2 w2; 0 w5; 1 w1", 1, 5, 0, 5)
	checkPlaces(t, "3; 0 w1 r2; 1; 2 w2; 4 w5; 1 w1", 1, 5, 0, 2, 4, 5)
	checkPlaces(t, "3; 0 w1 r2; 1; 2 r2; 4 w5; 1 w1", 1, 5, 0, 2, 3, 4, 5)
	// By way of others: what depends on one that is left out is left out, too.
	checkPlaces(t, "0 w1 w2; 2 w2; 2; 3 w3; 2 w3; 3 r3; 1 w1", 0, 6, 3, 6)
	// It doesn't matter what is between by the others, only by the first one.
	checkPlaces(t, "3 w4; 0 w1; 2 w4; 3; 1 w1", 1, 4, 0, 2, 3, 4)
}

// TestTurnedOfNoRace: of any two rising places the same is told.
func TestTurnedOfNoRace(t *testing.T) {
	// With one between.
	checkPlaces(t, "0 w1; 2 w1; 3; 1 w1", 0, 3, 2, 3)
	// They have nothing to do with one another.
	checkPlaces(t, "0 w1; 2 r1; 3; 1 w2", 0, 3, 2, 3)
	checkPlaces(t, "0; 1", 0, 1, 1)
	// They are of one thread.
	checkPlaces(t, "0 w1; 2 r1; 3; 0 w2", 0, 3, 2, 3)
	// The second one is told though it is behind one that is left out.
	checkPlaces(t, "0 w1; 2 r1; 2; 2", 0, 3, 3)
}

// TestMarksInAnyOrder: of events that event.New didn't make; they stay as they are.
func TestMarksInAnyOrder(t *testing.T) {
	l := []event.Event{
		{Thread: 4, Marks: marks([]string{"r9", "w4", "r9"})},
		{Thread: 3, Marks: marks([]string{"r9", "r4", "r1"})},
		{Thread: 2, Marks: marks([]string{"r9", "r8", "r1"})},
		{Thread: 1, Marks: marks([]string{"r1", "w8"})},
		{Thread: 0, Marks: marks([]string{"w9", "r1"})},
	}
	checkAll(t, l, races("0 1, 2 3, 1 4, 2 4"))
	checkTurned(t, l, race.Race{First: 1, Second: 4}, at(l, []int{0, 2, 3, 4}))
	checkTurned(t, l, race.Race{First: 0, Second: 4}, at(l, []int{2, 3, 4}))
}

// TestLongRuns: they end.
func TestLongRuns(t *testing.T) {
	const many = 2000
	var alike, unlike []event.Event
	var want []race.Race
	for i := range many {
		alike = append(alike, event.New(i%5, event.Mark{Object: 1, Write: true}))
		unlike = append(unlike, event.New(i%5, event.Mark{Object: i % 5, Write: true}))
		if i > 0 {
			want = append(want, race.Race{First: i - 1, Second: i})
		}
	}
	checkAll(t, alike, want)
	checkAll(t, unlike, nil)
	checkTurned(t, alike, race.Race{First: 1, Second: many - 1}, []event.Event{alike[0], alike[many-1]})
	var rest []event.Event
	for i, e := range unlike[:many-1] {
		if i%5 != 0 {
			rest = append(rest, e)
		}
	}
	checkTurned(t, unlike, race.Race{First: 0, Second: many - 1}, append(rest, unlike[many-1]))
}

// TestManyRaces: each of many that come first with each of many others.
func TestManyRaces(t *testing.T) {
	const many = 60
	var l []event.Event
	var all []event.Mark
	var want []race.Race
	for i := range many {
		l = append(l, event.New(i, event.Mark{Object: i, Write: true}))
		all = append(all, event.Mark{Object: i})
	}
	for i := range many {
		l = append(l, event.New(many+i, all...))
		for first := range many {
			want = append(want, race.Race{First: first, Second: many + i})
		}
	}
	checkAll(t, l, want)
}
