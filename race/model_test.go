package race_test

import (
	"slices"
	"testing"

	"braidwork/braid"
	"braidwork/event"
	"braidwork/race"
)

// closed: of each place which places happen ahead of it: those that it depends on, and then, as long as something is added, those that happen ahead of one that happens ahead of it.
func closed(l []event.Event) [][]bool {
	is := make([][]bool, len(l))
	for j := range l {
		is[j] = make([]bool, len(l))
		for i := range j {
			is[j][i] = event.Depend(l[j], l[i])
		}
	}
	for added := true; added; {
		added = addWays(is)
	}
	return is
}

// addWays: is one of them ahead by another one, though it wasn't noted?
func addWays(is [][]bool) bool {
	added := false
	for i := range is {
		for by := range is {
			for j := range is {
				if is[by][i] && is[j][by] && !is[j][i] {
					is[j][i], added = true, true
				}
			}
		}
	}
	return added
}

// plainAll: a second reading of the chapter, word by word: each pair is looked at, and each one that may be between.
func plainAll(l []event.Event) []race.Race {
	is := closed(l)
	var out []race.Race
	for second := range l {
		for first := range second {
			if l[first].Thread == l[second].Thread || !event.Depend(l[first], l[second]) {
				continue
			}
			none := true
			for k := range l {
				none = none && !(is[k][first] && is[second][k])
			}
			if none {
				out = append(out, race.Race{First: first, Second: second})
			}
		}
	}
	return out
}

// plainTurned: the same of Turned.
func plainTurned(l []event.Event, is [][]bool, r race.Race) []event.Event {
	var out []event.Event
	if r.First < 0 || r.Second > len(l)-1 || r.First >= r.Second {
		return nil
	}
	for i, e := range l {
		ahead := i < r.First
		between := r.First < i && i < r.Second && !is[i][r.First]
		if ahead || between || i == r.Second {
			out = append(out, e)
		}
	}
	return out
}

// checkRead: against the second reading, at all places, and some beside.
func checkRead(t *testing.T, l []event.Event) {
	t.Helper()
	checkAll(t, l, plainAll(l))
	is := closed(l)
	for first := -2; first < len(l)+2; first++ {
		for second := -2; second < len(l)+2; second++ {
			r := race.Race{First: first, Second: second}
			checkTurned(t, l, r, plainTurned(l, is, r))
		}
	}
}

// TestAllShortRuns: of three threads, that touch two objects, all runs of up to four events.
func TestAllShortRuns(t *testing.T) {
	checkLonger(t, nil, events("0; 0 w1; 0 r1 w2; 1 r1; 1 w1; 1 r1 r2; 2; 2 w2; 2 r1 w2"), 4)
}

// TestAllRunsOfFew: of fewer events, but longer, so that there is a way by several.
func TestAllRunsOfFew(t *testing.T) {
	checkLonger(t, nil, events("0 w1; 1 w1 r2; 2 w2; 3"), 6)
	checkLonger(t, nil, events("0 r1; 1 w1; 2 r1"), 7)
}

func checkLonger(t *testing.T, l, from []event.Event, more int) {
	if t.Failed() {
		return
	}
	checkRead(t, l)
	if more == 0 {
		return
	}
	for _, e := range from {
		checkLonger(t, append(slices.Clone(l), e), from, more-1)
	}
}

// source of numbers, always the same ones.
type source uint64

func (s *source) below(n int) int {
	*s = *s*6364136223846793005 + 1442695040888963407
	return int(uint64(*s)>>33) % n
}

// event: some have no mark, some one, some several; the more objects there are, the fewer depend on one another.
func (s *source) event(threads, objects int) event.Event {
	var l []event.Mark
	for range max(s.below(6)-2, 0) {
		l = append(l, event.Mark{Object: s.below(objects), Write: s.below(3) == 0})
	}
	e := event.New(s.below(threads), l...)
	if s.below(4) == 0 {
		e.Marks = l
	}
	return e
}

func (s *source) run(many, threads, objects int) []event.Event {
	var l []event.Event
	for range many {
		l = append(l, s.event(threads, objects))
	}
	return l
}

func TestMadeRuns(t *testing.T) {
	s := source(13)
	many := 0
	for range 500 {
		l := s.run(15+s.below(11), 1+s.below(6), 1+s.below(12))
		checkRead(t, l)
		many += len(race.All(l))
		if t.Failed() {
			return
		}
	}
	if many < 1000 {
		t.Errorf("only %d races were made", many)
	}
}

// TestLongMadeRuns: of so many events that their places as bits are several words, and of threads above 63.
func TestLongMadeRuns(t *testing.T) {
	s := source(14)
	for range 10 {
		l := s.run(100+s.below(100), 90, 80)
		checkAll(t, l, plainAll(l))
		is := closed(l)
		for range 100 {
			r := race.Race{First: s.below(len(l)), Second: s.below(len(l))}
			checkTurned(t, l, r, plainTurned(l, is, r))
		}
		if t.Failed() {
			return
		}
	}
}

// beyond all other objects: one of an event's own, which it reads alone, so that it can be found again.
const beyond = 1000

// tagged: the same events, each with an object of its own.
func tagged(l []event.Event) []event.Event {
	var out []event.Event
	for i, e := range l {
		out = append(out, event.New(e.Thread, append(slices.Clone(e.Marks), event.Mark{Object: beyond + i})...))
	}
	return out
}

// placesOf: where tagged events stood.
func placesOf(l []event.Event) []int {
	var out []int
	for _, e := range l {
		out = append(out, e.Marks[len(e.Marks)-1].Object-beyond)
	}
	return out
}

// checkMeant: what Turned is for. What it leaves out can come behind all else that it tells, ahead of the second one; and of a race, it tells all that happens ahead of the second one, but the first one, so that the second one can come without it.
func checkMeant(t *testing.T, l []event.Event, r race.Race) {
	t.Helper()
	places := placesOf(race.Turned(l, r))
	late := slices.Clone(places[:len(places)-1])
	is := closed(l)
	for i := range r.Second {
		if slices.Contains(places, i) {
			continue
		}
		late = append(late, i)
		if i != r.First && is[r.Second][i] {
			t.Errorf("P13.1: Turned of %v leaves out %d of %v", r, i, l)
		}
	}
	if !braid.Same(at(l, late), l[:r.Second]) {
		t.Errorf("P13.1: Turned of %v is of %v, of %v: what is left out can't come later", r, places, l)
	}
}

func TestWhatTurnedIsFor(t *testing.T) {
	s := source(15)
	for range 300 {
		l := tagged(s.run(20, 5, 1+s.below(12)))
		for _, r := range race.All(l) {
			checkMeant(t, l, r)
		}
		if t.Failed() {
			return
		}
	}
}

// TestSwapsKeepRaces: runs that are the same but for swaps have as many races, of the same events.
func TestSwapsKeepRaces(t *testing.T) {
	s := source(16)
	for range 200 {
		l := s.run(20, 5, 1+s.below(12))
		places := braid.Normal(l)
		var want []race.Race
		for _, r := range race.All(l) {
			want = append(want, race.Race{First: slices.Index(places, r.First), Second: slices.Index(places, r.Second)})
		}
		slices.SortFunc(want, func(a, b race.Race) int {
			if a.Second != b.Second {
				return a.Second - b.Second
			}
			return a.First - b.First
		})
		checkAll(t, braid.Form(l), want)
		if t.Failed() {
			return
		}
	}
}

// TestOnlyWhatIsAheadCounts: the races of a run's beginning are the first ones of the run, and what is behind the second one doesn't change what is turned.
func TestOnlyWhatIsAheadCounts(t *testing.T) {
	s := source(17)
	for range 100 {
		l := s.run(20, 5, 1+s.below(12))
		all := race.All(l)
		for many := range len(l) {
			var want []race.Race
			for _, r := range all {
				if r.Second < many {
					want = append(want, r)
				}
			}
			checkAll(t, l[:many], want)
		}
		for _, r := range all {
			checkTurned(t, l[:r.Second+1], r, race.Turned(l, r))
			checkTurned(t, l[:r.Second], r, nil)
		}
		if t.Failed() {
			return
		}
	}
}
